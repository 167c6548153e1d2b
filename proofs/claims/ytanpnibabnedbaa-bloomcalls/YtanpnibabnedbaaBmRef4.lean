/-
  Two filters put together, by the document's own answer.
-/
import Derived.Test.YtanpnibabnedbaaBmBoth2
namespace Go.Proofs.Ytanpnibabnedbaa
open Go.RowKit

/-- The first j of both together, the others of the one. -/
def upTo (a b : List UInt8) (j : Nat) : List UInt8 := (Bm.both a b).take j ++ a.drop j
theorem upTo_length (a b : List UInt8) (j : Nat) (h : a.length = b.length) (hj : j ≤ a.length) : (upTo a b j).length = a.length := by
  unfold upTo
  rw [List.length_append, List.length_take, List.length_drop, Bm.both_length a b h]
  omega
theorem upTo_all (a b : List UInt8) (h : a.length = b.length) : upTo a b a.length = Bm.both a b := by
  unfold upTo
  rw [List.drop_length, List.take_of_length_le (by rw [Bm.both_length a b h]; omega), List.append_nil]
theorem upTo_one (a b : List UInt8) (h : a.length = b.length) (h0 : 0 < a.length) (hh : a.headD 0 = b.headD 0) : upTo a b 1 = a := by
  cases a with
  | nil => simp at h0
  | cons x a =>
    cases b with
    | nil => simp at h
    | cons y b =>
      obtain rfl : x = y := hh
      simp [upTo, Bm.both]
theorem upTo_get (a b : List UInt8) (j : Nat) (h : a.length = b.length) (hj : j < a.length) : (upTo a b j)[j]'(by rw [upTo_length a b j h (by omega)]; exact hj) = a[j] := by
  unfold upTo
  rw [List.getElem_append_right (by rw [List.length_take]; omega)]
  simp only [List.length_take, List.getElem_drop, Bm.both_length a b h]
  congr 1
  omega
theorem upTo_set (a b : List UInt8) (j : Nat) (h : a.length = b.length) (hj : j < a.length) : (upTo a b j).set j (a[j] ||| b[j]) = upTo a b (j + 1) := by
  unfold upTo
  have hb : j < (Bm.both a b).length := by rw [Bm.both_length a b h]; exact hj
  rw [List.set_append_right _ _ (by rw [List.length_take]; omega), List.length_take, Nat.min_eq_left (by omega), Nat.sub_self, List.take_succ_eq_append_getElem hb, List.drop_eq_getElem_cons hj, List.set_cons_zero]
  simp [Bm.both]

set_option maxHeartbeats 1600000 in
theorem rboth_ok (w : World) (b1 o1 c1 b2 o2 c2 : Nat) (f g : List UInt8) (hf : BytesAt w b1 o1 f) (hg : BytesAt w b2 o2 g) (hl : f.length ≤ 100000) (k1 : Bm.ok f = true) (k2 : Bm.ok g = true) (he : f.length = g.length) (hh : f.headD 0 = g.headD 0) :
    Calls Try.prog 18 #[.slice (some ⟨b1, o1, none⟩) f.length c1, .slice (some ⟨b2, o2, none⟩) g.length c2] w fun e w' => ∃ B cp, e = .returned (.tuple #[.slice (some ⟨B, 0, none⟩) f.length cp, .int .i64 0]) ∧ Ext w.heap.size w (.slice none 0 0) w' (.slice (some ⟨B, 0, none⟩) f.length cp) (Bm.both f g) := by
  have OK := (ok_iff f).mp k1
  have CH : Hid (Calls Try.prog 20 #[.slice (some ⟨b1, o1, none⟩) f.length c1] w fun e w' => e = .returned (.int .i64 0) ∧ w' = w) := by
    have := rcheck_any w (some ⟨b1, o1, none⟩) c1 f ⟨⟨_, c1, rfl, fun _ => ⟨b1, o1, rfl, hf⟩⟩, by omega⟩
    rwa [okE_ok k1] at this
  have CG : Hid (Calls Try.prog 20 #[.slice (some ⟨b2, o2, none⟩) g.length c2] w fun e w' => e = .returned (.int .i64 0) ∧ w' = w) := by
    have := rcheck_any w (some ⟨b2, o2, none⟩) c2 g ⟨⟨_, c2, rfl, fun _ => ⟨b2, o2, rfl, hg⟩⟩, by omega⟩
    rwa [okE_ok k2] at this
  have d0 := hf 0 (by omega)
  have e0 := hg 0 (by omega)
  obtain ⟨k, hk⟩ : ∃ k : Nat, k = (f.headD 0).toNat := ⟨_, rfl⟩
  rw [headD_get f (by omega), ← hk, Nat.add_zero] at d0
  rw [headD_get g (by omega), ← hh, ← hk, Nat.add_zero] at e0
  rw [← he] at CG ⊢
  obtain ⟨n, hn⟩ : ∃ n, n = f.length := ⟨_, rfl⟩
  have n2 : 2 ≤ n := by omega
  have HN : Hid (n = f.length ∧ f.length = g.length) := ⟨hn, he⟩
  have HFA : Hid (BytesAt w b1 o1 f) := hf
  have HGA : Hid (BytesAt w b2 o2 g) := hg
  have HFI : Hid (∀ (wx : World) nq, wx = w → BytesIn ((wx.drewN nq).alloc (.cells #[] 5)) (.slice (some ⟨b1, o1, none⟩) n c1) f) := fun wx nq e => by
    subst e
    rw [hn]
    exact (⟨⟨_, c1, rfl, fun _ => ⟨b1, o1, rfl, hf⟩⟩, by omega⟩ : BytesIn wx (.slice (some ⟨b1, o1, none⟩) f.length c1) f).later ((below_drewN (Below.refl _ _) nq).alloc (Nat.le_refl _) _)
  have L0 : Hid (∀ (wx : World) nq, wx = w → Ext w.heap.size (wx.drewN nq) (.slice none 0 0) ((wx.drewN nq).alloc (.cells #[] 5)) (.slice (some ⟨w.heap.size, 0, none⟩) 0 0) []) := fun wx nq e => by
    subst e
    exact Ext.lit0 wx.heap.size (wx.drewN nq) #[] [] 0 (Nat.le_refl _) rfl rfl (by decide)
  have EN : Hid (upTo f g f.length = Bm.both f g ∧ (Bm.both f g).length = f.length ∧ upTo f g 1 = f) := ⟨upTo_all f g he, Bm.both_length f g he, upTo_one f g he (by omega) hh⟩
  rw [← hn] at CH CG ⊢
  have i0 : (0 : Int) < (n : Int) := by omega
  have nle : n ≤ 100000 := by omega
  have NL : Hid (f.length ≤ 140737488355328) := by show _ ≤ _; omega
  have iN : ((n : Int) != (n : Int)) = false := by simp
  have iK : ((k : Int) != (k : Int)) = false := by simp
  clear hn he hf hg hl k1 k2 hh OK hk
  go_enter Try.func18, Try.ntmps18
  go_wp2_with (first
    | (have gate := CH; go_at_call 20; refine gate.out.mono ?_; rintro e w1 ⟨rfl, rfl⟩; clear CH gate)
    | (have gate := CG; go_at_call 20; refine gate.out.mono ?_; rintro e w2 ⟨rfl, rfl⟩; clear CG gate))
  go_quiet (fail)
  have X0 := L0.out w2 nq rfl
  have V0 := HFI.out w2 nq rfl
  have z0 : w2.heap.size ≤ ((w2.drewN nq).alloc (.cells #[] 5)).heap.size := by simp
  clear L0 HFI
  go_wp2_with (at_builtin; refine wpList_copy_bytes _ rfl _ _ rfl w2.heap.size w2.heap.size f n c1 HN.out.1 rfl X0.own (some ⟨b1, o1, none⟩) rfl V0 (fun e => by cases e) NL.out z0 ?_; intro g1 cap1 L1 w1 HL1 hx1; have R := X0.trans hx1; clear X0 hx1 V0)
  have hz : L1 = n := by rw [HL1.out]; exact HN.out.1.symm
  subst hz
  have o0 : w1.ownsRow w2.heap.size 5 1 (.slice (some ⟨g1, 0, none⟩) L1 cap1) L1 (bc (upTo f g 1)) := by
    have := R.own
    rw [← HN.out.1] at this
    rw [EN.out.2.2]
    exact this
  have g0 : w2.grownBy w1 none := by
    have g := R.grown
    exact ⟨g.os, g.tape, g.output, g.size, fun i hi hne => g.block i hi (by simp [Value.ownBlock])⟩
  have gl := (own_cap o0).2.2
  clear R d0 e0 iN iK HL1 z0
  go_loopw [7] (fun i wr => ∃ j : Nat, 1 ≤ j ∧ j ≤ L1 ∧ i = .int .i64 j ∧ wr.ownsRow w2.heap.size 5 1 (.slice (some ⟨g1, 0, none⟩) L1 cap1) L1 (bc (upTo f g j)) ∧ w2.grownBy wr none) (fun i _ => L1 - (intOf i).toNat)
  case atStart => exact ⟨1, Nat.le_refl _, by omega, rfl, o0, g0⟩
  case round =>
    obtain ⟨j, j1, hj, rfl, ho, hg⟩ := hrel
    clear o0 g0
    by_cases hlt : j < L1
    · have jf : j < f.length := by have := HN.out; omega
      have jg : j < g.length := by have := HN.out; omega
      have c2' := keepC (below_of hg) (HGA.out j jg)
      have f0 := ho.frozenAt j
      have HS : Hid (∀ X : Int, X = ((f[j] ||| g[j]).toNat : Int) → (wr.setCell ⟨g1, j, none⟩ (.int .u8 X)).ownsRow w2.heap.size 5 1 (.slice (some ⟨g1, 0, none⟩) L1 cap1) L1 (bc (upTo f g (j + 1))) ∧ w2.grownBy (wr.setCell ⟨g1, j, none⟩ (.int .u8 X)) none) := fun X hX => by
        obtain ⟨s1, s2⟩ := ho.stored j (.int .u8 X)
        rw [hX, bc_set, upTo_set f g j HN.out.2 jf] at s1
        rw [hX] at s2 ⊢
        exact ⟨s1, grownBy_trans hg s2 (.inr ⟨_, rfl, gl⟩)⟩
      obtain ⟨x, hx⟩ : ∃ x : UInt8, x = f[j] := ⟨_, rfl⟩
      obtain ⟨y, hy⟩ : ∃ y : UInt8, y = g[j] := ⟨_, rfl⟩
      have du : wr.cell? ⟨g1, j, none⟩ = some (.int .u8 (x.toNat : Int)) := by
        rw [ho.cellAt j (by omega), bc_get _ _ (by rw [upTo_length f g j HN.out.2 (by omega)]; exact jf), upTo_get f g j HN.out.2 jf, hx]
      rw [← hy] at c2'
      rw [← hx, ← hy] at HS
      have OR : bits .or .u8 (x.toNat : Int) (y.toNat : Int) = ((x ||| y).toNat : Int) := by rw [u8_or_nat _ _ (UInt8.toNat_lt x) (UInt8.toNat_lt y), UInt8.toNat_or]
      obtain ⟨z, hz⟩ : ∃ z : UInt8, z = x ||| y := ⟨_, rfl⟩
      rw [← hz] at OR HS
      have hjn : (j : Int) < (L1 : Int) := by omega
      clear hx hy hz ho hg
      go_wp2_with (fail)
      go_region
      go_wp2_with (fail)
      obtain ⟨s1, s2⟩ := HS.out _ rfl
      exact ⟨⟨j + 1, by omega, by omega, by go_num, s1.drew, ⟨s2.os, s2.tape, s2.output, s2.size, s2.block⟩⟩, by simp [intOf]; omega⟩
    · have ej : j = L1 := by omega
      subst ej
      have hjn : ¬ (j : Int) < (j : Int) := by omega
      have E : Hid (wr.ownsRow w2.heap.size 5 1 (.slice (some ⟨g1, 0, none⟩) j cap1) j (bc (Bm.both f g))) := by
        have := EN.out.1
        rw [← HN.out.1] at this
        rw [this] at ho
        exact ho
      have G : Hid (w2.grownBy wr none) := hg
      clear ho hg
      go_wp2_with (fail)
      go_ret2
      exact ⟨_, _, rfl, ⟨by rw [EN.out.2.1, ← HN.out.1]; exact E.out, G.out, .inr ⟨g1, rfl, gl⟩⟩⟩

set_option maxHeartbeats 1600000 in
theorem rboth_any (w : World) (a b : Option Addr) (ca cb : Nat) (f g : List UInt8) (hf : BytesIn w (.slice a f.length ca) f) (hg : BytesIn w (.slice b g.length cb) g) (hno : a = none → ca = 0) (hl0 : f.length ≤ 100000) :
    Calls Try.prog 18 #[.slice a f.length ca, .slice b g.length cb] w fun e w' => ∃ v, e = .returned (.tuple #[v, .int .i64 (bothE f g)]) ∧ Ext w.heap.size w (.slice none 0 0) w' v (bothL f g) := by
  have CF := hide (rcheck_any w a ca f hf)
  have CG := hide (rcheck_any w b cb g hg)
  cases h1 : Bm.ok f
  · obtain ⟨e1, e2⟩ := both_five (f := f) (g := g) (by rw [h1]; rfl)
    rw [okE_bad h1] at CF
    rw [e1, e2]
    clear hf hg h1 CG e1 e2
    go_enter Try.func18, Try.ntmps18
    go_wp2_with (go_at_call 20; refine CF.out.mono ?_; rintro e w1 ⟨rfl, rfl⟩; clear CF)
    go_ret2
    exact ⟨_, rfl, ext_nil (World.grownBy.refl _ _)⟩
  · rw [okE_ok h1] at CF
    cases h2 : Bm.ok g
    · obtain ⟨e1, e2⟩ := both_five (f := f) (g := g) (by rw [h1, h2]; rfl)
      rw [okE_bad h2] at CG
      rw [e1, e2]
      clear hf hg h1 h2 e1 e2
      go_enter Try.func18, Try.ntmps18
      go_wp2_with (first
        | (have gate := CF; go_at_call 20; refine gate.out.mono ?_; rintro e w1 ⟨rfl, rfl⟩; clear CF gate)
        | (have gate := CG; go_at_call 20; refine gate.out.mono ?_; rintro e w2 ⟨rfl, rfl⟩; clear CG gate))
      go_ret2
      exact ⟨_, rfl, ext_nil (World.grownBy.refl _ _)⟩
    · rw [okE_ok h2] at CG
      have k1 := (ok_iff f).mp h1
      have k2 := (ok_iff g).mp h2
      obtain ⟨b1, o1, rfl, a1⟩ := at_of hf (by intro h; rw [h] at k1; simp at k1)
      obtain ⟨b2, o2, rfl, a2⟩ := at_of hg (by intro h; rw [h] at k2; simp at k2)
      by_cases hl : f.length = g.length
      · by_cases hh : f.headD 0 = g.headD 0
        · obtain ⟨e1, e2⟩ := both_zero h1 h2 (by unfold fits; rw [decide_eq_true hl, decide_eq_true hh]; rfl)
          rw [e1, e2]
          refine (rboth_ok w b1 o1 ca b2 o2 cb f g a1 a2 hl0 h1 h2 hl hh).mono ?_
          rintro e w' ⟨B, cp, rfl, x⟩
          exact ⟨_, rfl, x⟩
        · obtain ⟨e1, e2⟩ := both_two h1 h2 (by unfold fits; rw [decide_eq_false hh, Bool.and_false])
          rw [e1, e2]
          have d0 := a1 0 (by omega)
          have d1 := a2 0 (by omega)
          obtain ⟨x, hx⟩ : ∃ k : Nat, k = (f.headD 0).toNat := ⟨_, rfl⟩
          obtain ⟨y, hy⟩ : ∃ k : Nat, k = (g.headD 0).toNat := ⟨_, rfl⟩
          rw [headD_get f (by omega), ← hx, Nat.add_zero] at d0
          rw [headD_get g (by omega), ← hy, Nat.add_zero] at d1
          have nxy : ((x : Int) != (y : Int)) = true := by
            simp
            intro e
            exact hh (UInt8.toNat_inj.mp (by rw [← hx, ← hy]; omega))
          rw [← hl] at CG ⊢
          obtain ⟨n, hn⟩ : ∃ n, n = f.length := ⟨_, rfl⟩
          rw [← hn] at CF CG ⊢
          have i0 : (0 : Int) < (n : Int) := by omega
          have iN : ((n : Int) != (n : Int)) = false := by simp
          clear hf hg h1 h2 e1 e2 k1 k2 a1 a2 hl hh hx hy hn
          go_enter Try.func18, Try.ntmps18
          go_wp2_with (first
            | (have gate := CF; go_at_call 20; refine gate.out.mono ?_; rintro e w1 ⟨rfl, rfl⟩; clear CF gate)
            | (have gate := CG; go_at_call 20; refine gate.out.mono ?_; rintro e w2 ⟨rfl, rfl⟩; clear CG gate))
          go_quiet (fail)
          go_wp2_with (fail)
          go_ret2
          exact ⟨_, rfl, ext_nil ⟨rfl, rfl, rfl, Nat.le_refl _, fun _ _ _ => rfl⟩⟩
      · obtain ⟨e1, e2⟩ := both_two h1 h2 (by unfold fits; rw [decide_eq_false hl, Bool.false_and])
        rw [e1, e2]
        obtain ⟨n, hn⟩ : ∃ n, n = f.length := ⟨_, rfl⟩
        obtain ⟨m, hm⟩ : ∃ n, n = g.length := ⟨_, rfl⟩
        rw [← hn] at CF ⊢
        rw [← hm] at CG ⊢
        have iN : ((n : Int) != (m : Int)) = true := by simp; omega
        clear hf hg h1 h2 e1 e2 k1 k2 a1 a2 hl hn hm
        go_enter Try.func18, Try.ntmps18
        go_wp2_with (first
          | (have gate := CF; go_at_call 20; refine gate.out.mono ?_; rintro e w1 ⟨rfl, rfl⟩; clear CF gate)
          | (have gate := CG; go_at_call 20; refine gate.out.mono ?_; rintro e w2 ⟨rfl, rfl⟩; clear CG gate))
        go_quiet (fail)
        go_wp2_with (fail)
        go_ret2
        exact ⟨_, rfl, ext_nil ⟨rfl, rfl, rfl, Nat.le_refl _, fun _ _ _ => rfl⟩⟩
end Go.Proofs.Ytanpnibabnedbaa
