/-
  Two filters put together: what the program's call answers.
-/
import Derived.Test.YtanpnibabnedbaaBmSet
import Derived.Test.YtanpnibabnedbaaBmHas
namespace Go.Proofs.Ytanpnibabnedbaa
open Go.RowKit

/-- The first j of both together, the others 0. -/
def half (a b : List UInt8) (j : Nat) : List UInt8 := (Bm.both a b).take j ++ List.replicate (a.length - j) 0
theorem half_length (a b : List UInt8) (j : Nat) (h : a.length = b.length) (hj : j ≤ a.length) : (half a b j).length = a.length := by
  unfold half
  rw [List.length_append, List.length_take, List.length_replicate, Bm.both_length a b h]
  omega
theorem half_zero (a b : List UInt8) : half a b 0 = List.replicate a.length 0 := by simp [half]
theorem half_all (a b : List UInt8) (h : a.length = b.length) : half a b a.length = Bm.both a b := by
  unfold half
  rw [Nat.sub_self, List.take_of_length_le (by rw [Bm.both_length a b h]; omega)]
  simp
theorem half_set (a b : List UInt8) (j : Nat) (h : a.length = b.length) (hj : j < a.length) : (half a b j).set j (a[j] ||| b[j]) = half a b (j + 1) := by
  unfold half
  have hb : j < (Bm.both a b).length := by rw [Bm.both_length a b h]; exact hj
  rw [List.set_append_right _ _ (by rw [List.length_take]; omega), List.length_take, Nat.min_eq_left (by omega), Nat.sub_self, List.take_succ_eq_append_getElem hb]
  obtain ⟨m, hm⟩ : ∃ m, a.length - j = m + 1 := ⟨a.length - j - 1, by omega⟩
  rw [hm, List.replicate_succ, List.set_cons_zero, show a.length - (j + 1) = m from by omega]
  simp [Bm.both]

set_option maxHeartbeats 1600000 in
theorem both_ok (w : World) (b1 o1 c1 b2 o2 c2 : Nat) (f g : List UInt8) (hf : BytesAt w b1 o1 f) (hg : BytesAt w b2 o2 g) (hl : f.length ≤ 140737488355328) (k1 : Bm.ok f = true) (k2 : Bm.ok g = true) (he : f.length = g.length) (hh : f.headD 0 = g.headD 0) :
    Calls Try.prog 17 #[.slice (some ⟨b1, o1, none⟩) f.length c1, .slice (some ⟨b2, o2, none⟩) g.length c2] w fun e w' => ∃ B, e = .returned (.tuple #[.slice (some ⟨B, 0, none⟩) f.length f.length, .int .i64 0]) ∧ Ext w.heap.size w (.slice none 0 0) w' (.slice (some ⟨B, 0, none⟩) f.length f.length) (Bm.both f g) := by
  have OK := (ok_iff f).mp k1
  have CH : Hid (Calls Try.prog 11 #[.slice (some ⟨b1, o1, none⟩) f.length c1] w fun e w' => e = .returned (.int .i64 0) ∧ w' = w) := by
    have := check_any w (some ⟨b1, o1, none⟩) c1 f ⟨⟨_, c1, rfl, fun _ => ⟨b1, o1, rfl, hf⟩⟩, hl⟩
    rwa [okE_ok k1] at this
  have CG : Hid (Calls Try.prog 11 #[.slice (some ⟨b2, o2, none⟩) g.length c2] w fun e w' => e = .returned (.int .i64 0) ∧ w' = w) := by
    have := check_any w (some ⟨b2, o2, none⟩) c2 g ⟨⟨_, c2, rfl, fun _ => ⟨b2, o2, rfl, hg⟩⟩, by omega⟩
    rwa [okE_ok k2] at this
  have d0 := hf 0 (by omega)
  have e0 := hg 0 (by omega)
  obtain ⟨k, hk⟩ : ∃ k : Nat, k = (f.headD 0).toNat := ⟨_, rfl⟩
  rw [headD_get f (by omega), ← hk, Nat.add_zero] at d0
  rw [headD_get g (by omega), ← hh, ← hk, Nat.add_zero] at e0
  rw [← he] at CG ⊢
  obtain ⟨n, hn⟩ : ∃ n, n = f.length := ⟨_, rfl⟩
  have n2 : 2 ≤ n := by omega
  have MK := make_bytes n (by omega) (n : Int) rfl
  have HN : Hid (n = f.length ∧ f.length = g.length) := ⟨hn, he⟩
  have HFA : Hid (BytesAt w b1 o1 f) := hf
  have HGA : Hid (BytesAt w b2 o2 g) := hg
  rw [← hn] at CH CG ⊢
  have i0 : (0 : Int) < (n : Int) := by omega
  have nle : n ≤ 140737488355328 := by omega
  have iN : ((n : Int) != (n : Int)) = false := by simp
  have iK : ((k : Int) != (k : Int)) = false := by simp
  have Z0 : Hid (∀ (wx : World) nq, wx = w → (((wx.drewN nq).alloc (.cells (zeros n) 5)).ownsRow w.heap.size 5 1 (.slice (some ⟨w.heap.size, 0, none⟩) n n) n (bc (half f g 0)) ∧ w.grownBy ((wx.drewN nq).alloc (.cells (zeros n) 5)) none)) := by
    rintro wx nq rfl
    have := Ext.lit0 (wx.drewN nq).heap.size (wx.drewN nq) (zeros n) (half f g 0) n (Nat.le_refl _) (by rw [half_zero, bc_zeros, ← hn]; rfl) (by rw [half_zero, List.length_replicate]; exact hn) (by unfold maxLen; omega)
    refine ⟨?_, ?_⟩
    · have o := this.own
      rw [half_zero, List.length_replicate, ← hn, hn, ← half_zero f g, ← hn] at o
      exact o
    · have g := this.grown
      exact ⟨g.os, g.tape, g.output, g.size, fun i hi hne => g.block i hi (by simp [Value.ownBlock])⟩
  have EN : Hid (half f g f.length = Bm.both f g ∧ (Bm.both f g).length = f.length) := ⟨half_all f g he, Bm.both_length f g he⟩
  clear hn he hf hg hl k1 k2 hh OK hk
  go_enter Try.func17, Try.ntmps17
  go_wp2_with (first
    | (have gate := CH; go_at_call 11; refine gate.out.mono ?_; rintro e w1 ⟨rfl, rfl⟩; clear CH gate)
    | (have gate := CG; go_at_call 11; refine gate.out.mono ?_; rintro e w2 ⟨rfl, rfl⟩; clear CG gate))
  go_quiet (fail)
  go_wp2_with (fail)
  clear MK d0 e0 iN iK
  obtain ⟨o0, g0⟩ := Z0.out w2 nq rfl
  clear Z0
  go_loopw [39] (fun i wr => ∃ j : Nat, j ≤ n ∧ i = .int .i64 j ∧ wr.ownsRow w2.heap.size 5 1 (.slice (some ⟨w2.heap.size, 0, none⟩) n n) n (bc (half f g j)) ∧ w2.grownBy wr none) (fun i _ => n - (intOf i).toNat)
  case atStart => exact ⟨0, Nat.zero_le _, rfl, o0, g0⟩
  case round =>
    obtain ⟨j, hj, rfl, ho, hg⟩ := hrel
    clear o0 g0
    by_cases hlt : j < n
    · have jf : j < f.length := by have := HN.out; omega
      have jg : j < g.length := by have := HN.out; omega
      have c1' := keepC (below_of hg) (HFA.out j jf)
      have c2' := keepC (below_of hg) (HGA.out j jg)
      have f0 := ho.frozenAt j
      have HS : Hid (∀ X : Int, X = ((f[j] ||| g[j]).toNat : Int) → (wr.setCell ⟨w2.heap.size, j, none⟩ (.int .u8 X)).ownsRow w2.heap.size 5 1 (.slice (some ⟨w2.heap.size, 0, none⟩) n n) n (bc (half f g (j + 1))) ∧ w2.grownBy (wr.setCell ⟨w2.heap.size, j, none⟩ (.int .u8 X)) none) := fun X hX => by
        obtain ⟨s1, s2⟩ := ho.stored j (.int .u8 X)
        rw [hX, bc_set, half_set f g j HN.out.2 jf] at s1
        rw [hX] at s2 ⊢
        exact ⟨s1, grownBy_trans hg s2 (.inr ⟨_, rfl, Nat.le_refl _⟩)⟩
      obtain ⟨u0, du⟩ : ∃ u, wr.cell? ⟨w2.heap.size, j, none⟩ = some u := by
        refine ⟨_, (ho.cellAt j (by omega)).trans (bc_get _ _ ?_)⟩
        rw [half_length f g j HN.out.2 (by omega)]; exact jf
      obtain ⟨x, hx⟩ : ∃ x : UInt8, x = f[j] := ⟨_, rfl⟩
      obtain ⟨y, hy⟩ : ∃ y : UInt8, y = g[j] := ⟨_, rfl⟩
      rw [← hx] at c1'
      rw [← hy] at c2'
      rw [← hx, ← hy] at HS
      have OR : bits .or .u8 (x.toNat : Int) (y.toNat : Int) = ((x ||| y).toNat : Int) := by rw [u8_or_nat _ _ (UInt8.toNat_lt x) (UInt8.toNat_lt y), UInt8.toNat_or]
      obtain ⟨z, hz⟩ : ∃ z : UInt8, z = x ||| y := ⟨_, rfl⟩
      rw [← hz] at OR HS
      have hjn : (j : Int) < (n : Int) := by omega
      have zb : w2.heap.size < wr.heap.size := (own_cap ho).2.1
      clear hx hy hz ho hg
      go_wp2_with (fail)
      go_region
      go_wp2_with (fail)
      obtain ⟨s1, s2⟩ := HS.out _ rfl
      exact ⟨⟨j + 1, by omega, by go_num, s1.drew, ⟨s2.os, s2.tape, s2.output, s2.size, s2.block⟩⟩, by simp [intOf]; omega⟩
    · have ej : j = n := by omega
      subst ej
      have hjn : ¬ (j : Int) < (j : Int) := by omega
      have E : Hid (wr.ownsRow w2.heap.size 5 1 (.slice (some ⟨w2.heap.size, 0, none⟩) j j) j (bc (Bm.both f g))) := by
        have := EN.out.1
        rw [← HN.out.1] at this
        rw [this] at ho
        exact ho
      have G : Hid (w2.grownBy wr none) := hg
      clear ho hg
      go_wp2_with (fail)
      go_ret2
      exact ⟨_, rfl, ext_of_own E.out (by rw [EN.out.2, ← HN.out.1]) G.out⟩
end Go.Proofs.Ytanpnibabnedbaa
