/-
  Sealed bytes opened, by the definition: the bytes in front are sealed, and held against what came in.
-/
import Derived.Test.YtmhehohiodggcaaRSealed
import Derived.Test.YtmhehohiodggcaaCOpened
import Derived.Test.YtmhehohiodggcaaKSame
namespace Go.Proofs.Ytmhehohiodggcaa
open Go.RowKit

theorem grownBy_drewN {a b : World} (h : a.grownBy b none) (n : Nat) : a.grownBy (b.drewN n) none := by
  have hB := below_drewN (Below.refl b.heap.size b) n
  exact grownBy_trans h (⟨hB.os, hB.tape, hB.output, hB.size, fun i hi _ => hB.block i hi⟩ : b.grownBy (b.drewN n) none) (.inl rfl)

set_option maxHeartbeats 1600000 in
theorem refOpened_short (w : World) (a0 : Option Addr) (c0 n : Nat) (hn : n < 4) :
    Calls Try.prog 36 #[.slice a0 n c0] w fun e w' => e = .returned (.tuple #[.slice none 0 0, .bool false]) ∧ w' = w := by
  go_enter Try.func36, Try.ntmps36
  go_wp2_with (fail)
  go_ret2
  exact ⟨rfl, rfl⟩

set_option maxHeartbeats 1600000 in
theorem refOpened_long (w : World) (b off c0 n : Nat) (l : List UInt8) (hl : n + 4 = l.length) (h : BytesIn w (.slice (some ⟨b, off, none⟩) (n + 4) c0) l) (hc : n + 4 ≤ c0) (hr : n ≤ 140737488351232) :
    Calls Try.prog 36 #[.slice (some ⟨b, off, none⟩) (n + 4) c0] w fun e w' => ∃ v, e = .returned (.tuple #[v, .bool (opnB l)]) ∧ Ext w.heap.size w (.slice none 0 0) w' v (opnL l) := by
  obtain ⟨m, hm⟩ : ∃ m, m = l.take n := ⟨_, rfl⟩
  have lm : m.length = n := by rw [hm, List.length_take]; omega
  obtain ⟨z, hz⟩ : ∃ z, z = sealB m := ⟨_, rfl⟩
  have lz : z.length = n + 4 := by rw [hz, sealB_length, lm]
  have OB : Hid (opnB l = decide (z = l)) := by
    show _ = _
    have h4 : 4 ≤ l.length := by omega
    have := opnB_iff l h4
    rw [show l.length - 4 = n from by omega, ← hm, ← hz] at this
    by_cases e : z = l
    · rw [decide_eq_true e, this.mpr e]
    · rw [decide_eq_false e, Bool.eq_false_iff]; exact fun h => e (this.mp h)
  have OL : Hid (opnL l = if z = l then m else []) := by
    show _ = _
    unfold opnL
    rw [OB.out, ← hl, show n + 4 - 4 = n from by omega, ← hm]
    by_cases e : z = l
    · rw [decide_eq_true e, if_pos rfl, if_pos e]
    · rw [decide_eq_false e, if_neg (by decide), if_neg e]
  have L0 := Ext.lit0 w.heap.size w #[] [] 0 (Nat.le_refl _) rfl rfl (by decide)
  have K0 : Below w.heap.size w (w.alloc (.cells #[] 5)) := (Below.refl _ _).alloc (Nat.le_refl _) _
  have V0 : ∀ c, BytesIn (w.alloc (.cells #[] 5)) (.slice (some ⟨b, off, none⟩) n c) m := fun c => by rw [hm]; exact (h.later K0).part 0 n (by omega) c
  have HV : Hid (∀ c, BytesIn (w.alloc (.cells #[] 5)) (.slice (some ⟨b, off, none⟩) n c) m) := V0
  have HS : Hid (∀ wx g cap, BytesIn wx (.slice (some ⟨g, 0, none⟩) n cap) m → Calls Try.prog 42 #[.slice (some ⟨g, 0, none⟩) n cap] wx fun e w' => ∃ g cap, e = .returned (.slice (some ⟨g, 0, none⟩) (n + 4) cap) ∧ Ext wx.heap.size wx (.slice none 0 0) w' (.slice (some ⟨g, 0, none⟩) (n + 4) cap) z) := fun wx g cap hx => by
    have := refSealed_any wx (some ⟨g, 0, none⟩) cap m (by rw [lm]; exact hx) (fun e => by cases e) (by omega)
    rw [lm, ← hz] at this
    exact this
  have hn1 : n ≤ 140737488355328 := by omega
  have LM : Hid (n = m.length) := lm.symm
  have LM2 : Hid (m.length ≤ 140737488355328) := by show _ ≤ _; omega
  have LE : Hid (l.length = n + 4) := hl.symm
  have LZ : Hid (z.length = n + 4) := lz
  have i1 : (n : Int) ≤ (c0 : Int) := by omega
  have HB : Hid (∀ wx, Below w.heap.size w wx → BytesIn wx (.slice (some ⟨b, off, none⟩) (n + 4) c0) l) := fun wx hw => h.later hw
  clear hm hz lz lm hl V0 h
  obtain ⟨Bv, hBv⟩ : ∃ B, B = opnB l := ⟨_, rfl⟩
  obtain ⟨M, hM⟩ : ∃ M, M = opnL l := ⟨_, rfl⟩
  rw [← hBv] at OB ⊢
  rw [← hM] at OL ⊢
  clear hBv hM
  go_enter Try.func36, Try.ntmps36
  go_wp2_with (first
    | (at_builtin; refine wpList_copy_bytes _ rfl _ _ rfl w.heap.size w.heap.size m n _ LM.out rfl L0.own _ rfl (HV.out _) (fun e => by cases e) LM2.out K0.size ?_; intro g1 cap1 L1 w1 HL1 hx1; have R1 := L0.trans hx1; have e1 : L1 = n := (by rw [HL1.out]; exact LM.out.symm); subst e1; clear L0 hx1 HV)
    | (go_at_call 42; refine (HS.out _ _ _ (bytes_of_own R1.own LM2.out)).mono ?_; rintro e w2 ⟨g2, cap2, rfl, hx2⟩))
  clear HS
  have b1 : Below w.heap.size w w1 := R1.below (Nat.le_refl _) (by simp [Value.ownBlock])
  have b2 : Below w1.heap.size w1 w2 := hx2.below (Nat.le_refl _) (by simp [Value.ownBlock])
  have B2 : Below w.heap.size w w2 := b1.trans (b2.mono b1.size)
  have E2 : Hid (Ext w.heap.size w (.slice none 0 0) w2 (.slice (some ⟨g1, 0, none⟩) L1 cap1) m) := R1.beside hx2
  have G2 : Hid (w.grownBy w2 none) := E2.out.grown
  have VZ : Hid (BytesIn w2 (.slice (some ⟨g2, 0, none⟩) (L1 + 4) cap2) z) := bytes_of_own hx2.own (by rw [LZ.out]; have := LM2.out; have := LM.out; omega)
  have VL : Hid (BytesIn w2 (.slice (some ⟨b, off, none⟩) (L1 + 4) c0) l) := HB.out _ B2
  have CZ : Hid (∀ wx, Below w2.heap.size w2 wx → ∀ j (hj : j < L1 + 4), wx.cell? ⟨g2, j, none⟩ = some (.int .u8 ((z[j]'(by rw [LZ.out]; exact hj)).toNat : Int))) := fun wx hw j hj => by
    have hjz : j < z.length := by rw [LZ.out]; exact hj
    obtain ⟨⟨a, c, e, hf⟩, _⟩ := VZ.out.later hw
    simp only [Value.slice.injEq] at e
    obtain ⟨b', off', e', hat⟩ := hf (by intro e; rw [e] at hjz; simp at hjz)
    rw [← e.1] at e'
    simp only [Option.some.injEq, Addr.mk.injEq, and_true] at e'
    have := hat j hjz
    rw [← e'.1, ← e'.2, Nat.zero_add] at this
    exact this
  have CL : Hid (∀ wx, Below w2.heap.size w2 wx → ∀ j (hj : j < L1 + 4), wx.cell? ⟨b, off + j, none⟩ = some (.int .u8 ((l[j]'(by rw [LE.out]; exact hj)).toNat : Int))) := fun wx hw j hj => by
    have hjz : j < l.length := by rw [LE.out]; exact hj
    obtain ⟨⟨a, c, e, hf⟩, _⟩ := VL.out.later hw
    simp only [Value.slice.injEq] at e
    obtain ⟨b', off', e', hat⟩ := hf (by intro e; rw [e] at hjz; simp at hjz)
    rw [← e.1] at e'
    simp only [Option.some.injEq, Addr.mk.injEq, and_true] at e'
    have := hat j hjz
    rw [← e'.1, ← e'.2] at this
    exact this
  clear R1 hx2 VZ VL b1 b2 HB K0
  go_loopw [6] (fun i wr => ∃ j : Nat, j ≤ L1 + 4 ∧ i = .int .i64 j ∧ Below w2.heap.size w2 wr ∧ Hid (z.take j = l.take j)) (fun i _ => L1 + 4 - (intOf i).toNat)
  case atStart => exact ⟨0, Nat.zero_le _, rfl, Below.refl _ _, rfl⟩
  case round =>
    obtain ⟨j, hj, rfl, hbel, HT⟩ := hrel
    have gr : Hid (w.grownBy wr none) := grownBy_trans G2.out (⟨hbel.os, hbel.tape, hbel.output, hbel.size, fun i hi _ => hbel.block i hi⟩ : w2.grownBy wr none) (.inl rfl)
    by_cases hlt : j < L1 + 4
    · have hjz : j < z.length := by rw [LZ.out]; exact hlt
      have hjl : j < l.length := by rw [LE.out]; exact hlt
      obtain ⟨c, hc⟩ : ∃ c : Nat, c = (z[j]).toNat := ⟨_, rfl⟩
      obtain ⟨d, hd⟩ : ∃ d : Nat, d = (l[j]).toNat := ⟨_, rfl⟩
      have d0 : wr.cell? ⟨g2, j, none⟩ = some (.int .u8 (c : Int)) := by rw [hc]; exact CZ.out wr hbel j hlt
      have e0 : wr.cell? ⟨b, off + j, none⟩ = some (.int .u8 (d : Int)) := by rw [hd]; exact CL.out wr hbel j hlt
      have i2 : (j : Int) < (L1 : Int) + 4 := by omega
      by_cases hcd : c = d
      · have HR : Hid (z.take (j + 1) = l.take (j + 1)) := take_same HT.out hjz hjl (by apply UInt8.toNat_inj.mp; rw [← hc, ← hd]; exact hcd)
        have hbb : ((c : Int) != (d : Int)) = false := by simp [hcd]
        clear hc hd hcd hjz hjl
        go_wp2_with (fail)
        go_quiet (fail)
        go_wp2_with (fail)
        go_roundw
        case rel => exact ⟨j + 1, by omega, by go_num, below_drewN hbel _, HR⟩
        case measure => simp [intOf]; omega
      · have hne : ¬ z = l := by
          intro h
          subst h
          exact hcd (by rw [hc, hd])
        have HD : Hid (Bv = false) := by show _ = _; rw [OB.out]; exact decide_eq_false hne
        have HI : Hid (M = []) := by show _ = _; rw [OL.out]; exact if_neg hne
        have hbb : ((c : Int) != (d : Int)) = true := by simp; omega
        clear hc hd hcd hjz hjl hne
        go_wp2_with (fail)
        go_quiet (fail)
        go_wp2_with (fail)
        go_ret2
        rw [HD.out, HI.out]
        exact ⟨_, rfl, ext_nil (grownBy_drewN gr.out _)⟩
    · have hzl : z = l := by
        have h := HT.out
        rw [List.take_of_length_le (by rw [LZ.out]; omega), List.take_of_length_le (by rw [LE.out]; omega)] at h
        exact h
      have HD : Hid (Bv = true) := by show _ = _; rw [OB.out]; exact decide_eq_true hzl
      have HI : Hid (M = m) := by show _ = _; rw [OL.out]; exact if_pos hzl
      have EM : Hid (Ext w.heap.size w (.slice none 0 0) wr (.slice (some ⟨g1, 0, none⟩) L1 cap1) m) := ⟨own_later E2.out.own hbel, gr.out, E2.out.lies⟩
      clear hzl
      go_wp2_with (fail)
      go_ret2
      rw [HD.out, HI.out]
      exact ⟨_, rfl, EM.out⟩

theorem refOpened_any (w : World) (a0 : Option Addr) (c0 : Nat) (l : List UInt8) (h : BytesIn w (.slice a0 l.length c0) l) (hc : l.length ≤ c0) (hr : l.length ≤ 140737488351236) :
    Calls Try.prog 36 #[.slice a0 l.length c0] w fun e w' => ∃ v, e = .returned (.tuple #[v, .bool (opnB l)]) ∧ Ext w.heap.size w (.slice none 0 0) w' v (opnL l) := by
  by_cases h4 : 4 ≤ l.length
  · obtain ⟨n, hn⟩ : ∃ n, l.length = n + 4 := ⟨l.length - 4, by omega⟩
    have hne : l ≠ [] := by intro e; rw [e] at h4; simp at h4
    have h' := h
    obtain ⟨⟨a, cap, e, hf⟩, hlen⟩ := h
    simp only [Value.slice.injEq, true_and] at e
    obtain ⟨rfl, rfl⟩ := e
    obtain ⟨b, off, rfl, _⟩ := hf hne
    rw [hn] at h' ⊢
    exact refOpened_long w b off c0 n l hn.symm h' (by omega) (by omega)
  · refine (refOpened_short w a0 c0 l.length (by omega)).mono ?_
    rintro e w' ⟨rfl, rfl⟩
    have e1 : opnB l = false := by unfold opnB; rw [decide_eq_false h4]; rfl
    have e2 : opnL l = [] := by unfold opnL; rw [e1]; rfl
    rw [e1, e2]
    exact ⟨_, rfl, World.ownsRow_nil _ _ _ _, World.grownBy.refl _ _, .inl rfl⟩
end Go.Proofs.Ytmhehohiodggcaa
