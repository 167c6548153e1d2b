/-
  A burst by its definition.
-/
import Derived.Test.YtgfncfpcobkebaaCBurst
namespace Go.Proofs.Ytgfncfpcobkebaa
open Go.RowKit

set_option maxHeartbeats 1600000 in
theorem refBurst_neg (w : World) (v : Value) (at' : Int) (b : Nat) (hat : at' < 0) :
    Calls Try.prog 18 #[v, .int .i64 at', .int .u32 (b : Int)] w fun e w' => e = .returned (.tuple #[.slice none 0 0, .int .i64 2]) ∧ w' = w := by
  go_enter Try.func18, Try.ntmps18
  go_wp2_with (fail)
  go_ret2
  exact ⟨rfl, rfl⟩

set_option maxHeartbeats 1600000 in
theorem refBurst_pos (w : World) (a0 : Option Addr) (c0 : Nat) (l : List UInt8) (p b : Nat) (h : BytesIn w (.slice a0 l.length c0) l) (hn : a0 = none → c0 = 0) (hp : p < 9223372036854775808) (hb : b < 4294967296) :
    Calls Try.prog 18 #[.slice a0 l.length c0, .int .i64 (p : Int), .int .u32 (b : Int)] w fun e w' => ∃ v, e = .returned (.tuple #[v, .int .i64 (burE l p b)]) ∧ Ext w.heap.size w (.slice none 0 0) w' v (burL l p b) := by
  have hl := h.len
  have L0 := Ext.lit0 w.heap.size w #[] [] 0 (Nat.le_refl _) rfl rfl (by decide)
  have K0 : Below w.heap.size w (w.alloc (.cells #[] 5)) := (Below.refl _ _).alloc (Nat.le_refl _) _
  have V0 := h.later K0
  clear h
  go_enter Try.func18, Try.ntmps18
  go_wp2_with (at_builtin; refine wpList_copy_bytes _ rfl _ _ rfl w.heap.size w.heap.size l l.length c0 rfl rfl L0.own a0 rfl V0 hn hl K0.size ?_; intro g1 cap1 L1 w1 HL1 hx1; have R := L0.trans hx1; clear L0 hx1 V0 K0)
  have hz : L1 = l.length := HL1.out
  subst hz
  have hc : l.length ≤ cap1 := by
    rcases R.own.2 with ⟨e, _⟩ | ⟨g', cap', cur, e, _, _, hnc, _⟩
    · cases e
    · simp only [Value.slice.injEq, Option.some.injEq, Addr.mk.injEq, and_true, true_and] at e; omega
  have hg1 : w.heap.size ≤ g1 := (own_cap R.own).2.2
  have o2 : w1.ownsRow w.heap.size 5 1 (.slice (some ⟨g1, 0, none⟩) l.length cap1) l.length (bc (Crc.burst l p b 0)) := R.own
  have g2 : w.grownBy w1 none := R.grown
  clear R
  go_loopw [9] (fun i wr => ∃ j : Nat, j ≤ 32 ∧ i = .int .i64 j ∧ Hid (∀ i, i < j → b.testBit i = true → p + i < 8 * l.length) ∧ wr.ownsRow w.heap.size 5 1 (.slice (some ⟨g1, 0, none⟩) l.length cap1) l.length (bc (Crc.burst l p b j)) ∧ w.grownBy wr none) (fun i _ => 32 - (intOf i).toNat)
  case atStart => exact ⟨0, by omega, rfl, fun i hi => absurd hi (by omega), o2, g2⟩
  case round =>
    obtain ⟨j, hj, rfl, HO, ho, hg⟩ := hrel
    clear o2 g2
    by_cases hlt : j < 32
    · have A1 := low_bit b j hb
      cases ht : b.testBit j
      · rw [ht, if_neg (by decide)] at A1
        have BE : Hid (Crc.burst l p b j = Crc.burst l p b (j + 1)) := by show _ = _; rw [Crc.burst, ht]; rfl
        have HN : Hid (∀ i, i < j + 1 → b.testBit i = true → p + i < 8 * l.length) := fun i hi hbi => by
          rcases Nat.lt_succ_iff_lt_or_eq.mp hi with h1 | h1
          · exact HO.out i h1 hbi
          · subst h1; rw [ht] at hbi; cases hbi
        rw [BE.out] at ho
        clear ht
        go_wp2_with (fail)
        exact ⟨⟨j + 1, by omega, by go_num, HN, ho, hg⟩, by simp [intOf]; omega⟩
      · rw [ht, if_pos rfl] at A1
        by_cases hin : p + j < 8 * l.length
        · have BE : Hid (Crc.burst l p b (j + 1) = Crc.flip (Crc.burst l p b j) (p + j)) := by show _ = _; rw [Crc.burst, ht]; rfl
          have HN : Hid (∀ i, i < j + 1 → b.testBit i = true → p + i < 8 * l.length) := fun i hi hbi => by
            rcases Nat.lt_succ_iff_lt_or_eq.mp hi with h1 | h1
            · exact HO.out i h1 hbi
            · subst h1; exact hin
          have hk : (p + j) / 8 < l.length := by omega
          have hk2 : (p + j) / 8 < (Crc.burst l p b j).length := by rw [Crc.burst_length]; exact hk
          obtain ⟨c, hc⟩ : ∃ c : UInt8, c = (Crc.burst l p b j)[(p + j) / 8] := ⟨_, rfl⟩
          have d0 : wr.cell? ⟨g1, (p + j) / 8, none⟩ = some (.int .u8 (c.toNat : Int)) := by
            rw [ho.cellAt _ (by omega), bc_get _ _ hk2, hc]
          have f0 := ho.frozenAt ((p + j) / 8)
          have i1 : ¬ ((p : Int) > 8 * (l.length : Int) - 1 - (j : Int)) := by omega
          have HS : Hid (∀ X : Int, X = ((c ^^^ UInt8.ofNat (2 ^ ((p + j) % 8))).toNat : Int) → (wr.setCell ⟨g1, (p + j) / 8, none⟩ (.int .u8 X)).ownsRow w.heap.size 5 1 (.slice (some ⟨g1, 0, none⟩) l.length cap1) l.length (bc (Crc.burst l p b (j + 1))) ∧ w.grownBy (wr.setCell ⟨g1, (p + j) / 8, none⟩ (.int .u8 X)) none) := fun X hX => by
            obtain ⟨s1, s2⟩ := ho.stored ((p + j) / 8) (.int .u8 X)
            rw [hX, bc_set, hc, flip_at _ _ hk2, ← BE.out] at s1
            rw [hX, hc] at s2 ⊢
            exact ⟨s1, grownBy_trans hg s2 (.inr ⟨_, rfl, hg1⟩)⟩
          have XB := xor_bit c ((p + j) % 8) (Nat.mod_lt _ (by decide))
          have XB' : Hid (bits .xor .u8 (c.toNat : Int) (2 ^ ((p + j) % 8) % 256) = ((c ^^^ UInt8.ofNat (2 ^ ((p + j) % 8))).toNat : Int)) := XB
          have i2 : (0 : Int) ≤ (p : Int) + (j : Int) := by omega
          have i4 : IntKind.i64.wrap ((p : Int) + (j : Int)) = (p : Int) + (j : Int) := by rw [IntKind.wrap_i64]; omega
          obtain ⟨q, hq⟩ : ∃ q, q = (p + j) / 8 := ⟨_, rfl⟩
          obtain ⟨r, hr⟩ : ∃ r, r = (p + j) % 8 := ⟨_, rfl⟩
          have t1 : ((p : Int) + (j : Int)).tdiv 8 = (q : Int) := by rw [Int.tdiv_eq_ediv_of_nonneg i2, hq]; omega
          have t2 : ((p : Int) + (j : Int)).tmod 8 = (r : Int) := by rw [Int.tmod_eq_emod_of_nonneg i2, hr]; omega
          have i3 : (q : Int) < (l.length : Int) := by omega
          have i5 : min r 8 = r := by omega
          rw [← hq] at d0 f0 HS
          rw [← hr] at HS XB'
          clear hc ho XB hk2 ht hq hr hk hin
          go_wp2_with (fail)
          go_region
          go_wp2_with (fail)
          obtain ⟨s1, s2⟩ := HS.out _ XB'.out
          exact ⟨⟨j + 1, by omega, by go_num, HN, s1.drew, ⟨s2.os, s2.tape, s2.output, s2.size, s2.block⟩⟩, by simp [intOf]; omega⟩
        · have E0 : burB l (p : Int) b = false := burB_bad hlt ht hin
          have E1 : Hid (burE l (p : Int) b = 2) := by show _ = _; unfold burE; rw [E0]; rfl
          have E2 : Hid (burL l (p : Int) b = []) := by show _ = _; unfold burL; rw [E0]; rfl
          have i1 : (p : Int) > 8 * (l.length : Int) - 1 - (j : Int) := by omega
          clear ht E0 ho HO
          go_wp2_with (fail)
          go_ret2
          rw [E1.out, E2.out]
          exact ⟨_, rfl, ext_nil hg⟩
    · have e32 : j = 32 := by omega
      subst e32
      have E0 : burB l (p : Int) b = true := (burB_iff l p b).mpr HO.out
      have E1 : Hid (burE l (p : Int) b = 0) := by show _ = _; unfold burE; rw [E0]; rfl
      have E2 : Hid (burL l (p : Int) b = Crc.burst l p b 32) := by show _ = _; unfold burL; rw [E0, Int.toNat_natCast]; rfl
      have BL : Hid (l.length = (Crc.burst l p b 32).length) := (Crc.burst_length l p b 32).symm
      clear E0 HO
      go_wp2_with (fail)
      go_ret2
      rw [E1.out, E2.out]
      exact ⟨_, rfl, ⟨by rw [← BL.out]; exact ho, hg, .inr ⟨g1, rfl, hg1⟩⟩⟩
theorem refBurst_any (w : World) (a0 : Option Addr) (c0 : Nat) (l : List UInt8) (at' : Int) (b : Nat) (h : BytesIn w (.slice a0 l.length c0) l) (hn : a0 = none → c0 = 0) (ha : at' ≤ 9223372036854775807) (hb : b < 4294967296) :
    Calls Try.prog 18 #[.slice a0 l.length c0, .int .i64 at', .int .u32 (b : Int)] w fun e w' => ∃ v, e = .returned (.tuple #[v, .int .i64 (burE l at' b)]) ∧ Ext w.heap.size w (.slice none 0 0) w' v (burL l at' b) := by
  by_cases h0 : at' < 0
  · refine (refBurst_neg w _ at' b h0).mono ?_
    rintro e w' ⟨rfl, rfl⟩
    have E0 : burB l at' b = false := burB_neg h0
    have E1 : burE l at' b = 2 := by unfold burE; rw [E0]; rfl
    have E2 : burL l at' b = [] := by unfold burL; rw [E0]; rfl
    rw [E1, E2]
    exact ⟨_, rfl, ext_nil (World.grownBy.refl _ _)⟩
  · obtain ⟨p, rfl⟩ : ∃ p : Nat, at' = p := ⟨at'.toNat, by omega⟩
    exact refBurst_pos w a0 c0 l p b h hn (by omega) hb
end Go.Proofs.Ytgfncfpcobkebaa
