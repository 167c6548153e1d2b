/-
  A burst: what the program's call answers, and where. .. and what follows from it.
-/
import Derived.Test.YtlhnjloimhcpfabGreatDoorCA
import Derived.Test.YtlhnjloimhcpfabGreatDoorFA
import Derived.Test.YtlhnjloimhcpfabGreatDoorKBytes
namespace Go.Proofs.YtlhnjloimhcpfabGreatDoor
open Go.RowKit

theorem low_bit (b j : Nat) (hb : b < 4294967296) : bits .and .u32 ((b : Int) / 2 ^ j) 1 = if b.testBit j = true then 1 else 0 := by
  have e : ((b : Int) / 2 ^ j) = ((b / 2 ^ j : Nat) : Int) := by simp
  rw [e, low_one _ (Nat.lt_of_le_of_lt (Nat.div_le_self _ _) hb), Nat.testBit_eq_decide_div_mod_eq]
  rcases Nat.mod_two_eq_zero_or_one (b / 2 ^ j) with h | h <;> simp [h]

/-- One bit of a byte turned. -/
theorem xor_bit (c : UInt8) (k : Nat) (hk : k < 8) : bits .xor .u8 (c.toNat : Int) (2 ^ k % 256) = ((c ^^^ UInt8.ofNat (2 ^ k)).toNat : Int) := by
  have hp : 2 ^ k < 256 := by
    have : 2 ^ k ≤ 2 ^ 7 := Nat.pow_le_pow_right (by decide) (by omega)
    exact Nat.lt_of_le_of_lt this (by decide)
  have e : ((2 : Int) ^ k % 256) = ((2 ^ k : Nat) : Int) := by
    have : ((2 ^ k : Nat) : Int) = (2 : Int) ^ k := by simp
    rw [← this]
    clear this
    generalize (2 : Nat) ^ k = z at hp ⊢
    omega
  rw [e, u8_xor_nat _ _ (UInt8.toNat_lt c) hp, UInt8.toNat_xor, UInt8.toNat_ofNat', Nat.mod_eq_of_lt hp]
theorem flip_at (m : List UInt8) (q : Nat) (h : q / 8 < m.length) : m.set (q / 8) (m[q / 8] ^^^ UInt8.ofNat (2 ^ (q % 8))) = Crc.flip m q := by
  unfold Crc.flip
  rw [List.getD_eq_getElem?_getD, List.getElem?_eq_getElem h]
  rfl

set_option maxHeartbeats 1600000 in
theorem burst_neg (w : World) (v : Value) (at' : Int) (b : Nat) (hat : at' < 0) :
    Calls Tryz.prog 13 #[v, .int .i64 at', .int .u32 (b : Int)] w fun e w' => e = .returned (.tuple #[.slice none 0 0, .int .i64 2]) ∧ w' = w := by
  go_enter Tryz.func13, Tryz.ntmps13
  go_wp2_with (fail)
  go_ret2
  exact ⟨rfl, rfl⟩

set_option maxHeartbeats 1600000 in
theorem burst_pos (w : World) (a0 : Option Addr) (c0 : Nat) (l : List UInt8) (p b : Nat) (h : BytesIn w (.slice a0 l.length c0) l) (hp : p < 9223372036854775808) (hb : b < 4294967296) :
    Calls Tryz.prog 13 #[.slice a0 l.length c0, .int .i64 (p : Int), .int .u32 (b : Int)] w fun e w' => ∃ v, e = .returned (.tuple #[v, .int .i64 (burE l p b)]) ∧ Ext w.heap.size w (.slice none 0 0) w' v (burL l p b) := by
  have hl := h.len
  have MK := make_bytes l.length hl (l.length : Int) rfl
  have B0 : Hid (Crc.burst l p b 0 = l.take l.length ++ List.replicate (l.length - l.length) 0) := by show _ = _; rw [List.take_length, Nat.sub_self]; simp [Crc.burst]
  go_enter Tryz.func13, Tryz.ntmps13
  go_wp2_with (refine wpList_copy_in _ rfl _ _ rfl w l.length l.length c0 l (Crc.burst l p b 0) rfl rfl _ rfl rfl h B0.out hl ?_; intro w2 r2 o2 g2; clear h)
  clear MK B0
  go_loopw [19] (fun i wr => ∃ j : Nat, j ≤ 32 ∧ i = .int .i64 j ∧ Hid (∀ i, i < j → b.testBit i = true → p + i < 8 * l.length) ∧ wr.ownsRow w.heap.size 5 1 (.slice (some ⟨w.heap.size, 0, none⟩) l.length l.length) l.length (bc (Crc.burst l p b j)) ∧ w.grownBy wr none) (fun i _ => 32 - (intOf i).toNat)
  case atStart => exact ⟨0, by omega, rfl, fun i hi => absurd hi (by omega), o2, g2⟩
  case round =>
    obtain ⟨j, hj, rfl, HO, ho, hg⟩ := hrel
    clear o2 g2
    by_cases hlt : j < 32
    · have A1 := low_bit b j hb
      cases ht : b.testBit j
      · rw [ht, if_neg (by decide)] at A1
        have BE : Hid (Crc.burst l p b j = Crc.burst l p b (j + 1)) := by show _ = _; rw [Crc.burst, ht]; rfl
        have HN : Hid (∀ i, i < j + 1 → b.testBit i = true → p + i < 8 * l.length) := fun i hi hbi => by
          rcases Nat.lt_succ_iff_lt_or_eq.mp hi with h1 | h1
          · exact HO.out i h1 hbi
          · subst h1; rw [ht] at hbi; cases hbi
        rw [BE.out] at ho
        clear ht
        go_wp2_with (fail)
        exact ⟨⟨j + 1, by omega, by go_num, HN, ho, hg⟩, by simp [intOf]; omega⟩
      · rw [ht, if_pos rfl] at A1
        by_cases hin : p + j < 8 * l.length
        · have BE : Hid (Crc.burst l p b (j + 1) = Crc.flip (Crc.burst l p b j) (p + j)) := by show _ = _; rw [Crc.burst, ht]; rfl
          have HN : Hid (∀ i, i < j + 1 → b.testBit i = true → p + i < 8 * l.length) := fun i hi hbi => by
            rcases Nat.lt_succ_iff_lt_or_eq.mp hi with h1 | h1
            · exact HO.out i h1 hbi
            · subst h1; exact hin
          have hk : (p + j) / 8 < l.length := by omega
          have hk2 : (p + j) / 8 < (Crc.burst l p b j).length := by rw [Crc.burst_length]; exact hk
          obtain ⟨c, hc⟩ : ∃ c : UInt8, c = (Crc.burst l p b j)[(p + j) / 8] := ⟨_, rfl⟩
          have d0 : wr.cell? ⟨w.heap.size, (p + j) / 8, none⟩ = some (.int .u8 (c.toNat : Int)) := by
            rw [ho.cellAt _ (by omega), bc_get _ _ hk2, hc]
          have f0 := ho.frozenAt ((p + j) / 8)
          have i1 : ¬ ((l.length : Int) ≤ ((p : Int) + (j : Int)) / 8) := by omega
          have HS : Hid (∀ X : Int, X = ((c ^^^ UInt8.ofNat (2 ^ ((p + j) % 8))).toNat : Int) → (wr.setCell ⟨w.heap.size, (p + j) / 8, none⟩ (.int .u8 X)).ownsRow w.heap.size 5 1 (.slice (some ⟨w.heap.size, 0, none⟩) l.length l.length) l.length (bc (Crc.burst l p b (j + 1))) ∧ w.grownBy (wr.setCell ⟨w.heap.size, (p + j) / 8, none⟩ (.int .u8 X)) none) := fun X hX => by
            obtain ⟨s1, s2⟩ := ho.stored ((p + j) / 8) (.int .u8 X)
            rw [hX, bc_set, hc, flip_at _ _ hk2, ← BE.out] at s1
            rw [hX, hc] at s2 ⊢
            exact ⟨s1, grownBy_trans hg s2 (.inr ⟨_, rfl, Nat.le_refl _⟩)⟩
          have XB := xor_bit c ((p + j) % 8) (Nat.mod_lt _ (by decide))
          have XB' : Hid (bits .xor .u8 (c.toNat : Int) (2 ^ ((p + j) % 8) % 256) = ((c ^^^ UInt8.ofNat (2 ^ ((p + j) % 8))).toNat : Int)) := XB
          clear hc ho XB hk2 ht
          go_wp2_with (fail)
          exact ⟨⟨j + 1, by omega, by go_num, HN, (HS.out _ XB'.out).1, (HS.out _ XB'.out).2⟩, by simp [intOf]; omega⟩
        · have E0 : burB l (p : Int) b = false := burB_bad hlt ht hin
          have E1 : Hid (burE l (p : Int) b = 2) := by show _ = _; unfold burE; rw [E0]; rfl
          have E2 : Hid (burL l (p : Int) b = []) := by show _ = _; unfold burL; rw [E0]; rfl
          have i1 : (l.length : Int) ≤ ((p : Int) + (j : Int)) / 8 := by omega
          clear ht E0 ho HO
          go_wp2_with (fail)
          go_ret2
          rw [E1.out, E2.out]
          exact ⟨_, rfl, ext_nil hg⟩
    · have e32 : j = 32 := by omega
      subst e32
      have E0 : burB l (p : Int) b = true := (burB_iff l p b).mpr HO.out
      have E1 : Hid (burE l (p : Int) b = 0) := by show _ = _; unfold burE; rw [E0]; rfl
      have E2 : Hid (burL l (p : Int) b = Crc.burst l p b 32) := by show _ = _; unfold burL; rw [E0, Int.toNat_natCast]; rfl
      have BL : Hid (l.length = (Crc.burst l p b 32).length) := (Crc.burst_length l p b 32).symm
      clear E0 HO
      go_wp2_with (fail)
      go_ret2
      rw [E1.out, E2.out]
      exact ⟨_, rfl, ext_of_own ho BL.out hg⟩

theorem burst_any (w : World) (a0 : Option Addr) (c0 : Nat) (l : List UInt8) (at' : Int) (b : Nat) (h : BytesIn w (.slice a0 l.length c0) l) (ha : at' ≤ 9223372036854775807) (hb : b < 4294967296) :
    Calls Tryz.prog 13 #[.slice a0 l.length c0, .int .i64 at', .int .u32 (b : Int)] w fun e w' => ∃ v, e = .returned (.tuple #[v, .int .i64 (burE l at' b)]) ∧ Ext w.heap.size w (.slice none 0 0) w' v (burL l at' b) := by
  by_cases h0 : at' < 0
  · refine (burst_neg w _ at' b h0).mono ?_
    rintro e w' ⟨rfl, rfl⟩
    have E0 : burB l at' b = false := burB_neg h0
    have E1 : burE l at' b = 2 := by unfold burE; rw [E0]; rfl
    have E2 : burL l at' b = [] := by unfold burL; rw [E0]; rfl
    rw [E1, E2]
    exact ⟨_, rfl, ext_nil (World.grownBy.refl _ _)⟩
  · obtain ⟨p, rfl⟩ : ∃ p : Nat, at' = p := ⟨at'.toNat, by omega⟩
    exact burst_pos w a0 c0 l p b h (by omega) hb
end Go.Proofs.YtlhnjloimhcpfabGreatDoor
namespace Go.Proofs.YtlhnjloimhcpfabGreatDoor
open Go.RowKit

set_option maxHeartbeats 800000 in
theorem pick_any (w : World) (x : Int) (n : Nat) (hn : 0 < n) (hn2 : n ≤ 281474976710656) (_h1 : -9223372036854775808 ≤ x) (_h2 : x ≤ 9223372036854775807) :
    Calls Tryz.prog 12 #[.int .i64 x, .int .i64 (n : Int)] w fun e w' => ∃ k : Nat, k < n ∧ e = .returned (.int .i64 (k : Int)) ∧ w' = w := by
  obtain ⟨r, hr⟩ : ∃ r, r = x.tmod n := ⟨_, rfl⟩
  have u1 : r < n := by rw [hr]; exact Int.tmod_lt_of_pos x (by omega)
  have u2 : -(n : Int) < r := by rw [hr]; exact Int.lt_tmod_of_pos x (by omega)
  have i0 : ¬ ((n : Int) = 0) := by omega
  have i1 : ((n : Int) == 0) = false := by simp; omega
  have hr' := hr.symm
  clear hr
  by_cases h0 : r < 0
  · obtain ⟨k, hk⟩ : ∃ k : Nat, (k : Int) = r + n := ⟨(r + n).toNat, by omega⟩
    have HK : Hid (r + (n : Int) = (k : Int)) := hk.symm
    have hkn : k < n := by omega
    have i2 : IntKind.i64.wrap (r + (n : Int)) = r + (n : Int) := by rw [IntKind.wrap_i64]; omega
    clear hk
    go_enter Tryz.func12, Tryz.ntmps12
    go_wp2_with (fail)
    go_ret
    refine ⟨k, hkn, ?_, rfl⟩
    rw [← HK.out]
    rfl
  · obtain ⟨k, hk⟩ : ∃ k : Nat, (k : Int) = r := ⟨r.toNat, by omega⟩
    have hkn : k < n := by omega
    subst hk
    go_enter Tryz.func12, Tryz.ntmps12
    go_wp2_with (fail)
    go_ret
    exact ⟨k, hkn, rfl, rfl⟩
end Go.Proofs.YtlhnjloimhcpfabGreatDoor
