/-
  Four bytes as a number, the lowest first.
-/
import Derived.Test.YtmhehohiodggcaaCMore
import Derived.Test.YtmhehohiodggcaaSeal
namespace Go.Proofs.Ytmhehohiodggcaa
open Go.RowKit

theorem or_low (r n i : Nat) (h : r < 2 ^ i) (ht : r + n * 2 ^ i < 4294967296) : bits .or .u32 (r : Int) ((n : Int) * 2 ^ i) = ((r + n * 2 ^ i : Nat) : Int) := by
  have e := u32_or_nat r (n * 2 ^ i) (by omega) (by omega)
  rw [Nat.or_comm, Nat.mul_comm n, ← Nat.two_pow_add_eq_or_of_lt h n] at e
  have c : ((2 ^ i * n : Nat) : Int) = (n : Int) * 2 ^ i := by rw [Nat.mul_comm]; simp
  rw [c] at e
  rw [e, Nat.mul_comm n, Nat.add_comm]

theorem or_zero (n : Nat) (h : n < 4294967296) : bits .or .u32 ((0 : Nat) : Int) (n : Int) = (n : Int) := by
  have := u32_or_nat 0 n (by decide) h
  rwa [Nat.zero_or] at this

set_option maxHeartbeats 1600000 in
theorem seal_some (w : World) (b off cap : Nat) (c0 c1 c2 c3 : UInt8) (h : BytesAt w b off [c0, c1, c2, c3]) :
    Calls Try.prog 40 #[.slice (some ⟨b, off, none⟩) 4 cap] w fun e w' => e = .returned (.int .u32 ((num4 [c0, c1, c2, c3] : Nat) : Int)) ∧ w' = w := by
  have d0 : w.cell? ⟨b, off, none⟩ = some (.int .u8 (c0.toNat : Int)) := h 0 (by simp)
  have d1 : w.cell? ⟨b, off + 1, none⟩ = some (.int .u8 (c1.toNat : Int)) := h 1 (by simp)
  have d2 : w.cell? ⟨b, off + 2, none⟩ = some (.int .u8 (c2.toNat : Int)) := h 2 (by simp)
  have d3 : w.cell? ⟨b, off + 3, none⟩ = some (.int .u8 (c3.toNat : Int)) := h 3 (by simp)
  have l0 := UInt8.toNat_lt c0
  have l1 := UInt8.toNat_lt c1
  have l2 := UInt8.toNat_lt c2
  have l3 := UInt8.toNat_lt c3
  obtain ⟨n0, e0⟩ : ∃ n, n = c0.toNat := ⟨_, rfl⟩
  obtain ⟨n1, e1⟩ : ∃ n, n = c1.toNat := ⟨_, rfl⟩
  obtain ⟨n2, e2⟩ : ∃ n, n = c2.toNat := ⟨_, rfl⟩
  obtain ⟨n3, e3⟩ : ∃ n, n = c3.toNat := ⟨_, rfl⟩
  have HN : Hid (n0 + 256 * n1 + 65536 * n2 + 16777216 * n3 = num4 [c0, c1, c2, c3]) := by show _ = _; rw [e0, e1, e2, e3]; rfl
  rw [← e0] at d0 l0
  rw [← e1] at d1 l1
  rw [← e2] at d2 l2
  rw [← e3] at d3 l3
  clear e0 e1 e2 e3 h
  go_enter Try.func40, Try.ntmps40
  go_wp2_with (fail)
  go_loopw [3, 8] (fun x i wr => ∃ (j r : Nat), j ≤ 4 ∧ i = .int .i64 j ∧ x = .int .u32 r ∧ Hid (r = if j = 0 then 0 else if j = 1 then n0 else if j = 2 then n0 + 256 * n1 else if j = 3 then n0 + 256 * n1 + 65536 * n2 else n0 + 256 * n1 + 65536 * n2 + 16777216 * n3) ∧ wr = w) (fun _ i _ => 4 - (intOf i).toNat)
  case atStart => exact ⟨0, 0, by omega, rfl, rfl, rfl, rfl⟩
  case round =>
    obtain ⟨j, r, hj, rfl, rfl, HR, rfl⟩ := hrel
    by_cases hlt : j < 4
    · rcases (by omega : j = 0 ∨ j = 1 ∨ j = 2 ∨ j = 3) with rfl | rfl | rfl | rfl
      · go_wp2_with (fail)
        have e : r = 0 := HR.out
        subst e
        exact ⟨⟨1, n0, by omega, rfl, by rw [or_zero n0 (by omega)], rfl, trivial⟩, by simp [intOf]⟩
      · go_wp2_with (fail)
        have e : r = n0 := HR.out
        subst e
        exact ⟨⟨2, r + n1 * 2 ^ 8, by omega, rfl, by rw [← or_low r n1 8 (by omega) (by omega)]; rfl, by show _ = _; rw [if_neg (by omega), if_neg (by omega), if_pos rfl]; omega, trivial⟩, by simp [intOf]⟩
      · go_wp2_with (fail)
        have e : r = n0 + 256 * n1 := HR.out
        clear HR
        exact ⟨⟨3, r + n2 * 2 ^ 16, by omega, rfl, by rw [← or_low r n2 16 (by omega) (by omega)]; rfl, by show _ = _; rw [if_neg (by omega), if_neg (by omega), if_neg (by omega), if_pos rfl]; omega, trivial⟩, by simp [intOf]⟩
      · go_wp2_with (fail)
        have e : r = n0 + 256 * n1 + 65536 * n2 := HR.out
        clear HR
        exact ⟨⟨4, r + n3 * 2 ^ 24, by omega, rfl, by rw [← or_low r n3 24 (by omega) (by omega)]; rfl, by show _ = _; rw [if_neg (by omega), if_neg (by omega), if_neg (by omega), if_neg (by omega)]; omega, trivial⟩, by simp [intOf]⟩
    · have e4 : j = 4 := by omega
      subst e4
      have e := HR.out
      have HE : Hid (r = num4 [c0, c1, c2, c3]) := by show _ = _; rw [← HN.out, e]; rfl
      clear e
      go_wp2_with (fail)
      go_ret
      rw [HE.out]
      exact ⟨rfl, rfl⟩

theorem seal_any (w : World) (v : Value) (l : List UInt8) (h : BytesIn w v l) (h4 : l.length = 4) :
    Calls Try.prog 40 #[v] w fun e w' => e = .returned (.int .u32 ((num4 l : Nat) : Int)) ∧ w' = w := by
  obtain ⟨⟨a, cap, rfl, hf⟩, _⟩ := h
  match l, h4, hf with
  | [c0, c1, c2, c3], _, hf =>
    obtain ⟨b, off, rfl, hv⟩ := hf (by simp)
    exact seal_some w b off cap c0 c1 c2 c3 hv
end Go.Proofs.Ytmhehohiodggcaa
