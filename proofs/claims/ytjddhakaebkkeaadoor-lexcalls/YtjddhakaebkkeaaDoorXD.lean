/-
  Package stagepostref13: what a byte is. .. and what follows from it.
-/
import Derived.Test.YtjddhakaebkkeaaDoorLxE
import Derived.Test.YtjddhakaebkkeaaDoorUBase
namespace Go.Proofs.YtjddhakaebkkeaaDoor
open Go.RowKit
attribute [local go_sem ↓] Go.wp_at_zero Go.wp_at_succ

theorem digitB_any (w : World) (r : Int) : Calls Tryd.prog 31 #[.int .u8 r] w fun e w' => e = .returned (.bool (Lx.dgR r)) ∧ w' = w := by
  by_cases h1 : 48 ≤ r <;> by_cases h2 : r ≤ 57
  all_goals
    go_enter Tryd.func31, Tryd.ntmps31
    go_wp2
    go_ret
    exact ⟨by simp [Lx.dgR, *], rfl⟩
theorem smallB_any (w : World) (r : Int) : Calls Tryd.prog 53 #[.int .u8 r] w fun e w' => e = .returned (.bool (Lx.smR r)) ∧ w' = w := by
  by_cases h1 : 97 ≤ r <;> by_cases h2 : r ≤ 122 <;> by_cases h3 : r = 95
  all_goals
    go_enter Tryd.func53, Tryd.ntmps53
    go_wp2
    go_ret
    exact ⟨by simp [Lx.smR, *], rfl⟩
theorem blankB_any (w : World) (r : Int) : Calls Tryd.prog 14 #[.int .u8 r] w fun e w' => e = .returned (.bool (Lx.blR r)) ∧ w' = w := by
  by_cases h1 : r = 9 <;> by_cases h2 : r = 10 <;> by_cases h3 : r = 13 <;> by_cases h4 : r = 32
  all_goals
    go_enter Tryd.func14, Tryd.ntmps14
    go_wp2
    go_ret
    exact ⟨by simp [Lx.blR, *], rfl⟩
theorem letterB_any (w : World) (r : Int) : Calls Tryd.prog 29 #[.int .u8 r] w fun e w' => e = .returned (.bool (Lx.ltR r)) ∧ w' = w := by
  cases h1 : Lx.smR r <;> by_cases h2 : 65 ≤ r <;> by_cases h3 : r ≤ 90
  all_goals try (exfalso; omega)
  all_goals
    have S := hide (smallB_any w r)
    rw [h1] at S
    go_enter Tryd.func29, Tryd.ntmps29
    go_wp2_with (go_at_call 53; refine S.out.mono ?_; rintro e w1 ⟨rfl, rfl⟩)
    go_ret
    exact ⟨by simp [Lx.ltR, Lx.capR, *], rfl⟩
theorem digitC_any (w : World) (c : UInt8) : Calls Tryd.prog 31 #[.int .u8 c.toNat] w fun e w' => e = .returned (.bool (Lx.dg c)) ∧ w' = w := by
  have := digitB_any w c.toNat
  rw [Lx.dgR_c] at this
  exact this
theorem blankC_any (w : World) (c : UInt8) : Calls Tryd.prog 14 #[.int .u8 c.toNat] w fun e w' => e = .returned (.bool (Lx.bl c)) ∧ w' = w := by
  have := blankB_any w c.toNat
  rw [Lx.blR_c] at this
  exact this
theorem letterC_any (w : World) (c : UInt8) : Calls Tryd.prog 29 #[.int .u8 c.toNat] w fun e w' => e = .returned (.bool (Lx.lt c)) ∧ w' = w := by
  have := letterB_any w c.toNat
  rw [Lx.ltR_c] at this
  exact this
set_option maxHeartbeats 3200000 in
theorem two_any (w : World) (s : ByteArray) : Calls Tryd.prog 34 #[.string s] w fun e w' => e = .returned (.bool ([[60, 62], [60, 61], [62, 61], [124, 124]].contains s.data.toList)) ∧ w' = w := by
  obtain ⟨N, hN⟩ : ∃ N, N = ([[60, 62], [60, 61], [62, 61], [124, 124]] : List (List UInt8)).contains s.data.toList := ⟨_, rfl⟩
  rw [← hN]
  have HN : Hid (N = ([[60, 62], [60, 61], [62, 61], [124, 124]] : List (List UInt8)).contains s.toList) := by rw [ByteArray.toList_eq]; exact hN
  clear hN
  go_enter Tryd.func34, Tryd.ntmps34
  go_wp2
  all_goals go_ret
  all_goals refine ⟨?_, rfl⟩
  all_goals rw [HN.out, List.contains_cons, List.contains_cons, List.contains_cons, List.contains_cons, List.contains_nil, Bool.or_false, ← Bool.or_assoc, ← Bool.or_assoc]
  all_goals first
    | rfl
    | (rename_i a; rw [a]; rfl)
    | (rename_i a b; rw [a, b]; rfl)
    | (rename_i a b c; rw [a, b, c]; rfl)
    | (simp only [*]; rfl)
end Go.Proofs.YtjddhakaebkkeaaDoor
namespace Go.Proofs.YtjddhakaebkkeaaDoor
open Go.RowKit
attribute [local go_sem ↓] Go.wp_at_zero Go.wp_at_succ

/-- Signs of one byte. -/
def oneB : ByteArray := ⟨#[40, 41, 44, 59, 46, 42, 43, 45, 47, 37, 61, 60, 62]⟩
theorem byte_in (L : ByteArray) (k : Nat) (h : k < L.size) (c : UInt8) (e : L[k]'h = c) : L.data.toList.contains c = true := by
  rw [List.contains_iff_mem, ← e, Array.mem_toList_iff]
  exact Array.getElem_mem _
theorem byte_no (L : ByteArray) (c : UInt8) (hno : ∀ j (h : j < L.size), L[j]'h ≠ c) : L.data.toList.contains c = false := by
  rw [← Bool.not_eq_true, List.contains_iff_mem, Array.mem_toList_iff]
  intro h
  obtain ⟨j, hj, e⟩ := Array.mem_iff_getElem.1 h
  exact hno j hj e
theorem nat_eq {a c : UInt8} (h : ((a.toNat : Int) == c.toNat) = true) : a = c := UInt8.toNat_inj.mp (by have := eq_of_beq h; omega)
set_option maxHeartbeats 3200000 in
theorem one_any (w : World) (c : UInt8) : Calls Tryd.prog 35 #[.int .u8 c.toNat] w fun e w' => e = .returned (.bool (oneB.data.toList.contains c)) ∧ w' = w := by
  have hBs : oneB.size = 13 := rfl
  obtain ⟨N, hN⟩ : ∃ N, N = oneB.data.toList.contains c := ⟨_, rfl⟩
  rw [← hN]
  have HN := hide hN
  clear hN
  go_enter Tryd.func35, Tryd.ntmps35
  go_wp2
  obtain ⟨L, hL⟩ : ∃ L, L = oneB := ⟨_, rfl⟩
  have HL := hide hL
  rw [show (⟨#[40, 41, 44, 59, 46, 42, 43, 45, 47, 37, 61, 60, 62]⟩ : ByteArray) = L from hL.symm]
  have hLs : L.size = 13 := by rw [hL]; rfl
  rw [← hL] at HN
  clear hL hBs
  go_loopw [4] (fun v wr => ∃ k : Nat, v = .int .i64 k ∧ k ≤ 13 ∧ wr = w ∧ ∀ j (h : j < L.size), j < k → L[j]'h ≠ c) (fun v _ => 13 - (intOf v).toNat)
  case atStart => exact ⟨0, rfl, Nat.zero_le _, rfl, fun j _ hj => by omega⟩
  case round =>
    obtain ⟨k, rfl, hk, hw, hno⟩ := hrel
    have hw2 := hw.symm
    subst hw2
    clear hw
    have HNO := hide hno
    clear hno
    by_cases hlt : k < 13
    · have hki : (k : Int) < 13 := by omega
      have hkl : k < L.size := by omega
      go_wp2
      · rename_i hh
        go_ret
        exact ⟨by rw [HN.out, byte_in L k hkl c (nat_eq hh)]; rfl, rfl⟩
      · rename_i hh
        refine ⟨⟨k + 1, by go_num, by omega, trivial, fun j hj hj2 => ?_⟩, by simp [intOf]; omega⟩
        by_cases hj3 : j < k
        · exact HNO.out j hj hj3
        · obtain rfl : j = k := by omega
          intro e
          rw [e] at hh
          simp at hh
    · have hki : ¬ (k : Int) < 13 := by omega
      go_wp2
      go_ret
      exact ⟨by rw [HN.out, byte_no L c fun j hj => HNO.out j hj (by omega)]; rfl, rfl⟩
end Go.Proofs.YtjddhakaebkkeaaDoor
