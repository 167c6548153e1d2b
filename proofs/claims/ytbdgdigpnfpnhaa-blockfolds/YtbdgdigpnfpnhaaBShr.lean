/-
  How many bytes the key of a place is said to share: what the call answers.
-/
import Derived.Test.YtbdgdigpnfpnhaaKD
namespace Go.Proofs.Ytbdgdigpnfpnhaa
open Go.RowKit

set_option maxRecDepth 100000 in
set_option maxHeartbeats 4000000 in
theorem shared_any (w : World) (p : Nat) (a k : List UInt8) (hp : p ≤ 1000000) (ha : a.length ≤ 1000000) (_hk : k.length ≤ 1000000) :
    Calls Try.prog 80 #[.int .i64 (p : Int), str a, str k] w fun e w' => e = .returned (.int .i64 (Bk.shr p a k : Nat)) ∧ Below w.heap.size w w' := by
  by_cases h8 : p % 8 = 0
  · have HS : Hid (Bk.shr p a k = 0) := if_pos h8
    have e8 : (p : Int).tmod 8 = 0 := by rw [Int.tmod_eq_emod_of_nonneg (by omega)]; omega
    rw [HS.out]
    go_enter Try.func80, Try.ntmps80
    go_wp2_with (fail)
    go_ret
    exact ⟨rfl, Below.refl _ _⟩
  · have HS : Hid (Bk.shr p a k = Bk.cp a k) := if_neg h8
    have e8 : ((p : Int).tmod 8 == 0) = false := by rw [Int.tmod_eq_emod_of_nonneg (by omega)]; simp; omega
    rw [HS.out]
    have LE := Bk.cp_le a k
    go_enter Try.func80, Try.ntmps80
    go_wp2_with (fail)
    go_loopw [7] (fun i wr => Below w.heap.size w wr ∧ ∃ n : Nat, i = .int .i64 n ∧ n ≤ Bk.cp a k) (fun i _ => Bk.cp a k - (intOf i).toNat)
    case atStart => exact ⟨Below.refl _ _, 0, rfl, Nat.zero_le _⟩
    case round =>
      obtain ⟨bx, n, rfl, hn⟩ := hrel
      have ST : Hid _ := Bk.cp_step a k n hn
      by_cases h1 : n < a.length
      · by_cases h2 : n < k.length
        · have m1 : (n : Int) < min (a.length : Int) (k.length : Int) := by omega
          have m2 : (n : Int) < (a.length : Int) := by omega
          have m3 : (n : Int) < (k.length : Int) := by omega
          have m4 : (0 : Int) ≤ (n : Int) := by omega
          have q1 : n < (⟨a.toArray⟩ : ByteArray).size := by show n < a.toArray.size; simpa using h1
          have q2 : n < (⟨k.toArray⟩ : ByteArray).size := by show n < k.toArray.size; simpa using h2
          have q3 : (⟨a.toArray⟩ : ByteArray)[n] = a[n] := by show a.toArray[n] = a[n]; simp
          have q4 : (⟨k.toArray⟩ : ByteArray)[n] = k[n] := by show k.toArray[n] = k[n]; simp
          by_cases h3 : a[n] = k[n]
          · have HN : Hid (n < Bk.cp a k) := ST.out.2 ⟨h1, h2, h3⟩
            have e3 : (((⟨a.toArray⟩ : ByteArray)[n].toNat : Int) == ((⟨k.toArray⟩ : ByteArray)[n].toNat : Int)) = true := by rw [q3, q4, h3]; simp
            clear ST q3 q4 h3
            go_wp2_with (fail)
            go_region
            go_wp2_with (fail)
            exact ⟨⟨bx.drew, n + 1, by go_num, HN.out⟩, by simp [intOf]; have := HN.out; omega⟩
          · have HN : Hid (n = Bk.cp a k) := by
              show _ = _
              have := mt ST.out.1 (fun h => h3 h.2.2)
              omega
            have e3 : (((⟨a.toArray⟩ : ByteArray)[n].toNat : Int) == ((⟨k.toArray⟩ : ByteArray)[n].toNat : Int)) = false := by
              rw [q3, q4]
              have h4 : ¬ a[n].toNat = k[n].toNat := fun e => h3 (UInt8.toNat_inj.1 e)
              simp; omega
            clear ST q3 q4 h3
            go_wp2_with (fail)
            go_region
            go_wp2_with (fail)
            go_ret
            exact ⟨by rw [← HN.out]; rfl, bx.drew⟩
        · have HN : Hid (n = Bk.cp a k) := by
            show _ = _
            have := mt ST.out.1 (fun h => h2 h.2.1)
            omega
          have m1 : decide ((n : Int) < min (a.length : Int) (k.length : Int)) = false := decide_eq_false (by omega)
          clear ST
          go_wp2_with (fail)
          go_region
          go_wp2_with (fail)
          go_ret
          exact ⟨by rw [← HN.out]; rfl, bx.drew⟩
      · have HN : Hid (n = Bk.cp a k) := by
          show _ = _
          have := mt ST.out.1 (fun h => h1 h.1)
          omega
        have m1 : decide ((n : Int) < min (a.length : Int) (k.length : Int)) = false := decide_eq_false (by omega)
        clear ST
        go_wp2_with (fail)
        go_region
        go_wp2_with (fail)
        go_ret
        exact ⟨by rw [← HN.out]; rfl, bx.drew⟩
end Go.Proofs.Ytbdgdigpnfpnhaa
