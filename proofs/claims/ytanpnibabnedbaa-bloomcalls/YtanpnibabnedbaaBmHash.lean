/-
  The hash of a key: what the program's call answers.
-/
import Derived.Test.YtanpnibabnedbaaKBytes
import Derived.Test.YtanpnibabnedbaaBmP
import Derived.Laws.BitsAllLaws
namespace Go.Proofs.Ytanpnibabnedbaa
open Go.RowKit

theorem str_take (s : ByteArray) (k : Nat) (h : k < s.size) : Bm.hash (s.data.toList.take (k + 1)) = Bm.hash1 (Bm.hash (s.data.toList.take k)) s[k] := by
  rw [Bm.hash_take _ _ (by simpa using h)]; rfl

theorem hash_step (r : Nat) (hr : r < 18446744073709551616) (c : UInt8) : IntKind.u64.wrap (bits .xor .u64 (r : Int) (IntKind.u64.wrap (c.toNat : Int)) * 1099511628211) = ((Bm.hash1 r c : Nat) : Int) := by
  have hc := UInt8.toNat_lt c
  have e : IntKind.u64.wrap (c.toNat : Int) = (c.toNat : Int) := by rw [IntKind.wrap_u64]; omega
  rw [e, u64_xor_nat r c.toNat hr (by omega)]
  unfold Bm.hash1
  rw [IntKind.wrap_u64]
  omega

set_option maxHeartbeats 800000 in
theorem hash_any (w : World) (s : ByteArray) (hs : s.size ≤ 140737488355328) :
    Calls Try.prog 10 #[.string s] w fun e w' => e = .returned (.int .u64 ((Bm.hash s.data.toList : Nat) : Int)) ∧ w' = w := by
  go_enter Try.func10, Try.ntmps10
  go_wp2_with (fail)
  go_loopw [3, 7] (fun x i wr => ∃ (j r : Nat), j ≤ s.size ∧ i = .int .i64 j ∧ x = .int .u64 r ∧ r < 18446744073709551616 ∧ Hid (r = Bm.hash (s.data.toList.take j)) ∧ wr = w) (fun _ i _ => s.size - (intOf i).toNat)
  case atStart => exact ⟨0, Bm.start, Nat.zero_le _, rfl, rfl, by decide, rfl, rfl⟩
  case round =>
    obtain ⟨j, r, hj, rfl, rfl, hr, HR, rfl⟩ := hrel
    by_cases hlt : j < s.size
    · have X2 := hash_step r hr s[j]
      obtain ⟨q, hq⟩ : ∃ q, q = Bm.hash1 r s[j] := ⟨_, rfl⟩
      have HQ : Hid (q = Bm.hash (s.data.toList.take (j + 1))) := by show _ = _; rw [str_take s j hlt, ← HR.out]; exact hq
      have hql : q < 18446744073709551616 := by rw [hq]; exact Bm.hash1_lt _ _
      rw [← hq] at X2
      have HX : Hid (IntKind.u64.wrap (bits .xor .u64 (r : Int) (IntKind.u64.wrap (s[j].toNat : Int)) * 1099511628211) = (q : Int)) := X2
      clear hq X2
      go_wp2_with (fail)
      exact ⟨⟨j + 1, q, by omega, by go_num, by rw [HX.out], hql, HQ, trivial⟩, by simp [intOf]; omega⟩
    · have ej : j = s.size := by omega
      subst ej
      have HZ : Hid (r = Bm.hash s.data.toList) := by show _ = _; rw [HR.out, List.take_of_length_le (by simp)]
      go_wp2_with (fail)
      go_ret
      rw [HZ.out]
      exact ⟨rfl, rfl⟩
end Go.Proofs.Ytanpnibabnedbaa
