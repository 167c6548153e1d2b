/-
  Reading a number that may not be above another one: what the call answers.
-/
import Derived.Test.YtanhmebjfockjaaJELeb
namespace Go.Proofs.Ytanhmebjfockjaa.Enc
open Go.RowKit

/-- The number up to 'most', how many bytes it has, and the error. -/
def smX (l : List UInt8) (most : Int) : Int := if (rd l).2.2 = 0 ∧ 0 ≤ most ∧ ((rd l).1 : Int) ≤ most then ((rd l).1 : Int) else 0
def smN (l : List UInt8) (most : Int) : Int := if (rd l).2.2 = 0 ∧ 0 ≤ most ∧ ((rd l).1 : Int) ≤ most then ((rd l).2.1 : Int) else 0
def smE (l : List UInt8) (most : Int) : Int := if (rd l).2.2 = 0 ∧ 0 ≤ most ∧ ((rd l).1 : Int) ≤ most then 0 else 5

set_option maxHeartbeats 1600000 in
theorem small_any (w : World) (v : Value) (l : List UInt8) (most : Int) (hm : most ≤ 9223372036854775807) (hm0 : -9223372036854775808 ≤ most) (h : BytesIn w v l) :
    Calls Try.prog 101 #[v, .int .i64 most] w fun e w' => e = .returned (.tuple #[.int .i64 (smX l most), .int .i64 (smN l most), .int .i64 (smE l most)]) ∧ w' = w := by
  have RD : Hid (Calls Try.prog 109 #[v] w fun e w' => e = .returned (.tuple #[.int .u64 ((rd l).1 : Int), .int .i64 ((rd l).2.1 : Int), .int .i64 ((rd l).2.2 : Int)]) ∧ w' = w) := read_any w v l h
  have F : ∀ c, ((rd l).2.2 = 0 ∧ 0 ≤ most ∧ ((rd l).1 : Int) ≤ most) = c → Hid (c → smX l most = ((rd l).1 : Int) ∧ smN l most = ((rd l).2.1 : Int) ∧ smE l most = 0) ∧ Hid (¬ c → smX l most = 0 ∧ smN l most = 0 ∧ smE l most = 5) := by
    rintro c rfl
    exact ⟨fun h => ⟨if_pos h, if_pos h, if_pos h⟩, fun h => ⟨if_neg h, if_neg h, if_neg h⟩⟩
  obtain ⟨F1, F2⟩ := F _ rfl
  clear F h
  have hlt := rd_lt l
  have he := rd_err l
  obtain ⟨X, hX⟩ : ∃ X, X = (rd l).1 := ⟨_, rfl⟩
  obtain ⟨N, hN⟩ : ∃ N, N = (rd l).2.1 := ⟨_, rfl⟩
  obtain ⟨E, hE⟩ : ∃ E, E = (rd l).2.2 := ⟨_, rfl⟩
  obtain ⟨sx, hsx⟩ : ∃ s, s = smX l most := ⟨_, rfl⟩
  obtain ⟨sn, hsn⟩ : ∃ s, s = smN l most := ⟨_, rfl⟩
  obtain ⟨se, hse⟩ : ∃ s, s = smE l most := ⟨_, rfl⟩
  rw [← hX, ← hN, ← hE] at RD F1
  rw [← hX, ← hE] at F2
  rw [← hsx, ← hsn, ← hse] at F1 F2 ⊢
  rw [← hX] at hlt
  rw [← hE] at he
  clear hX hN hE hsx hsn hse
  rcases he with rfl | rfl
  · by_cases h1 : 0 ≤ most
    · have h1' : ¬ most < 0 := by omega
      have hw : IntKind.u64.wrap most = most := by rw [IntKind.wrap_u64]; omega
      by_cases h2 : (X : Int) ≤ most
      · have h2' : ¬ most < (X : Int) := by omega
        have hwx : IntKind.i64.wrap (X : Int) = (X : Int) := by simp only [IntKind.wrap, IntKind.bits, IntKind.signed]; simp; omega
        obtain ⟨rfl, rfl, rfl⟩ := F1.out ⟨rfl, h1, h2⟩
        clear F1 F2
        go_enter Try.func101, Try.ntmps101
        go_wp2_with (go_at_call 109; refine RD.out.mono ?_; rintro e w' ⟨rfl, rfl⟩)
        go_ret3
        exact ⟨rfl, rfl⟩
      · have h2' : most < (X : Int) := by omega
        obtain ⟨rfl, rfl, rfl⟩ := F2.out (fun h => h2 h.2.2)
        clear F1 F2
        go_enter Try.func101, Try.ntmps101
        go_wp2_with (go_at_call 109; refine RD.out.mono ?_; rintro e w' ⟨rfl, rfl⟩)
        go_ret3
        exact ⟨rfl, rfl⟩
    · have h1' : most < 0 := by omega
      obtain ⟨rfl, rfl, rfl⟩ := F2.out (fun h => h1 h.2.1)
      clear F1 F2
      go_enter Try.func101, Try.ntmps101
      go_wp2_with (go_at_call 109; refine RD.out.mono ?_; rintro e w' ⟨rfl, rfl⟩)
      go_ret3
      exact ⟨rfl, rfl⟩
  · obtain ⟨rfl, rfl, rfl⟩ := F2.out (fun h => by cases h.1)
    clear F1 F2
    go_enter Try.func101, Try.ntmps101
    go_wp2_with (go_at_call 109; refine RD.out.mono ?_; rintro e w' ⟨rfl, rfl⟩)
    go_ret3
    exact ⟨rfl, rfl⟩
end Go.Proofs.Ytanhmebjfockjaa.Enc
