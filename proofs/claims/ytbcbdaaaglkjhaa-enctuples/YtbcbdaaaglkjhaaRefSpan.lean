/-
  The document's own answers of spans and of which stamp is later, as the calls that say them give them: the same, of every text, span and stamp.
-/
import Derived.Test.YtbcbdaaaglkjhaaStampFacts
import Derived.Test.YtbcbdaaaglkjhaaAfter
namespace Go.Proofs.Ytbcbdaaaglkjhaa
open Go.RowKit

set_option maxHeartbeats 800000 in
theorem refIn_any (w : World) (k f t : ByteArray) :
    Calls Try.prog 40 #[.string k, .agg #[.string f, .string t]] w fun e w' => e = .returned (.bool (inB k.toList f.toList t.toList)) ∧ w' = w.alloc (.cells #[.string f, .string t] 43) := by
  have hI : ∀ b, inB k.toList f.toList t.toList = b → Hid (inB k.toList f.toList t.toList = b) := fun b h => h
  cases h1 : Op.bytesLess k.toList f.toList
  · cases h2 : t.toList.isEmpty
    · cases h3 : Op.bytesLess k.toList t.toList
      · have HI := hI false (by simp [inB, h1, h2, h3])
        clear hI
        go_enter Try.func40, Try.ntmps40
        go_wp2
        go_ret
        exact ⟨by rw [HI.out]; rfl, rfl⟩
      · have HI := hI true (by simp [inB, h1, h2, h3])
        clear hI
        go_enter Try.func40, Try.ntmps40
        go_wp2
        go_ret
        exact ⟨by rw [HI.out]; rfl, rfl⟩
    · have HI := hI true (by simp [inB, h1, h2])
      clear hI
      go_enter Try.func40, Try.ntmps40
      go_wp2
      go_ret
      exact ⟨by rw [HI.out]; rfl, rfl⟩
  · have HI := hI false (by simp [inB, h1])
    clear hI
    go_enter Try.func40, Try.ntmps40
    go_wp2
    go_ret
    exact ⟨by rw [HI.out]; rfl, rfl⟩

set_option maxHeartbeats 800000 in
theorem refLater_any (w : World) (a b c a' b' c' : Int) :
    Calls Try.prog 42 #[.agg #[.int .i64 a, .int .i32 b, .int .i32 c], .agg #[.int .i64 a', .int .i32 b', .int .i32 c']] w fun e w' => e = .returned (.bool (laterB a b c a' b' c')) ∧ Below w.heap.size w w' := by
  have hI : ∀ x, laterB a b c a' b' c' = x → Hid (laterB a b c a' b' c' = x) := fun b h => h
  by_cases h1 : a = a'
  · have n1 : (a != a') = false := by simp [h1]
    by_cases h2 : b = b'
    · have n2 : (b != b') = false := by simp [h2]
      have HI := hI (decide (c' < c)) (by rw [or3_pos]; simp [h1, h2])
      clear hI h1 h2
      go_enter Try.func42, Try.ntmps42
      go_wp2
      go_ret
      exact ⟨by rw [HI.out]; rfl, ((Below.refl _ _).alloc (Nat.le_refl _) _).alloc (by simp) _⟩
    · have n2 : (b != b') = true := by simp [h2]
      have HI := hI (decide (b' < b)) (by rw [or3_pos]; have : ¬ b' = b := fun e => h2 e.symm; simp [h1, this])
      clear hI h1 h2
      go_enter Try.func42, Try.ntmps42
      go_wp2
      go_ret
      exact ⟨by rw [HI.out]; rfl, ((Below.refl _ _).alloc (Nat.le_refl _) _).alloc (by simp) _⟩
  · have n1 : (a != a') = true := by simp [h1]
    have HI := hI (decide (a' < a)) (by rw [or3_pos]; have : ¬ a' = a := fun e => h1 e.symm; simp [this])
    clear hI h1
    go_enter Try.func42, Try.ntmps42
    go_wp2
    go_ret
    exact ⟨by rw [HI.out]; rfl, ((Below.refl _ _).alloc (Nat.le_refl _) _).alloc (by simp) _⟩

set_option maxRecDepth 20000 in
set_option maxHeartbeats 1600000 in
theorem refAfter_any (w : World) (s : ByteArray) (hs : s.size ≤ 9223372036854775807) :
    Calls Try.prog 39 #[.string s] w fun e w' => e = .returned (.string ⟨(aft s.data.toList).toArray⟩) ∧ Below w.heap.size w w' := by
  go_enter Try.func39, Try.ntmps39
  go_wp2
  go_loop [3] (fun i => ∃ j : Nat, j ≤ s.size ∧ i = .int .i64 j ∧ aft (s.data.toList.drop j) = []) (fun i => (intOf i).toNat)
  case atStart => exact ⟨s.size, Nat.le_refl _, rfl, by rw [List.drop_eq_nil_of_le (by rw [ba_length]; omega)]; rfl⟩
  case round =>
    obtain ⟨j, hj, rfl, hr⟩ := hrel
    have HR : Hid (aft (s.data.toList.drop j) = []) := hr
    clear hr
    by_cases hj0 : j = 0
    · have HE : Hid (aft s.data.toList = []) := by have := HR.out; rwa [hj0, List.drop_zero] at this
      subst hj0
      go_wp2
      go_ret
      exact ⟨by rw [HE.out]; rfl, Below.refl _ _⟩
    · obtain ⟨p, hp⟩ : ∃ p : Nat, j = p + 1 := ⟨j - 1, by omega⟩
      have hpl : p < s.size := by omega
      have hpi : ((j : Int) - 1) = (p : Int) := by omega
      have A := aft_drop s.data.toList p (by rw [ba_length]; exact hpl) (by have := HR.out; rwa [hp] at this)
      rw [ba_get s p hpl] at A
      obtain ⟨A1, A2⟩ := A
      have hji : (0 : Int) < (j : Int) := by omega
      have HP : Hid (j = p + 1) := hp
      by_cases hc : (s[p]).toNat < 255
      · have hci : ((s[p].toNat : Int) == 255) = false := by rw [beq_eq_false_iff_ne]; omega
        have hcz : ((j : Int) == 0) = false := by rw [beq_eq_false_iff_ne]; omega
        have HA : Hid (aft s.data.toList = s.data.toList.take p ++ [UInt8.ofNat ((s[p]).toNat + 1)]) := A2 hc
        clear A1 A2 hc
        have b0 : (0 : Int) ≤ (p : Int) := by omega
        have b1 : (p : Int) ≤ (s.size : Int) := by omega
        have b2 : (p : Int) < (s.size : Int) := by omega
        clear hp hj0
        obtain ⟨T, hT⟩ : ∃ T : ByteArray, T = ⟨#[UInt8.ofNat ((s[p]).toNat + 1)]⟩ := ⟨_, rfl⟩
        have hTs : T.size = 1 := by rw [hT]; rfl
        have kc := one_str w (IntKind.u8.wrap ((s[p].toNat : Int) + 1)) ((s[p]).toNat + 1) (by rw [ofNat_cell]; rfl)
        have kc2 := one_str w (((s[p].toNat : Int) + 1) % 256) ((s[p]).toNat + 1) (by rw [ofNat_cell]; rfl)
        rw [← hT] at kc kc2
        have kp : ∀ wx : World, (Op.stringOp .add (s.extract 0 p) T).run Try.prog wx = .ok (.string (s.extract 0 p ++ T)) wx := fun wx => run_string_add_sum wx _ _ (by rw [hTs, ByteArray.size_extract]; omega)
        have HF : Hid (s.extract 0 p ++ T = ⟨(aft s.data.toList).toArray⟩) := by
          show _ = _
          apply ba_ext
          rw [HA.out, ByteArray.data_append, Array.toList_append, Lib.extract_data, hT]
          simp
        clear hT hTs
        go_wp2
        go_region
        go_wp2
        go_ret
        exact ⟨by rw [← HF.out]; rfl, ((Below.refl _ _).alloc (Nat.le_refl _) _).drew⟩
      · have hci : ((s[p].toNat : Int) == 255) = true := by have := (s[p]).toNat_lt; rw [beq_iff_eq]; omega
        have HA : Hid (aft (s.data.toList.drop p) = []) := A1 hc
        clear A1 A2 hc hp hj0
        go_wp2
        go_round
        case rel => exact ⟨p, by omega, rfl, HA.out⟩
        case measure => have := HP.out; simp [intOf]; omega
end Go.Proofs.Ytbcbdaaaglkjhaa
