/-
  The least text above all that begin with one, and whether a text is in a span: what the two calls answer, at every text; they leave all that was there as it was.
-/
import Derived.Test.YtbcbdaaaglkjhaaStrs
import Derived.Test.YtbcbdaaaglkjhaaProg
import Derived.Laws.IdiomStrings
import Derived.Laws.Concat
import Derived.Deep.RegionHeld3
namespace Go.Proofs.Ytbcbdaaaglkjhaa
open Go.RowKit

theorem ba_length (s : ByteArray) : s.data.toList.length = s.size := by rw [Array.length_toList]; rfl
theorem ba_get (s : ByteArray) (j : Nat) (h : j < s.size) : s.data.toList[j]'(by rw [ba_length]; exact h) = s[j] := rfl
theorem ba_ext {s t : ByteArray} (h : s.data.toList = t.data.toList) : s = t := by
  cases s; cases t; congr; simpa [Array.toList_inj] using h

theorem aft_drop (l : List UInt8) (p : Nat) (h : p < l.length) (hr : aft (l.drop (p + 1)) = []) :
    (¬ (l[p]).toNat < 255 → aft (l.drop p) = []) ∧ ((l[p]).toNat < 255 → aft l = l.take p ++ [UInt8.ofNat ((l[p]).toNat + 1)]) := by
  have e : l.drop p = l[p] :: l.drop (p + 1) := List.drop_eq_getElem_cons h
  refine ⟨fun hc => by rw [e]; exact aft_255 _ _ hr hc, fun hc => ?_⟩
  have e2 : l = l.take p ++ l[p] :: l.drop (p + 1) := by rw [← e]; exact (List.take_append_drop p l).symm
  have := aft_split (l.take p) (l[p]) (l.drop (p + 1)) hr hc
  rw [← e2] at this
  exact this

/-- A text of one byte. -/
theorem one_str (w : World) (X : Int) (n : Nat) (h : ((UInt8.ofNat n).toNat : Int) = X) :
    (convert 22 9 (.slice (some ⟨w.heap.size, 0, none⟩) 1 1)).run Try.prog (w.alloc (.cells #[.int .u8 X] 5)).drew = .ok (.string ⟨#[UInt8.ofNat n]⟩) (w.alloc (.cells #[.int .u8 X] 5)).drew := by
  refine run_convert_bytes_back _ 22 9 5 ⟨w.heap.size, 0, none⟩ 1 [UInt8.ofNat n] Try.underlying22 Try.underlying5 Try.underlying9 ?_
  intro j hj
  have hj0 : j = 0 := by simp at hj; omega
  subst hj0
  have := World.cell?_alloc_mark w #[.int .u8 X] 5 (0, 0) 0
  simp only [List.getElem_cons_zero, h]
  exact this

set_option maxHeartbeats 800000 in
theorem after_any (w : World) (s : ByteArray) (hs : s.size ≤ 9223372036854775807) :
    Calls Try.prog 14 #[.string s] w fun e w' => e = .returned (.string ⟨(aft s.data.toList).toArray⟩) ∧ Below w.heap.size w w' := by
  go_enter Try.func14, Try.ntmps14
  go_wp2
  go_loop [7] (fun i => ∃ j : Nat, j ≤ s.size ∧ i = .int .i64 j ∧ aft (s.data.toList.drop (s.size - j)) = []) (fun i => s.size - (intOf i).toNat)
  case atStart => exact ⟨0, Nat.zero_le _, rfl, by rw [List.drop_eq_nil_of_le (by rw [ba_length]; omega)]; rfl⟩
  case round =>
    obtain ⟨j, hj, rfl, hr⟩ := hrel
    have HR : Hid (aft (s.data.toList.drop (s.size - j)) = []) := hr
    clear hr
    by_cases hlt : j < s.size
    · obtain ⟨p, hp⟩ : ∃ p : Nat, p + 1 + j = s.size := ⟨s.size - 1 - j, by omega⟩
      have hpl : p < s.size := by omega
      have hpi : ((s.size : Int) - 1 - j) = (p : Int) := by omega
      have A := aft_drop s.data.toList p (by rw [ba_length]; exact hpl) (by have := HR.out; rwa [show s.size - j = p + 1 from by omega] at this)
      rw [ba_get s p hpl] at A
      obtain ⟨A1, A2⟩ := A
      by_cases hc : (s[p]).toNat < 255
      · have hci : ((s[p].toNat : Int) < 255) := by omega
        have HA : Hid (aft s.data.toList = s.data.toList.take p ++ [UInt8.ofNat ((s[p]).toNat + 1)]) := A2 hc
        clear A1 A2 hc
        have b0 : (0 : Int) ≤ (p : Int) := by omega
        have b1 : (p : Int) ≤ (s.size : Int) := by omega
        have b2 : (p : Int) < (s.size : Int) := by omega
        obtain ⟨T, hT⟩ : ∃ T : ByteArray, T = ⟨#[UInt8.ofNat ((s[p]).toNat + 1)]⟩ := ⟨_, rfl⟩
        have hTs : T.size = 1 := by rw [hT]; rfl
        have kc := one_str w (IntKind.u8.wrap ((s[p].toNat : Int) + 1)) ((s[p]).toNat + 1) (by rw [ofNat_cell]; rfl)
        rw [← hT] at kc
        have kp : ∀ wx : World, (Op.stringOp .add (s.extract 0 p) T).run Try.prog wx = .ok (.string (s.extract 0 p ++ T)) wx := fun wx => run_string_add_sum wx _ _ (by rw [hTs, ByteArray.size_extract]; omega)
        have HF : Hid (s.extract 0 p ++ T = ⟨(aft s.data.toList).toArray⟩) := by
          show _ = _
          apply ba_ext
          rw [HA.out, ByteArray.data_append, Array.toList_append, Lib.extract_data, hT]
          simp
        clear hT hTs
        go_wp2
        go_region
        go_wp2
        go_ret
        exact ⟨by rw [← HF.out]; rfl, ((Below.refl _ _).alloc (Nat.le_refl _) _).drew⟩
      · have hci : ¬ ((s[p].toNat : Int) < 255) := by omega
        have HA : Hid (aft (s.data.toList.drop p) = []) := A1 hc
        clear A1 A2 hc
        go_wp2
        go_round
        case rel => exact ⟨j + 1, by omega, by go_num, by rw [show s.size - (j + 1) = p from by omega]; exact HA.out⟩
        case measure => simp [intOf]; omega
    · have HE : Hid (aft s.data.toList = []) := by
        show _ = _
        have := HR.out
        rwa [show s.size - j = 0 from by omega, List.drop_zero] at this
      go_wp2
      go_ret
      exact ⟨by rw [HE.out]; rfl, Below.refl _ _⟩

set_option maxHeartbeats 800000 in
theorem in_any (w : World) (k f t : ByteArray) :
    Calls Try.prog 15 #[.string k, .agg #[.string f, .string t]] w fun e w' => e = .returned (.bool (inB k.toList f.toList t.toList)) ∧ w' = w.alloc (.cells #[.string f, .string t] 43) := by
  have hI : ∀ b, inB k.toList f.toList t.toList = b → Hid (inB k.toList f.toList t.toList = b) := fun b h => h
  cases h1 : Op.bytesLess k.toList f.toList
  · cases h2 : t.toList.isEmpty
    · cases h3 : Op.bytesLess k.toList t.toList
      · have HI := hI false (by simp [inB, h1, h2, h3])
        clear hI
        go_enter Try.func15, Try.ntmps15
        go_wp2
        go_ret
        exact ⟨by rw [HI.out]; rfl, rfl⟩
      · have HI := hI true (by simp [inB, h1, h2, h3])
        clear hI
        go_enter Try.func15, Try.ntmps15
        go_wp2
        go_ret
        exact ⟨by rw [HI.out]; rfl, rfl⟩
    · have HI := hI true (by simp [inB, h1, h2])
      clear hI
      go_enter Try.func15, Try.ntmps15
      go_wp2
      go_ret
      exact ⟨by rw [HI.out]; rfl, rfl⟩
  · have HI := hI false (by simp [inB, h1])
    clear hI
    go_enter Try.func15, Try.ntmps15
    go_wp2
    go_ret
    exact ⟨by rw [HI.out]; rfl, rfl⟩
end Go.Proofs.Ytbcbdaaaglkjhaa
