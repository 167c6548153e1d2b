/-
  Proved: for every two texts s and t the call EncAfter(s, t) returns true and leaves its arguments as they were: t is in the span from s to After(s) just if it begins with s, and After(s), if it is not empty, is above s and does not begin with it.
  Conditions: none beyond the form's own reach.
-/
import Derived.Test.YtbcbdaaaglkjhabRows
import Derived.Test.YtbcbdaaaglkjhabLives
import Derived.Test.YtbcbdaaaglkjhabAfter
import Derived.ProofKit
import Derived.OpenShut
import Derived.ShutString
import Derived.ChangeOld
namespace Go.Proofs.Ytbcbdaaaglkjhab.encAfter
open Go.ChangeShapes Go.WideShapes Go.ChangeAt Go.RowKit
open Go.ChangeMaps (open_string shut_string)
open Go.Proofs.Ytbcbdaaaglkjhab

theorem own : ownKnob Try.prog.godebug = none := by kernel_rfl

theorem extract_list (t : ByteArray) (n : Nat) : (t.extract 0 n).toList = t.data.toList.take n := by
  rw [ByteArray.toList_eq, Lib.extract_data]; simp

theorem prefix_of (s t : ByteArray) (h : s.size ≤ t.size) : s.data.toList.isPrefixOf t.data.toList = ((t.extract 0 s.size).toList == s.toList) := by
  rw [isPrefixOf_take, extract_list, ba_length, ba_length, ByteArray.toList_eq]
  simp [h]

set_option maxHeartbeats 1000000 in
theorem walk_first (s t A : ByteArray) (w : World) (hs : s.size ≤ 9223372036854775807) (_ht : t.size ≤ 9223372036854775807) (HA : Hid (A = ⟨(aft s.data.toList).toArray⟩)) (fst : Bool)
    (hf : (t.size < s.size ∧ fst = false) ∨ (s.size ≤ t.size ∧ ((t.extract 0 s.size).toList == s.toList) = fst)) (hin : inB t.toList s.toList A.toList = fst)
    (hz : A.toList.isEmpty = true ∨ (A.toList.isEmpty = false ∧ Op.bytesLess A.toList s.toList = false ∧ (A.toList == s.toList) = false ∧ (A.size < s.size ∨ (s.size ≤ A.size ∧ ((A.extract 0 s.size).toList == s.toList) = false)))) :
    Calls Try.prog 3 #[.string s, .string t] w fun e w' => e = .returned (.bool true) ∧ Below w.heap.size w w' := by
  have HAF : Hid (∀ wx : World, Calls Try.prog 6 #[.string s] wx fun e w' => e = .returned (.string A) ∧ Below wx.heap.size wx w') := by
    intro wx
    have := after_any wx s hs
    rw [HA.out]; exact this
  clear HA
  rcases hf with ⟨hf1, rfl⟩ | ⟨hf1, hf2⟩
  all_goals
    have hfi : (t.size : Int) < s.size ∨ (s.size : Int) ≤ t.size := by omega
    rcases hz with hz1 | ⟨hz1, hz2, hz3, hz4 | ⟨hz4, hz5⟩⟩
    all_goals
      go_enter Try.func3, Try.ntmps3
      go_wp2_with (first
        | (go_at_call 6; refine (HAF.out _).mono ?_; rintro e w1 ⟨rfl, hb1⟩)
        | (go_at_call 7; refine (lives_any _).mono ?_; rintro e w2 ⟨rfl, hb2⟩)
        | (go_at_call 8; refine (in_any _ _ _ _).mono ?_; rintro e w' ⟨rfl, rfl⟩))
      go_ret
      have z1 := hb1.size
      have z2 := hb2.size
      exact ⟨rfl, (hb1.trans (hb2.mono z1)).alloc (by omega) _⟩

theorem walk (a0 a1 : ByteArray) (w : World) (w0 : a0.size ≤ maxLen) (w1 : a1.size ≤ maxLen) :
    Calls Try.prog 3 #[.string a0, .string a1] w fun e w' => e = .returned (.bool true) ∧ Below w.heap.size w w' := by
  unfold maxLen at w0 w1
  have hA : (⟨(aft a0.data.toList).toArray⟩ : ByteArray).toList = aft a0.data.toList := by rw [ByteArray.toList_eq]
  have hAs : (⟨(aft a0.data.toList).toArray⟩ : ByteArray).size = (aft a0.data.toList).length := by show (aft a0.data.toList).toArray.size = _; simp
  have hl : a0.data.toList.length = a0.size := ba_length a0
  refine walk_first a0 a1 ⟨(aft a0.data.toList).toArray⟩ w (by omega) (by omega) rfl (a0.data.toList.isPrefixOf a1.data.toList) ?_ ?_ ?_
  · by_cases h : a0.size ≤ a1.size
    · exact .inr ⟨h, (prefix_of a0 a1 h).symm⟩
    · refine .inl ⟨by omega, ?_⟩
      rw [isPrefixOf_take, ba_length, ba_length]
      simp [h]
  · rw [hA, ByteArray.toList_eq, ByteArray.toList_eq]
    exact in_aft _ _
  · rw [hA, ByteArray.toList_eq, hAs]
    by_cases h : aft a0.data.toList = []
    · exact .inl (by rw [h]; rfl)
    · have hab := aft_above _ h
      rw [Bool.not_eq_true', Bool.or_eq_false_iff] at hab
      refine .inr ⟨by cases h' : aft a0.data.toList with | nil => exact absurd h' h | cons _ _ => rfl, hab.1, hab.2, ?_⟩
      by_cases hlt : (aft a0.data.toList).length < a0.size
      · exact .inl hlt
      · refine .inr ⟨by omega, ?_⟩
        have hp := aft_no_prefix _ h
        rw [isPrefixOf_take, hl] at hp
        rw [extract_list]
        simp only [Bool.and_eq_false_iff, decide_eq_false_iff_not] at hp
        rcases hp with hp | hp
        · exact absurd (by omega) hp
        · exact hp

set_option maxRecDepth 100000 in
theorem lifted (os : Os) (started : os.Started) (H : Type) (enc : TypeId × Value → H) :
    ReturnsInHanded {} Try.checked os 3 .any (Rows.encAfterSpec.pre6 enc Try.prog Try.f3 Rows.encAfterRow.domain false) (Rows.encAfterSpec.post enc Try.prog Try.f3 false true false false) := by
  refine returnsInHanded_of_change (C := Try.checked) own started (by kernel_rfl) Try.func3
    (ChangeSpec.witness6 (enc := enc) (C := Try.checked) false ⟨#[], #[.string ByteArray.empty, .string ByteArray.empty], []⟩ 8 (by kernel_rfl) (by kernel_rfl) (by kernel_rfl) (by kernel_rfl)) ?_
  intro W base args ds gs before hval0 hW hcnd _
  have hval : ∀ (j : Nat) t v, Try.f3.params[j]? = some t → args[j]? = some v → Value.okWide Try.prog W .any base t v := hval0
  have hW' := hW
  obtain ⟨p, q, hA0, hV, rfl, hfz, hnd⟩ := hW
  have hA : DataW.TrodAll enc Try.prog W 0 (fun _ => true) true Try.f3.params.toList args.toList ds p := hA0
  rw [Try.params3] at hA hval
  obtain ⟨v0, vs0, d0, ds0, p0, q0, hargs, rfl, rfl, h0, r0⟩ := trodAll_cons hA
  obtain ⟨v1, vs1, d1, ds1, p1, q1, rfl, rfl, rfl, h1, r1⟩ := trodAll_cons r0
  obtain ⟨rfl, rfl, rfl⟩ := trodAll_nil r1
  obtain rfl : args = #[v0, v1] := by cases args; simp_all
  obtain ⟨rfl, rfl⟩ := trodVars_none hV
  obtain ⟨a0, rfl, rfl, rfl, w0⟩ := open_string Try.underlying9 (hval 0 9 v0 rfl rfl) h0
  obtain ⟨a1, rfl, rfl, rfl, w1⟩ := open_string Try.underlying9 (hval 1 9 v1 rfl rfl) h1
  clear hA0 hval0
  simp only [List.append_nil] at hW'
  refine (walk a0 a1 W w0 w1).mono fun e W' ⟨he, bel⟩ => ?_
  subst he
  exact ⟨_, rfl, _, _, _, [], [], [], hW', trodAll_mk1 (shut_bool Try.underlying4 _), (trodAll_cons_mk (shut_string Try.underlying9 w0) (trodAll_cons_mk (shut_string Try.underlying9 w1) trodAll_mk0)), rfl, bel.frame _, fun h => by cases h⟩

theorem over : Rows.encAfterRow.holds Try.pinned (OpenSpec.ofChange Rows.encAfterSpec) :=
  OpenClaim.holds_of_wide 3 Try.f3 rfl rfl rfl rfl rfl rfl rfl ⟨rfl, rfl, rfl, rfl, rfl⟩ rfl rfl rfl rfl rfl (by kernel_rfl) Try.func3 (by kernel_rfl)
    (of_decide_eq_true (by kernel_rfl)) (by unfold Func.isWrapper; first | (rw [if_pos (by decide +kernel)]; kernel_rfl) | (rw [if_neg (by decide +kernel)]; exact ⟨rfl, rfl⟩))
    (fun os started H enc _ => lifted os started H enc)
end Go.Proofs.Ytbcbdaaaglkjhab.encAfter

namespace Go.Proofs.Ytbcbdaaaglkjhab
/-- THE STATEMENT. -/
theorem encAfter_holds : Rows.EncAfterSaid := encAfter.over
#print axioms encAfter_holds
end Go.Proofs.Ytbcbdaaaglkjhab
