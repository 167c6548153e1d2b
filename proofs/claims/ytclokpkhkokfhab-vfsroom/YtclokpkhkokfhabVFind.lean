/-
  Whether a file system was made, whether a name may be, why a call is refused, and which file a name names.
-/
import Derived.Test.YtclokpkhkokfhabVRep
namespace Go.Proofs.Ytclokpkhkokfhab
open Go.RowKit Go.Maps

/-- A call that leaves the world as it was. -/
theorem still {f : FuncId} {args : Array Value} {w : World} {v : Ending} (c : Calls Try.prog f args w fun e w' => e = v ∧ w' = w) {K : Ending → World → Prop} (h : K v w) : Calls Try.prog f args w K := c.mono (by rintro e w' ⟨rfl, rfl⟩; exact h)

theorem neqM (w : World) (r : Option Nat) : (binOp .neq 44 (.map r) (.map none)).run Try.prog w = .ok (.bool (!r.isNone)) w := run_neq_map_nil w _ _ _ r Try.underlying44

theorem made_nil (w : World) : Calls Try.prog 24 #[.pointer none] w fun e w' => e = .returned (.bool false) ∧ w' = w := by
  have q := neqM
  go_enter Try.func24, Try.ntmps24
  go_wp2
  go_ret
  exact ⟨rfl, rfl⟩
theorem made_zero (w : World) (b : Nat) (h : w.cell? ⟨b, 5, none⟩ = some (.map none)) : Calls Try.prog 24 #[.pointer (some ⟨b, 0, none⟩)] w fun e w' => e = .returned (.bool false) ∧ w' = w := by
  have q := neqM
  go_enter Try.func24, Try.ntmps24
  go_wp2
  go_ret
  exact ⟨rfl, rfl⟩
theorem made_some (w : World) (b bf : Nat) (h : w.cell? ⟨b, 5, none⟩ = some (.map (some bf))) : Calls Try.prog 24 #[.pointer (some ⟨b, 0, none⟩)] w fun e w' => e = .returned (.bool true) ∧ w' = w := by
  have q := neqM
  go_enter Try.func24, Try.ntmps24
  go_wp2
  go_ret
  exact ⟨rfl, rfl⟩

/-- The first signs of a text that may be in a name. -/
def fineTo (k : Vf.Bs) (j : Nat) : Bool := (k.take j).all (fun c => decide (33 ≤ c.toNat) && decide (c.toNat ≤ 126))
theorem fineTo_succ (k : Vf.Bs) (j : Nat) (h : j < k.length) : fineTo k (j + 1) = (fineTo k j && (decide (33 ≤ (k[j]).toNat) && decide ((k[j]).toNat ≤ 126))) := by
  unfold fineTo
  rw [List.take_succ_eq_append_getElem h, List.all_append]
  simp only [List.all_cons, List.all_nil, Bool.and_true]
theorem fine_of (k : Vf.Bs) : Vf.fine k = (fineTo k k.length && decide (0 < k.length) && decide (k.length ≤ 32)) := by unfold Vf.fine fineTo; rw [List.take_length]
theorem fine_no (k : Vf.Bs) (j : Nat) (h : fineTo k j = false) : Vf.fine k = false := by
  have : fineTo k k.length = false := by
    cases e : fineTo k k.length with
    | false => rfl
    | true =>
      unfold fineTo at e h
      rw [List.take_length, List.all_eq_true] at e
      have : (k.take j).all (fun c => decide (33 ≤ c.toNat) && decide (c.toNat ≤ 126)) = true := List.all_eq_true.2 fun x hx => e x (List.mem_of_mem_take hx)
      rw [this] at h
      cases h
  rw [fine_of, this]
  rfl

set_option maxHeartbeats 1600000 in
theorem proper_any (w : World) (s : ByteArray) (hs : s.size ≤ maxLen) : Calls Try.prog 36 #[.string s] w fun e w' => e = .returned (.bool (Vf.fine s.data.toList)) ∧ w' = w := by
  unfold maxLen at hs
  have FN : Hid (∀ j (h : j < s.size), fineTo s.data.toList (j + 1) = (fineTo s.data.toList j && (decide (33 ≤ (s[j]).toNat) && decide ((s[j]).toNat ≤ 126)))) := fun j h => fineTo_succ s.data.toList j (by simpa using h)
  have FO : Hid (Vf.fine s.data.toList = (fineTo s.data.toList s.size && decide (0 < s.size) && decide (s.size ≤ 32))) := by
    have e : s.data.toList.length = s.size := by simp
    have := fine_of s.data.toList
    rw [e] at this
    exact this
  have FX : Hid (∀ j, fineTo s.data.toList j = false → Vf.fine s.data.toList = false) := fine_no _
  have F0 : Hid (fineTo s.data.toList 0 = true) := rfl
  go_enter Try.func36, Try.ntmps36
  go_wp2_with (fail)
  go_loopw [6] (fun i wr => ∃ j : Nat, j ≤ s.size ∧ i = .int .i64 j ∧ Hid (fineTo s.data.toList j = true) ∧ wr = w) (fun i _ => s.size - (intOf i).toNat)
  case atStart => exact ⟨0, Nat.zero_le _, rfl, F0, rfl⟩
  case round =>
    obtain ⟨j, hj, rfl, HJ, rfl⟩ := hrel
    clear F0
    by_cases hlt : j < s.size
    · have l0 := UInt8.toNat_lt s[j]
      have HN : Hid (fineTo s.data.toList (j + 1) = (decide (33 ≤ (s[j]).toNat) && decide ((s[j]).toNat ≤ 126))) := by show _ = _; rw [FN.out j hlt, HJ.out, Bool.true_and]
      clear FN FO
      by_cases h1 : (s[j]).toNat < 33
      · have HF : Hid (Vf.fine s.data.toList = false) := FX.out (j + 1) (by rw [HN.out]; simp; omega)
        have i1 : ((s[j]).toNat : Int) < 33 := by omega
        clear HN FX
        go_wp2_with (fail)
        go_ret
        exact ⟨by rw [HF.out]; rfl, rfl⟩
      · by_cases h2 : (s[j]).toNat > 126
        · have HF : Hid (Vf.fine s.data.toList = false) := FX.out (j + 1) (by rw [HN.out]; simp; omega)
          have i1 : ¬ ((s[j]).toNat : Int) < 33 := by omega
          have i2 : ((s[j]).toNat : Int) > 126 := by omega
          clear HN FX
          go_wp2_with (fail)
          go_ret
          exact ⟨by rw [HF.out]; rfl, rfl⟩
        · have HF : Hid (fineTo s.data.toList (j + 1) = true) := by show _ = _; rw [HN.out]; simp; omega
          have i1 : ¬ ((s[j]).toNat : Int) < 33 := by omega
          have i2 : ¬ ((s[j]).toNat : Int) > 126 := by omega
          clear HN FX
          go_wp2_with (fail)
          exact ⟨⟨j + 1, by omega, rfl, HF, trivial⟩, by simp [intOf]; omega⟩
    · have e : j = s.size := by omega
      subst e
      have HG : Hid (Vf.fine s.data.toList = (decide (0 < s.size) && decide (s.size ≤ 32))) := by show _ = _; rw [FO.out, HJ.out, Bool.true_and]
      clear FN FO FX HJ
      by_cases h1 : 0 < s.size
      · by_cases h2 : s.size ≤ 32
        · have HE : Hid (Vf.fine s.data.toList = true) := by show _ = _; rw [HG.out]; simp [h1, h2]
          clear HG
          go_wp2_with (fail)
          go_ret
          exact ⟨by rw [HE.out]; show Ending.returned (.bool (decide ((s.size : Int) ≤ 32))) = _; rw [decide_eq_true (by omega)], rfl⟩
        · have HE : Hid (Vf.fine s.data.toList = false) := by show _ = _; rw [HG.out]; simp; omega
          clear HG
          go_wp2_with (fail)
          go_ret
          exact ⟨by rw [HE.out]; show Ending.returned (.bool (decide ((s.size : Int) ≤ 32))) = _; rw [decide_eq_false (by omega)], rfl⟩
      · have HE : Hid (Vf.fine s.data.toList = false) := by show _ = _; rw [HG.out]; simp; omega
        clear HG
        go_wp2_with (fail)
        go_ret
        exact ⟨by rw [HE.out]; rfl, rfl⟩

end Go.Proofs.Ytclokpkhkokfhab
