/-
  Why a call is refused, of the names that it bears.
-/
import Derived.Test.YtclokpkhkokfhabVFind
namespace Go.Proofs.Ytclokpkhkokfhab
open Go.RowKit Go.Maps

/-- Names as a call hands them on. -/
structure Asked (w : World) (v : Value) (l : List Vf.Bs) : Prop where
  form : ∃ a cap, v = .slice a l.length cap ∧ ∀ j (h : j < l.length), ∃ b off, a = some ⟨b, off, none⟩ ∧ w.cell? ⟨b, off + j, none⟩ = some (str (l[j]))
  short : ∀ k ∈ l, k.length ≤ 1000000
  few : l.length ≤ 1000

theorem refused_nil (w : World) (v : Value) : Calls Try.prog 23 #[.pointer none, v] w fun e w' => e = .returned (.int .i64 1) ∧ w' = w := by
  have q := made_nil w
  go_enter Try.func23, Try.ntmps23
  go_wp2_with (go_at_call 24; refine still q ?_)
  go_ret
  exact ⟨rfl, rfl⟩
theorem refused_zero (w : World) (b : Nat) (v : Value) (h : w.cell? ⟨b, 5, none⟩ = some (.map none)) : Calls Try.prog 23 #[.pointer (some ⟨b, 0, none⟩), v] w fun e w' => e = .returned (.int .i64 1) ∧ w' = w := by
  have q := made_zero w b h
  go_enter Try.func23, Try.ntmps23
  go_wp2_with (go_at_call 24; refine still q ?_)
  go_ret
  exact ⟨rfl, rfl⟩

set_option maxHeartbeats 400000 in
theorem refused_some (w : World) (b bf : Nat) (on : Bool) (v : Value) (l : List Vf.Bs) (h5 : w.cell? ⟨b, 5, none⟩ = some (.map (some bf))) (h2 : w.cell? ⟨b, 2, none⟩ = some (.bool on)) (hl : Asked w v l) (R : Int) (HR : Hid (R = if on then if l.all Vf.fine then 0 else 2 else 7)) :
    Calls Try.prog 23 #[.pointer (some ⟨b, 0, none⟩), v] w fun e w' => e = .returned (.int .i64 R) ∧ w' = w := by
  have q := made_some w b bf h5
  obtain ⟨⟨a, cap, rfl, hf⟩, hsh, hfew⟩ := hl
  cases on with
  | false =>
    clear hf
    have H7 : Hid (R = 7) := HR.out
    clear HR
    go_enter Try.func23, Try.ntmps23
    go_wp2_with (go_at_call 24; refine still q ?_)
    go_ret
    exact ⟨by rw [H7.out]; rfl, rfl⟩
  | true =>
    have HA : Hid (∀ j, l.take j = l → (l.take j).all Vf.fine = true → l.all Vf.fine = true) := fun j e h => by rw [e] at h; exact h
    have HS : Hid (∀ j (h : j < l.length), (l.take (j + 1)).all Vf.fine = ((l.take j).all Vf.fine && Vf.fine l[j])) := fun j h => by
      rw [List.take_succ_eq_append_getElem h, List.all_append]
      simp only [List.all_cons, List.all_nil, Bool.and_true]
    have HX : Hid (∀ j (h : j < l.length), Vf.fine l[j] = false → l.all Vf.fine = false) := fun j h hf => by
      cases e : l.all Vf.fine with
      | false => rfl
      | true => rw [List.all_eq_true] at e; rw [e _ (List.getElem_mem h)] at hf; cases hf
    have HP : Hid (∀ j (h : j < l.length), ∃ b off, a = some ⟨b, off, none⟩ ∧ w.cell? ⟨b, off + j, none⟩ = some (str (l[j])) ∧ (l[j]).length ≤ 1000000) := fun j h => by
      obtain ⟨b, off, h1, h2⟩ := hf j h
      exact ⟨b, off, h1, h2, hsh _ (List.getElem_mem h)⟩
    have H0 : Hid ((l.take 0).all Vf.fine = true) := rfl
    clear hf hsh
    go_enter Try.func23, Try.ntmps23
    go_wp2_with (go_at_call 24; refine still q ?_)
    go_loopw [17] (fun i wr => ∃ j : Nat, j ≤ l.length ∧ i = .int .i64 j ∧ Hid ((l.take j).all Vf.fine = true) ∧ wr = w) (fun i _ => l.length - (intOf i).toNat)
    case atStart => exact ⟨0, Nat.zero_le _, rfl, H0, rfl⟩
    case round =>
      obtain ⟨j, hj, rfl, HJ, hwr⟩ := hrel
      have hwr' := hwr.symm
      subst hwr'
      clear hwr
      clear H0 q
      by_cases hlt : j < l.length
      · obtain ⟨B, off, rfl, hc, hk⟩ := HP.out j hlt
        obtain ⟨k, hkk⟩ : ∃ k, k = l[j] := ⟨_, rfl⟩
        rw [← hkk] at hc hk
        have HN : Hid ((l.take (j + 1)).all Vf.fine = Vf.fine k) := by show _ = _; rw [HS.out j hlt, HJ.out, Bool.true_and, hkk]
        have HXX : Hid (Vf.fine k = false → l.all Vf.fine = false) := fun h => HX.out j hlt (by rw [← hkk]; exact h)
        have qp := proper_any w ⟨k.toArray⟩ (by show k.toArray.size ≤ _; simp [maxLen]; omega)
        simp only at qp
        clear HP HS HX HA hkk
        cases hfk : Vf.fine k with
        | true =>
          rw [hfk] at qp HN
          go_wp2_with (go_at_call 36; refine still qp ?_)
          exact ⟨⟨j + 1, by omega, rfl, HN, trivial⟩, by simp [intOf]; omega⟩
        | false =>
          rw [hfk] at qp
          have HF : Hid (R = 2) := by show _ = _; rw [HR.out, HXX.out hfk]; rfl
          clear HN HXX hfk HR
          go_wp2_with (go_at_call 36; refine still qp ?_)
          go_ret
          exact ⟨by rw [HF.out]; rfl, rfl⟩
      · have e : j = l.length := by omega
        have HF : Hid (R = 0) := by show _ = _; rw [HR.out, HA.out j (by rw [e, List.take_length]) HJ.out]; rfl
        subst e
        clear HP HS HX HA HJ HR
        go_wp2_with (fail)
        go_ret
        exact ⟨by rw [HF.out]; rfl, rfl⟩
end Go.Proofs.Ytclokpkhkokfhab
