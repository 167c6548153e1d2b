/-
  The pending steps that are due become durable, the others stay pending.
-/
import Derived.Test.YtclokpkhkokfhabVPend
namespace Go.Proofs.Ytclokpkhkokfhab
open Go.RowKit Go.Maps

theorem due2_any (w : World) (s : Vf.Step) : Calls Try.prog 33 #[sv s] w fun e w' => e = .returned (.bool (!decide (s.kind = 0))) ∧ w' = w.alloc (.cells (sc s).toArray 55) := by
  obtain ⟨kind, file, size, name, to⟩ := s
  have q : Hid ((!((kind : Int) == 0)) = !decide (kind = 0)) := by show _ = _; congr 1; by_cases h : kind = 0 <;> simp [h]
  go_enter Try.func33, Try.ntmps33
  go_wp2
  go_ret
  exact ⟨by rw [← q.out]; rfl, rfl⟩
theorem due1_any (w : World) (s : Vf.Step) (B F : Nat) (hc : w.cell? ⟨B, 1, none⟩ = some (.int .i64 (F : Int))) : Calls Try.prog 32 #[sv s, .pointer (some ⟨B, 0, none⟩)] w fun e w' => e = .returned (.bool (decide (s.kind = 0) && decide (s.file = F))) ∧ w' = w.alloc (.cells (sc s).toArray 55) := by
  obtain ⟨kind, file, size, name, to⟩ := s
  have q0 : Hid (((kind : Int) == 0) = decide (kind = 0)) := by show _ = _; by_cases h : kind = 0 <;> simp [h]
  have q1 : Hid (((file : Int) == (F : Int)) = decide (file = F)) := by show _ = _; by_cases h : file = F <;> simp [h]; omega
  by_cases h0 : kind = 0
  · have b0 : ((kind : Int) == 0) = true := by simp [h0]
    have H0 : Hid (kind = 0) := h0
    have hc' : ∀ o, (w.alloc o).cell? ⟨B, 1, none⟩ = some (.int .i64 (F : Int)) := fun o => keepC ((Below.refl _ _).alloc (Nat.le_refl _) _) hc
    clear h0 hc q0
    go_enter Try.func32, Try.ntmps32
    go_wp2
    go_ret
    exact ⟨by rw [← q1.out, decide_eq_true H0.out]; rfl, rfl⟩
  · have b0 : ((kind : Int) == 0) = false := by simp; omega
    go_enter Try.func32, Try.ntmps32
    go_wp2
    go_ret
    exact ⟨by rw [decide_eq_false h0]; rfl, rfl⟩


/-- The steps of the first i that are due, and that are not. -/
def dueTo (due : Vf.Step → Bool) (l : List Vf.Step) (i : Nat) : List Vf.Step := (l.take i).filter due
def restTo (due : Vf.Step → Bool) (l : List Vf.Step) (i : Nat) : List Vf.Step := (l.take i).filter fun s => !due s

theorem dueTo_yes {due : Vf.Step → Bool} {l : List Vf.Step} {i : Nat} (h : i < l.length) (hd : due l[i] = true) : dueTo due l (i + 1) = dueTo due l i ++ [l[i]] ∧ restTo due l (i + 1) = restTo due l i := by
  unfold dueTo restTo
  rw [List.take_succ_eq_append_getElem h, List.filter_append, List.filter_append]
  simp only [List.filter_cons, hd, List.filter_nil, Bool.not_true, Bool.false_eq_true, if_true, if_false, List.append_nil, and_self]
theorem dueTo_no {due : Vf.Step → Bool} {l : List Vf.Step} {i : Nat} (h : i < l.length) (hd : due l[i] = false) : dueTo due l (i + 1) = dueTo due l i ∧ restTo due l (i + 1) = restTo due l i ++ [l[i]] := by
  unfold dueTo restTo
  rw [List.take_succ_eq_append_getElem h, List.filter_append, List.filter_append]
  simp only [List.filter_cons, hd, List.filter_nil, Bool.not_false, Bool.false_eq_true, if_true, if_false, List.append_nil, and_self]
theorem restTo_le (due : Vf.Step → Bool) (l : List Vf.Step) (i : Nat) : (restTo due l i).length ≤ i := Nat.le_trans (List.length_filter_le _ _) (List.length_take_le i l)

theorem Vf.keep_pending (σ : Vf.St) (s : Vf.Step) (p : List Vf.Step) : Vf.keep { σ with pending := p } s = { Vf.keep σ s with pending := p } := by
  unfold Vf.keep
  simp only
  split
  · split <;> simp
  · split <;> rfl

/-- The state behind i rounds. -/
def setTo (due : Vf.Step → Bool) (σ : Vf.St) (i : Nat) : Vf.St := { Vf.keepAll σ (dueTo due σ.pending i) with pending := restTo due σ.pending i ++ σ.pending.drop (restTo due σ.pending i).length }
theorem setTo_zero (due : Vf.Step → Bool) (σ : Vf.St) : setTo due σ 0 = σ := by simp [setTo, dueTo, restTo, Vf.keepAll]
theorem setTo_yes {due : Vf.Step → Bool} {σ : Vf.St} {i : Nat} (h : i < σ.pending.length) (hd : due σ.pending[i] = true) : setTo due σ (i + 1) = Vf.keep (setTo due σ i) σ.pending[i] := by
  obtain ⟨e1, e2⟩ := dueTo_yes h hd
  unfold setTo
  rw [e1, e2, Vf.keep_pending]
  simp [Vf.keepAll]
theorem setTo_no {due : Vf.Step → Bool} {σ : Vf.St} {i : Nat} (h : i < σ.pending.length) (hd : due σ.pending[i] = false) :
    setTo due σ (i + 1) = { setTo due σ i with pending := (setTo due σ i).pending.take (restTo due σ.pending i).length ++ [σ.pending[i]] ++ (setTo due σ i).pending.drop ((restTo due σ.pending i).length + 1) } := by
  obtain ⟨e1, e2⟩ := dueTo_no h hd
  have hr := restTo_le due σ.pending i
  unfold setTo
  rw [e1, e2]
  simp only [List.take_left', List.length_append, List.length_singleton]
  congr 1
  rw [show (restTo due σ.pending i ++ List.drop (restTo due σ.pending i).length σ.pending).drop ((restTo due σ.pending i).length + 1) = σ.pending.drop ((restTo due σ.pending i).length + 1) from by
    rw [List.drop_append, List.drop_of_length_le (by omega), List.nil_append, List.drop_drop]
    congr 1; omega]
theorem setTo_pend (due : Vf.Step → Bool) (σ : Vf.St) (i : Nat) (hi : i ≤ σ.pending.length) : (setTo due σ i).pending.length = σ.pending.length := by
  have hr := restTo_le due σ.pending i
  show (restTo due σ.pending i ++ σ.pending.drop (restTo due σ.pending i).length).length = _
  rw [List.length_append, List.length_drop]; omega
theorem setTo_get (due : Vf.Step → Bool) (σ : Vf.St) (i : Nat) (hi : i < σ.pending.length) (h : i < (setTo due σ i).pending.length) : (setTo due σ i).pending[i] = σ.pending[i] := by
  have hr := restTo_le due σ.pending i
  have e : (setTo due σ i).pending = restTo due σ.pending i ++ σ.pending.drop (restTo due σ.pending i).length := rfl
  apply Option.some.inj
  rw [← List.getElem?_eq_getElem h, ← List.getElem?_eq_getElem hi, e, List.getElem?_append_right hr, List.getElem?_drop]
  congr 1; omega
theorem setTo_end (due : Vf.Step → Bool) (σ : Vf.St) : { setTo due σ σ.pending.length with pending := restTo due σ.pending σ.pending.length } = Vf.settle due σ := by
  unfold setTo Vf.settle dueTo restTo
  simp [List.take_length]
end Go.Proofs.Ytclokpkhkokfhab
