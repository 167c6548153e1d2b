/-
  Which file a held name names, or why a call is refused.
-/
import Derived.Test.YtclokpkhkokfhabVRefused
namespace Go.Proofs.Ytclokpkhkokfhab
open Go.RowKit Go.Maps

theorem asked_one (w : World) (k : Vf.Bs) (hk : k.length ≤ 1000000) : Asked (w.alloc (.cells #[str k] 9)) (.slice (some ⟨w.heap.size, 0, none⟩) 1 1) [k] := by
  refine ⟨⟨_, 1, rfl, fun j hj => ⟨w.heap.size, 0, rfl, ?_⟩⟩, fun x hx => ?_, by simp⟩
  · have e : j = 0 := by simp at hj; omega
    subst e
    exact cell_one_new w (str k) 9 0 _ rfl
  · rw [List.mem_singleton] at hx; rw [hx]; exact hk
theorem asked_none (w : World) : Asked w (.slice none 0 0) [] := ⟨⟨_, 0, rfl, fun j hj => by simp at hj⟩, fun x hx => by simp at hx, by simp⟩

theorem find_nil (w : World) (s : ByteArray) : Calls Try.prog 19 #[.pointer none, .string s] w fun e w' => e = .returned (.tuple #[.int .i64 0, .int .i64 1]) ∧ w' = w.alloc (.cells #[.string s] 9) := by
  have q := fun w v => refused_nil w v
  go_enter Try.func19, Try.ntmps19
  go_wp2_with (go_at_call 23; refine still (q _ _) ?_)
  go_ret2
  exact ⟨rfl, rfl⟩
theorem find_zero (w : World) (b : Nat) (s : ByteArray) (h : w.cell? ⟨b, 5, none⟩ = some (.map none)) : Calls Try.prog 19 #[.pointer (some ⟨b, 0, none⟩), .string s] w fun e w' => e = .returned (.tuple #[.int .i64 0, .int .i64 1]) ∧ w' = w.alloc (.cells #[.string s] 9) := by
  have q := fun v => refused_zero (w.alloc (.cells #[.string s] 9)) b v (keepC ((Below.refl _ _).alloc (Nat.le_refl _) _) h)
  go_enter Try.func19, Try.ntmps19
  go_wp2_with (go_at_call 23; refine still (q _) ?_)
  go_ret2
  exact ⟨rfl, rfl⟩

set_option maxHeartbeats 400000 in
theorem find_some (w : World) (b bf bh bd : Nat) (pv : Value) (fs : Nat → Option Nat) (sl : Nat → Value) (σ : Vf.St) (S : Nat → Prop) (h : RepAt w b bf bh bd pv fs sl σ S) (k : Vf.Bs) (hk : k.length ≤ 1000000) (E : Int) (HE : Hid (E = Vf.findE σ k)) (N : Nat) (HN : Hid (N = if Vf.findE σ k = 0 then Vf.num σ.held k else 0)) :
    Calls Try.prog 19 #[.pointer (some ⟨b, 0, none⟩), str k] w fun e w' => e = .returned (.tuple #[.int .i64 (N : Int), .int .i64 E]) ∧ w' = w.alloc (.cells #[str k] 9) := by
  have B1 : Below w.heap.size w (w.alloc (.cells #[str k] 9)) := (Below.refl _ _).alloc (Nat.le_refl _) _
  have h1 := h.later B1
  obtain ⟨_, _, c2, _, _, c5, c6, _, _⟩ := h1.cells
  have A1 := asked_one w k hk
  obtain ⟨R, hR⟩ : ∃ R, R = Vf.refuse σ [k] := ⟨_, rfl⟩
  have q := refused_some _ b bf σ.on _ [k] c5 c2 A1 R (by show _ = _; rw [hR]; rfl)
  have L := h1.held.look_ok k hk
  clear A1 c5 c2
  by_cases r0 : R = 0
  · have rr : Vf.refuse σ [k] = 0 := by rw [← hR, r0]
    subst r0
    cases hl : Vf.look σ.held k with
    | none =>
      have f4 : Vf.findE σ k = 4 := by unfold Vf.findE; rw [if_pos rr, hl]; rfl
      have e4 : Hid (E = 4) := by show _ = _; rw [HE.out, f4]
      have n4 : Hid (N = 0) := by show _ = _; rw [HN.out, f4]; rfl
      rw [hl] at L
      clear HE HN f4 rr hR hl h h1 B1
      go_enter Try.func19, Try.ntmps19
      go_wp2_with (go_at_call 23; refine still q ?_)
      go_ret2
      exact ⟨by rw [e4.out, n4.out]; rfl, rfl⟩
    | some n =>
      have f4 : Vf.findE σ k = 0 := by unfold Vf.findE; rw [if_pos rr, hl]; rfl
      have e4 : Hid (E = 0) := by show _ = _; rw [HE.out, f4]
      have n4 : Hid (N = Vf.num σ.held k) := by show _ = _; rw [HN.out, f4]; rfl
      rw [hl] at L
      clear HE HN f4 rr hR hl h h1 B1
      go_enter Try.func19, Try.ntmps19
      go_wp2_with (go_at_call 23; refine still q ?_)
      go_ret2
      exact ⟨by rw [e4.out, n4.out]; rfl, rfl⟩
  · have f4 : Vf.findE σ k = R := by unfold Vf.findE; rw [if_neg (by rw [← hR]; exact r0), hR]
    have e4 : Hid (E = R) := by show _ = _; rw [HE.out, f4]
    have n4 : Hid (N = 0) := by show _ = _; rw [HN.out, f4, if_neg r0]
    have rb : (R == 0) = false := by simpa using r0
    clear HE HN f4 hR h h1 B1 L
    go_enter Try.func19, Try.ntmps19
    go_wp2_with (go_at_call 23; refine still q ?_)
    go_ret2
    exact ⟨by rw [e4.out, n4.out]; rfl, rfl⟩
end Go.Proofs.Ytclokpkhkokfhab
