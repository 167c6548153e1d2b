/-
  More calls of a file system that do one raw step.
-/
import Derived.Test.YtclokpkhkokfhabVCalls
namespace Go.Proofs.Ytclokpkhkokfhab
open Go.RowKit Go.Maps

set_option maxHeartbeats 400000 in
theorem remove_any (w : World) (b : Nat) (σ : Vf.St) (S : Nat → Prop) (h : Rep w b σ S) (r : Ready σ) (k : Vf.Bs) (hk : k.length ≤ 1000000) (E : Int) (HE : Hid (E = Vf.removeE σ k)) :
    Calls Try.prog 11 #[.pointer (some ⟨b, 0, none⟩), str k] w fun e w' => e = .returned (.int .i64 E) ∧ Rep w' b (Vf.remove σ k) (grow S w w') ∧ Moved S w w' := by
  obtain ⟨bf, bh, bd, pv, fs, sl, hr⟩ := h
  obtain ⟨F, hF⟩ : ∃ F, F = Vf.findE σ k := ⟨_, rfl⟩
  obtain ⟨N, hN⟩ : ∃ N, N = if Vf.findE σ k = 0 then Vf.num σ.held k else 0 := ⟨_, rfl⟩
  have q := find_some w b bf bh bd pv fs sl σ S hr k hk F hF N hN
  have B1 : Below w.heap.size w (w.alloc (.cells #[str k] 9)) := (Below.refl _ _).alloc (Nat.le_refl _) _
  by_cases f0 : F = 0
  · have ff : Vf.findE σ k = 0 := by rw [← hF, f0]
    have HE' : Hid (E = Vf.doE σ) := by show _ = _; rw [HE.out]; unfold Vf.removeE; rw [if_pos ff]
    have n0 : N = Vf.num σ.held k := by rw [hN, if_pos ff]
    have e2 : Vf.remove σ k = Vf.doSt σ ⟨3, 0, 0, k, []⟩ [] := by unfold Vf.remove; rw [if_pos ff]
    have nle : N ≤ 1000000000 := by rw [n0]; exact r.heldV k
    have DO : Hid (∀ wx, Below w.heap.size w wx → Calls Try.prog 20 #[.pointer (some ⟨b, 0, none⟩), .agg #[.int .i64 3, .int .i64 0, .int .i64 0, str k, .string ⟨#[]⟩], .slice none 0 0] wx fun e w' => e = .returned (.int .i64 E) ∧ Rep w' b (Vf.remove σ k) (grow S w w') ∧ Moved S w w') := fun wx hb => by
      refine (do_any wx b σ S (Rep.later ⟨bf, bh, bd, pv, fs, sl, hr⟩ hb) r ⟨3, 0, 0, k, []⟩ (step_ok (by omega) (by omega) (by first | exact hk | simp) (by simp)) (by simp) (.slice none 0 0)).mono ?_
      rintro e w' ⟨rfl, r1, m1⟩
      rw [e2]
      exact ⟨by rw [HE'.out], Rep.after hb r1 m1⟩
    have CL := clone_any (w.alloc (.cells #[str k] 9)) k hk
    have B2 : Hid _ := B1
    subst f0
    clear hF hN HE e2 hr HE' n0 ff
    go_enter Try.func11, Try.ntmps11
    go_wp2_with (first
      | (go_at_call 19; refine still2 q ?_)
      | (go_at_call 21; refine CL.mono ?_; rintro e w2 ⟨rfl, b2⟩; have B3 : Below w.heap.size w w2 := B2.out.trans (b2.mono B2.out.size))
      | (go_at_call 20; refine (DO.out _ B3).mono ?_; rintro e w3 ⟨rfl, r3, m3⟩))
    go_ret
    exact ⟨rfl, r3, m3⟩
  · have ff : ¬ Vf.findE σ k = 0 := by rw [← hF]; exact f0
    have HE' : Hid (E = F) := by show _ = _; rw [HE.out]; unfold Vf.removeE; rw [if_neg ff, hF]
    have e2 : Vf.remove σ k = σ := by unfold Vf.remove; rw [if_neg ff]
    have SM : Hid (Rep (w.alloc (.cells #[str k] 9)) b (Vf.remove σ k) (grow S w (w.alloc (.cells #[str k] 9))) ∧ Moved S w (w.alloc (.cells #[str k] 9))) := by
      rw [e2]
      exact ⟨Rep.grow1 ⟨bf, bh, bd, pv, fs, sl, hr.alloc _⟩, (Moved.refl S w).alloc _⟩
    have b0 : (F != 0) = true := by simpa using f0
    clear hF hN HE e2 B1 hr ff
    go_enter Try.func11, Try.ntmps11
    go_wp2_with (go_at_call 19; refine still2 q ?_)
    go_ret
    exact ⟨by rw [HE'.out]; rfl, SM.out⟩

set_option maxHeartbeats 400000 in
theorem sync_any (w : World) (b : Nat) (σ : Vf.St) (S : Nat → Prop) (h : Rep w b σ S) (r : Ready σ) (k : Vf.Bs) (hk : k.length ≤ 1000000) (E : Int) (HE : Hid (E = Vf.syncE σ k)) :
    Calls Try.prog 12 #[.pointer (some ⟨b, 0, none⟩), str k] w fun e w' => e = .returned (.int .i64 E) ∧ Rep w' b (Vf.sync σ k) (grow S w w') ∧ Moved S w w' := by
  obtain ⟨bf, bh, bd, pv, fs, sl, hr⟩ := h
  obtain ⟨F, hF⟩ : ∃ F, F = Vf.findE σ k := ⟨_, rfl⟩
  obtain ⟨N, hN⟩ : ∃ N, N = if Vf.findE σ k = 0 then Vf.num σ.held k else 0 := ⟨_, rfl⟩
  have q := find_some w b bf bh bd pv fs sl σ S hr k hk F hF N hN
  have B1 : Below w.heap.size w (w.alloc (.cells #[str k] 9)) := (Below.refl _ _).alloc (Nat.le_refl _) _
  by_cases f0 : F = 0
  · have ff : Vf.findE σ k = 0 := by rw [← hF, f0]
    have HE' : Hid (E = Vf.doE σ) := by show _ = _; rw [HE.out]; unfold Vf.syncE; rw [if_pos ff]
    have n0 : N = Vf.num σ.held k := by rw [hN, if_pos ff]
    have e2 : Vf.sync σ k = Vf.doSt σ ⟨4, N, 0, [], []⟩ [] := by unfold Vf.sync; rw [if_pos ff, ← n0]
    have nle : N ≤ 1000000000 := by rw [n0]; exact r.heldV k
    have DO : Hid (∀ wx, Below w.heap.size w wx → Calls Try.prog 20 #[.pointer (some ⟨b, 0, none⟩), .agg #[.int .i64 4, .int .i64 (N : Int), .int .i64 0, .string ⟨#[]⟩, .string ⟨#[]⟩], .slice none 0 0] wx fun e w' => e = .returned (.int .i64 E) ∧ Rep w' b (Vf.sync σ k) (grow S w w') ∧ Moved S w w') := fun wx hb => by
      refine (do_any wx b σ S (Rep.later ⟨bf, bh, bd, pv, fs, sl, hr⟩ hb) r ⟨4, N, 0, [], []⟩ (step_ok (by omega) (by omega) (by first | exact hk | simp) (by simp)) (by simp) (.slice none 0 0)).mono ?_
      rintro e w' ⟨rfl, r1, m1⟩
      rw [e2]
      exact ⟨by rw [HE'.out], Rep.after hb r1 m1⟩
    have CL := clone_any (w.alloc (.cells #[str k] 9)) k hk
    have B2 : Hid _ := B1
    subst f0
    clear hF hN HE e2 hr HE' n0 ff
    go_enter Try.func12, Try.ntmps12
    go_wp2_with (first
      | (go_at_call 19; refine still2 q ?_)
      | (go_at_call 20; refine (DO.out _ B2.out).mono ?_; rintro e w3 ⟨rfl, r3, m3⟩))
    go_ret
    exact ⟨rfl, r3, m3⟩
  · have ff : ¬ Vf.findE σ k = 0 := by rw [← hF]; exact f0
    have HE' : Hid (E = F) := by show _ = _; rw [HE.out]; unfold Vf.syncE; rw [if_neg ff, hF]
    have e2 : Vf.sync σ k = σ := by unfold Vf.sync; rw [if_neg ff]
    have SM : Hid (Rep (w.alloc (.cells #[str k] 9)) b (Vf.sync σ k) (grow S w (w.alloc (.cells #[str k] 9))) ∧ Moved S w (w.alloc (.cells #[str k] 9))) := by
      rw [e2]
      exact ⟨Rep.grow1 ⟨bf, bh, bd, pv, fs, sl, hr.alloc _⟩, (Moved.refl S w).alloc _⟩
    have b0 : (F != 0) = true := by simpa using f0
    clear hF hN HE e2 B1 hr ff
    go_enter Try.func12, Try.ntmps12
    go_wp2_with (go_at_call 19; refine still2 q ?_)
    go_ret
    exact ⟨by rw [HE'.out]; rfl, SM.out⟩

/-- Why a call without a name is refused. -/
theorem refused_rep (w : World) (b : Nat) (σ : Vf.St) (S : Nat → Prop) (h : Rep w b σ S) (R : Int) (HR : Hid (R = Vf.refuse σ [])) : Calls Try.prog 23 #[.pointer (some ⟨b, 0, none⟩), .slice none 0 0] w fun e w' => e = .returned (.int .i64 R) ∧ w' = w := by
  obtain ⟨bf, bh, bd, pv, fs, sl, hr⟩ := h
  exact refused_some w b bf σ.on _ [] hr.cells.2.2.2.2.2.1 hr.cells.2.2.1 (asked_none w) R (by show _ = _; rw [HR.out]; rfl)

set_option maxHeartbeats 400000 in
theorem syncNames_any (w : World) (b : Nat) (σ : Vf.St) (S : Nat → Prop) (h : Rep w b σ S) (r : Ready σ) (E : Int) (HE : Hid (E = Vf.syncNamesE σ)) :
    Calls Try.prog 13 #[.pointer (some ⟨b, 0, none⟩)] w fun e w' => e = .returned (.int .i64 E) ∧ Rep w' b (Vf.syncNames σ) (grow S w w') ∧ Moved S w w' := by
  obtain ⟨R, hR⟩ : ∃ R, R = Vf.refuse σ [] := ⟨_, rfl⟩
  have q := refused_rep w b σ S h R hR
  by_cases f0 : R = 0
  · have ff : Vf.refuse σ [] = 0 := by rw [← hR, f0]
    have HE' : Hid (E = Vf.doE σ) := by show _ = _; rw [HE.out]; unfold Vf.syncNamesE; rw [if_pos ff]
    have e2 : Vf.syncNames σ = Vf.doSt σ ⟨5, 0, 0, [], []⟩ [] := by unfold Vf.syncNames; rw [if_pos ff]
    have DO : Calls Try.prog 20 #[.pointer (some ⟨b, 0, none⟩), .agg #[.int .i64 5, .int .i64 0, .int .i64 0, .string ⟨#[]⟩, .string ⟨#[]⟩], .slice none 0 0] w fun e w' => e = .returned (.int .i64 E) ∧ Rep w' b (Vf.syncNames σ) (grow S w w') ∧ Moved S w w' := by
      refine (do_any w b σ S h r ⟨5, 0, 0, [], []⟩ (step_ok (by omega) (by omega) (by simp) (by simp)) (by simp) (.slice none 0 0)).mono ?_
      rintro e w' ⟨rfl, r1, m1⟩
      rw [e2]
      exact ⟨by rw [HE'.out], r1, m1⟩
    subst f0
    clear hR HE e2 HE' ff h
    go_enter Try.func13, Try.ntmps13
    go_wp2_with (first
      | (go_at_call 23; refine still q ?_)
      | (go_at_call 20; refine DO.mono ?_; rintro e w3 ⟨rfl, r3, m3⟩))
    go_ret
    exact ⟨rfl, r3, m3⟩
  · have ff : ¬ Vf.refuse σ [] = 0 := by rw [← hR]; exact f0
    have HE' : Hid (E = R) := by show _ = _; rw [HE.out]; unfold Vf.syncNamesE; rw [if_neg ff, hR]
    have e2 : Vf.syncNames σ = σ := by unfold Vf.syncNames; rw [if_neg ff]
    have SM : Hid (Rep w b (Vf.syncNames σ) (grow S w w) ∧ Moved S w w) := by rw [e2]; exact ⟨h.grow1, Moved.refl S w⟩
    have b0 : (R != 0) = true := by simpa using f0
    clear hR HE e2 ff h
    go_enter Try.func13, Try.ntmps13
    go_wp2_with (go_at_call 23; refine still q ?_)
    go_ret
    exact ⟨by rw [HE'.out]; rfl, SM.out⟩
end Go.Proofs.Ytclokpkhkokfhab
