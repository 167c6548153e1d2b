/-
  A rename; what is told of a file system; the fuse; a new one.
-/
import Derived.Test.YtclokpkhkokfhabVCalls2
namespace Go.Proofs.Ytclokpkhkokfhab
open Go.RowKit Go.Maps

theorem asked_two (w : World) (k t : Vf.Bs) (hk : k.length ≤ 1000000) (ht : t.length ≤ 1000000) : Asked (w.alloc (.cells #[str k, str t] 9)) (.slice (some ⟨w.heap.size, 0, none⟩) 2 2) [k, t] := by
  refine ⟨⟨_, 2, rfl, fun j hj => ⟨w.heap.size, 0, rfl, ?_⟩⟩, fun x hx => ?_, by simp⟩
  · rw [Joins.cell_of_block (new_block w _)]
    match j, hj with
    | 0, _ => rfl
    | 1, _ => rfl
  · simp at hx
    rcases hx with rfl | rfl
    · exact hk
    · exact ht

set_option maxHeartbeats 400000 in
theorem rename_any (w : World) (b : Nat) (σ : Vf.St) (S : Nat → Prop) (h : Rep w b σ S) (r : Ready σ) (k t : Vf.Bs) (hk : k.length ≤ 1000000) (ht : t.length ≤ 1000000) (E : Int) (HE : Hid (E = Vf.renameE σ k t)) :
    Calls Try.prog 10 #[.pointer (some ⟨b, 0, none⟩), str k, str t] w fun e w' => e = .returned (.int .i64 E) ∧ Rep w' b (Vf.rename σ k t) (grow S w w') ∧ Moved S w w' := by
  obtain ⟨bf, bh, bd, pv, fs, sl, hr⟩ := h
  have h1 := hr.alloc (.cells #[str k, str t] 9)
  obtain ⟨R, hR⟩ : ∃ R, R = Vf.refuse σ [k, t] := ⟨_, rfl⟩
  have q1 := refused_some _ b bf σ.on _ [k, t] h1.cells.2.2.2.2.2.1 h1.cells.2.2.1 (asked_two w k t hk ht) R (by show _ = _; rw [hR]; rfl)
  obtain ⟨F, hF⟩ : ∃ F, F = Vf.findE σ k := ⟨_, rfl⟩
  obtain ⟨N, hN⟩ : ∃ N, N = if Vf.findE σ k = 0 then Vf.num σ.held k else 0 := ⟨_, rfl⟩
  have q := find_some _ b bf bh bd pv fs sl σ S h1 k hk F hF N hN
  have B1 : Below w.heap.size w ((w.alloc (.cells #[str k, str t] 9)).alloc (.cells #[str k] 9)) := ((Below.refl _ _).alloc (Nat.le_refl _) _).alloc (by simp) _
  by_cases r0 : R = 0
  · have rr : Vf.refuse σ [k, t] = 0 := by rw [← hR, r0]
    by_cases f0 : F = 0
    · have ff : Vf.findE σ k = 0 := by rw [← hF, f0]
      have HE' : Hid (E = Vf.doE σ) := by show _ = _; rw [HE.out]; unfold Vf.renameE; rw [if_pos rr, if_pos ff]
      have e2 : Vf.rename σ k t = Vf.doSt σ ⟨2, 0, 0, k, t⟩ [] := by unfold Vf.rename; rw [if_pos (.inr ⟨rr, ff⟩)]
      have DO : Hid (∀ wx, Below w.heap.size w wx → Calls Try.prog 20 #[.pointer (some ⟨b, 0, none⟩), .agg #[.int .i64 2, .int .i64 0, .int .i64 0, str k, str t], .slice none 0 0] wx fun e w' => e = .returned (.int .i64 E) ∧ Rep w' b (Vf.rename σ k t) (grow S w w') ∧ Moved S w w') := fun wx hb => by
        refine (do_any wx b σ S (Rep.later ⟨bf, bh, bd, pv, fs, sl, hr⟩ hb) r ⟨2, 0, 0, k, t⟩ (step_ok (by omega) (by omega) hk ht) (by simp) (.slice none 0 0)).mono ?_
        rintro e w' ⟨rfl, r1, m1⟩
        rw [e2]
        exact ⟨by rw [HE'.out], Rep.after hb r1 m1⟩
      have CL : Hid (∀ wx x, x.length ≤ 1000000 → Calls Try.prog 21 #[str x] wx fun e w' => e = .returned (str x) ∧ Below wx.heap.size wx w') := clone_any
      have B2 : Hid _ := B1
      subst r0
      subst f0
      clear hF hN hR HE e2 hr HE' rr ff h1 B1
      go_enter Try.func10, Try.ntmps10
      go_wp2_with (first
        | (go_at_call 23; refine still q1 ?_)
        | (go_at_call 19; refine still2 q ?_)
        | (go_at_call 21; have tk := B2; refine (CL.out _ k hk).mono ?_; rintro e w2 ⟨rfl, b2⟩; have B3 : Below w.heap.size w w2 := B2.out.trans (b2.mono B2.out.size); clear tk B2)
        | (go_at_call 21; refine (CL.out _ t ht).mono ?_; rintro e w4 ⟨rfl, b4⟩; have B5 : Below w.heap.size w w4 := B3.trans (b4.mono B3.size))
        | (go_at_call 20; refine (DO.out _ B5).mono ?_; rintro e w3 ⟨rfl, r3, m3⟩))
      go_ret
      exact ⟨rfl, r3, m3⟩
    · have ff : ¬ Vf.findE σ k = 0 := by rw [← hF]; exact f0
      have HE' : Hid (E = F) := by show _ = _; rw [HE.out]; unfold Vf.renameE; rw [if_pos rr, if_neg ff, hF]
      have ne : ¬ Vf.renameE σ k t = 0 := by rw [← HE.out, HE'.out]; exact f0
      have e2 : Vf.rename σ k t = σ := by unfold Vf.rename; rw [if_neg (fun h => by rcases h with h | h; exact ne h; exact ff h.2)]
      have SM : Hid _ := (⟨Rep.grow1 ⟨bf, bh, bd, pv, fs, sl, h1.alloc _⟩, Moved.below B1⟩ : Rep ((w.alloc (.cells #[str k, str t] 9)).alloc (.cells #[str k] 9)) b σ (grow S w ((w.alloc (.cells #[str k, str t] 9)).alloc (.cells #[str k] 9))) ∧ Moved S w ((w.alloc (.cells #[str k, str t] 9)).alloc (.cells #[str k] 9)))
      rw [e2]
      have b0 : (F != 0) = true := by simpa using f0
      subst r0
      clear hF hN hR HE e2 B1 hr ff rr h1 ne
      go_enter Try.func10, Try.ntmps10
      go_wp2_with (first
        | (go_at_call 23; refine still q1 ?_)
        | (go_at_call 19; refine still2 q ?_))
      go_ret
      exact ⟨by rw [HE'.out]; rfl, SM.out⟩
  · have rr : ¬ Vf.refuse σ [k, t] = 0 := by rw [← hR]; exact r0
    have HE' : Hid (E = R) := by show _ = _; rw [HE.out]; unfold Vf.renameE; rw [if_neg rr, hR]
    have ne : ¬ Vf.renameE σ k t = 0 := by rw [← HE.out, HE'.out]; exact r0
    have e2 : Vf.rename σ k t = σ := by unfold Vf.rename; rw [if_neg (fun h => by rcases h with h | h; exact ne h; exact rr h.1)]
    have SM : Hid _ := (⟨Rep.grow1 ⟨bf, bh, bd, pv, fs, sl, h1⟩, (Moved.refl S w).alloc _⟩ : Rep (w.alloc (.cells #[str k, str t] 9)) b σ (grow S w (w.alloc (.cells #[str k, str t] 9))) ∧ Moved S w (w.alloc (.cells #[str k, str t] 9)))
    rw [e2]
    have b0 : (R != 0) = true := by simpa using r0
    clear hF hN hR HE e2 B1 hr rr h1 ne q
    go_enter Try.func10, Try.ntmps10
    go_wp2_with (go_at_call 23; refine still q1 ?_)
    go_ret
    exact ⟨by rw [HE'.out]; rfl, SM.out⟩

theorem left_any (w : World) (b : Nat) (σ : Vf.St) (S : Nat → Prop) (h : Rep w b σ S) (hu : -1000000000000000000 ≤ σ.used ∧ σ.used ≤ 1000000000000000000) (hm : σ.room ≤ 1073741824) (E : Int) (HE : Hid (E = Vf.left σ)) :
    Calls Try.prog 17 #[.pointer (some ⟨b, 0, none⟩)] w fun e w' => e = .returned (.int .i64 E) ∧ Below w.heap.size w w' := by
  obtain ⟨R, hR⟩ : ∃ R, R = Vf.refuse σ [] := ⟨_, rfl⟩
  have q := refused_rep w b σ S h R hR
  obtain ⟨bf, bh, bd, pv, fs, sl, hr⟩ := h
  have c0 := hr.cells.1
  have c1 := hr.cells.2.1
  cases ho : σ.on with
  | true =>
    have r0 : R = 0 := by rw [hR]; unfold Vf.refuse; rw [ho]; rfl
    have HE' : Hid (E = (σ.room : Int) - σ.used) := by show _ = _; rw [HE.out]; unfold Vf.left; rw [ho]; rfl
    obtain ⟨U, hU⟩ : ∃ U, U = σ.used := ⟨_, rfl⟩
    obtain ⟨M, hM⟩ : ∃ M, M = σ.room := ⟨_, rfl⟩
    rw [← hU] at c1 hu HE'
    rw [← hM] at c0 hm HE'
    obtain ⟨u1, u2⟩ := hu
    subst r0
    clear hR HE hr ho hU hM
    go_enter Try.func17, Try.ntmps17
    go_wp2_with (go_at_call 23; refine still q ?_)
    go_region
    go_wp2_with (fail)
    go_ret
    exact ⟨by rw [HE'.out]; rfl, (Below.refl _ _).drew⟩
  | false =>
    have r7 : R = 7 := by rw [hR]; unfold Vf.refuse; rw [ho]; rfl
    have HE' : Hid (E = 0) := by show _ = _; rw [HE.out]; unfold Vf.left; rw [ho]; rfl
    subst r7
    clear hR HE hr ho
    go_enter Try.func17, Try.ntmps17
    go_wp2_with (go_at_call 23; refine still q ?_)
    go_ret
    exact ⟨by rw [HE'.out]; rfl, Below.refl _ _⟩

theorem made_rep (w : World) (b : Nat) (σ : Vf.St) (S : Nat → Prop) (h : Rep w b σ S) : Calls Try.prog 24 #[.pointer (some ⟨b, 0, none⟩)] w fun e w' => e = .returned (.bool true) ∧ w' = w := by
  obtain ⟨bf, bh, bd, pv, fs, sl, hr⟩ := h
  exact made_some w b bf hr.cells.2.2.2.2.2.1
theorem pending_any (w : World) (b : Nat) (σ : Vf.St) (S : Nat → Prop) (h : Rep w b σ S) : Calls Try.prog 18 #[.pointer (some ⟨b, 0, none⟩)] w fun e w' => e = .returned (.int .i64 (σ.pending.length : Int)) ∧ w' = w := by
  have q := made_rep w b σ S h
  obtain ⟨bf, bh, bd, pv, fs, sl, hr⟩ := h
  obtain ⟨a, c, hs⟩ := row_shape hr.pend
  have c8 := hr.cells.2.2.2.2.2.2.2.2
  rw [hs] at c8
  clear hr hs
  go_enter Try.func18, Try.ntmps18
  go_wp2_with (go_at_call 24; refine still q ?_)
  go_ret
  exact ⟨rfl, rfl⟩
end Go.Proofs.Ytclokpkhkokfhab
