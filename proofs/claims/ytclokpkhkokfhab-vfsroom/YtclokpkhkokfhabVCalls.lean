/-
  The calls of a file system that do one raw step.
-/
import Derived.Test.YtclokpkhkokfhabVReady
import Derived.Test.YtclokpkhkokfhabShelf
namespace Go.Proofs.Ytclokpkhkokfhab
open Go.RowKit Go.Maps

theorem clone_any (w : World) (k : Vf.Bs) (hk : k.length ≤ 1000000) : Calls Try.prog 21 #[str k] w fun e w' => e = .returned (str k) ∧ Below w.heap.size w w' := by
  have q := Try.stringslite_Clone ⟨k.toArray⟩ w (by show k.toArray.size ≤ _; simp; omega)
  go_enter Try.func21, Try.ntmps21
  go_wp2_with (go_at_call 34; refine q.mono ?_; rintro e w' ⟨rfl, hb⟩)
  go_ret
  exact ⟨rfl, hb⟩

theorem step_ok {k t : Nat} {a c : Vf.Bs} (hk : k ≤ 5) (ht : t ≤ 1000000000) (ha : a.length ≤ 1000000) (hc : c.length ≤ 1000000) : StepOk ⟨k, t, 0, a, c⟩ := ⟨ha, hc, ht, by show 0 ≤ _; omega, hk⟩

/-- What a raw step leaves, behind new blocks. -/
theorem Rep.after {w w1 w2 : World} {b : Nat} {σ : Vf.St} {S : Nat → Prop} (hb : Below w.heap.size w w1) (h : Rep w2 b σ (grow S w1 w2)) (hm : Moved S w1 w2) : Rep w2 b σ (grow S w w2) ∧ Moved S w w2 :=
  ⟨h.wide (fun i hi => by
    rcases hi with hi | hi
    · exact .inl hi
    · exact .inr ⟨by have := hb.size; omega, hi.2⟩) (fun i hi => by
    rcases hi with hi | hi
    · exact h.low i (.inl hi)
    · exact hi.2), (Moved.below hb).trans hm (fun i _ hi => hi)⟩

set_option maxHeartbeats 400000 in
theorem create_any (w : World) (b : Nat) (σ : Vf.St) (S : Nat → Prop) (h : Rep w b σ S) (r : Ready σ) (k : Vf.Bs) (hk : k.length ≤ 1000000) (E : Int) (HE : Hid (E = Vf.createE σ k)) :
    Calls Try.prog 8 #[.pointer (some ⟨b, 0, none⟩), str k] w fun e w' => e = .returned (.int .i64 E) ∧ Rep w' b (Vf.create σ k) (grow S w w') ∧ Moved S w w' := by
  obtain ⟨bf, bh, bd, pv, fs, sl, hr⟩ := h
  obtain ⟨F, hF⟩ : ∃ F, F = Vf.findE σ k := ⟨_, rfl⟩
  obtain ⟨N, hN⟩ : ∃ N, N = if Vf.findE σ k = 0 then Vf.num σ.held k else 0 := ⟨_, rfl⟩
  have q := find_some w b bf bh bd pv fs sl σ S hr k hk F hF N hN
  have B1 : Below w.heap.size w (w.alloc (.cells #[str k] 9)) := (Below.refl _ _).alloc (Nat.le_refl _) _
  have h1 : Rep (w.alloc (.cells #[str k] 9)) b σ S := ⟨bf, bh, bd, pv, fs, sl, hr.alloc _⟩
  have same : ∀ w', w' = w.alloc (.cells #[str k] 9) → Vf.create σ k = σ → Rep w' b (Vf.create σ k) (grow S w w') ∧ Moved S w w' := fun w' e e2 => by
    subst e
    rw [e2]
    exact ⟨h1.grow1, (Moved.refl S w).alloc _⟩
  by_cases f0 : F = 0
  · have HE' : Hid (E = 9) := by show _ = _; rw [HE.out]; unfold Vf.createE; rw [← hF, f0]; rfl
    have e2 : Vf.create σ k = σ := by unfold Vf.create; rw [← hF, f0]; rfl
    have SM : Hid _ := same _ rfl e2
    subst f0
    clear hF hN HE same e2 h1 B1 hr
    go_enter Try.func8, Try.ntmps8
    go_wp2_with (go_at_call 19; refine still2 q ?_)
    go_ret
    exact ⟨by rw [HE'.out]; rfl, SM.out⟩
  by_cases f4 : F = 4
  · have HE' : Hid (E = Vf.doE σ) := by show _ = _; rw [HE.out]; unfold Vf.createE; rw [← hF, f4]; rfl
    have e2 : Vf.create σ k = Vf.doSt σ ⟨1, 0, 0, k, []⟩ [] := by unfold Vf.create; rw [← hF, f4]; rfl
    have DO : Hid (∀ wx, Below w.heap.size w wx → Calls Try.prog 20 #[.pointer (some ⟨b, 0, none⟩), .agg #[.int .i64 1, .int .i64 0, .int .i64 0, str k, .string ⟨#[]⟩], .slice none 0 0] wx fun e w' => e = .returned (.int .i64 E) ∧ Rep w' b (Vf.create σ k) (grow S w w') ∧ Moved S w w') := fun wx hb => by
      refine (do_any wx b σ S (Rep.later ⟨bf, bh, bd, pv, fs, sl, hr⟩ hb) r ⟨1, 0, 0, k, []⟩ (step_ok (by omega) (by omega) hk (by simp)) (by simp) (.slice none 0 0)).mono ?_
      rintro e w' ⟨rfl, r1, m1⟩
      rw [e2]
      exact ⟨by rw [HE'.out], Rep.after hb r1 m1⟩
    have CL := clone_any (w.alloc (.cells #[str k] 9)) k hk
    have B2 : Hid _ := B1
    subst f4
    clear hF hN HE same e2 h1 B1 hr HE'
    go_enter Try.func8, Try.ntmps8
    go_wp2_with (first
      | (go_at_call 19; refine still2 q ?_)
      | (go_at_call 21; refine CL.mono ?_; rintro e w2 ⟨rfl, b2⟩; have B3 : Below w.heap.size w w2 := B2.out.trans (b2.mono B2.out.size))
      | (go_at_call 20; refine (DO.out _ B3).mono ?_; rintro e w3 ⟨rfl, r3, m3⟩))
    go_ret
    exact ⟨rfl, r3, m3⟩
  · have HE' : Hid (E = F) := by show _ = _; rw [HE.out]; unfold Vf.createE; rw [← hF, if_neg f0, if_neg f4]
    have e2 : Vf.create σ k = σ := by unfold Vf.create; rw [← hF, if_neg f4]
    have SM : Hid _ := same _ rfl e2
    have b0 : (F == 0) = false := by simpa using f0
    have b4 : (F == 4) = false := by simpa using f4
    clear hF hN HE same e2 h1 B1 hr
    go_enter Try.func8, Try.ntmps8
    go_wp2_with (go_at_call 19; refine still2 q ?_)
    go_ret
    exact ⟨by rw [HE'.out]; rfl, SM.out⟩
end Go.Proofs.Ytclokpkhkokfhab
