/-
  A file that is named durably, appended to and synced: what is read of it behind a crash.
-/
import Derived.Test.YtclokpkhkokfhaaVMovesQ
namespace Go.Proofs.Ytclokpkhkokfhaa
namespace Vf
namespace Syn

def log : Bs := [108, 111, 103]
theorem fine_log : fine log = true := by decide +kernel

/-- The file log: what was written of it is a first part of A, and all of U is durable. -/
structure Log (σ : St) (A U : Bs) : Prop where
  inv : Inv σ
  dur : look σ.durable log = some 1
  pend : ∀ s ∈ σ.pending, s.kind = 0
  file : ∃ x, σ.files 1 = some x ∧ x.bytes <+: A ∧ U.length ≤ x.synced
/-- .. and it has all of A. -/
structure All (σ : St) (A U : Bs) : Prop where
  log : Log σ A U
  file : ∃ x, σ.files 1 = some x ∧ x.bytes = A
theorem Log.held {σ : St} {A U : Bs} (h : Log σ A U) : σ.held = σ.durable := by rw [h.inv.replay, play_writes h.pend]
theorem Log.num {σ : St} {A U : Bs} (h : Log σ A U) : num σ.held log = 1 := by rw [h.held]; unfold Vf.num; rw [h.dur]; rfl
theorem Log.alike {σ τ : St} {A U : Bs} (h : Log σ A U) (i : Inv τ) (a : Alike σ τ) : Log τ A U := ⟨i, by rw [a.durable]; exact h.dur, by rw [a.pending]; exact h.pend, by rw [a.files]; exact h.file⟩
theorem Log.more {σ : St} {A U : Bs} (h : Log σ A U) (B : Bs) : Log σ (A ++ B) U := ⟨h.inv, h.dur, h.pend, by obtain ⟨x, h1, h2, h3⟩ := h.file; exact ⟨x, h1, h2.trans (List.prefix_append _ _), h3⟩⟩

theorem crash_log {σ : St} {A U : Bs} (h : Log σ A U) (k t : Nat) : findE (crash σ k t) log = 0 ∧ read (crash σ k t) log <+: A ∧ U.length ≤ (read (crash σ k t) log).length := by
  obtain ⟨x, hx, hp, hu⟩ := h.file
  have hl : look (play σ.durable (σ.pending.take k)) log = some 1 := by
    rw [play_writes (fun s hs => h.pend s (List.mem_of_mem_take hs))]; exact h.dur
  obtain ⟨h1, h2⟩ := crash_read h.inv fine_log (k := k) (t := t) hl hx
  refine ⟨h1, ?_, ?_⟩
  · rw [h2]; exact (List.take_prefix _ _).trans hp
  · rw [h2, List.length_take]
    have := h.inv.pend 1 x hx
    omega

theorem begin_log : createE (new 1048576) log = 0 ∧ syncNamesE (create (new 1048576) log) = 0 ∧ All (syncNames (create (new 1048576) log)) [] [] ∧ (syncNames (create (new 1048576) log)).on = true ∧ (syncNames (create (new 1048576) log)).steps ≤ 2 := by
  obtain ⟨e1, m⟩ := made_create log fine_log
  obtain ⟨s1, hs1⟩ : ∃ s, s = create (new 1048576) log := ⟨_, rfl⟩
  rw [← hs1] at m ⊢
  have e2 : syncNamesE s1 = 0 := by unfold syncNamesE; rw [if_pos (refuse_ok m.begun.on)]; exact doE_ok m.begun.fuse
  obtain ⟨hh, hd, hp, ho, _, hf⟩ := syncNames_is m.begun.inv e2
  have hl : look s1.held log = some 1 := by rw [m.begun.held]; rfl
  have hfile := hf 1 ⟨[], 0⟩ (List.mem_map.2 ⟨_, look_mem hl, rfl⟩) m.file
  have hp' : (syncNames s1).pending = [] := by rw [hp, m.pend]; rfl
  refine ⟨e1, e2, ⟨⟨m.begun.inv.syncNames, by rw [hd]; exact hl, (fun s hs => by rw [hp'] at hs; cases hs), ⟨_, hfile, List.prefix_refl _, Nat.le_refl _⟩⟩, ⟨_, hfile, rfl⟩⟩, ho.trans m.begun.on, ?_⟩
  have := syncNames_steps s1
  have := m.one
  omega
theorem All.fuse {σ : St} {A U : Bs} (h : All σ A U) (F : Int) (hF : F ≤ 9223372036854775807) : All (setFuse σ F) A U := by
  have hi := h.log.inv.setFuse F hF
  unfold setFuse at hi ⊢
  split
  · rename_i e
    rw [if_pos e] at hi
    exact ⟨⟨hi, h.log.dur, h.log.pend, h.log.file⟩, h.file⟩
  · exact h

theorem append_log {σ : St} {A U : Bs} (h : All σ A U) (b : Bs) : Log (append σ log b) (A ++ b) U ∧ (appendE σ log b = 0 → All (append σ log b) (A ++ b) U) := by
  have hi := (h.log.inv.append log b).1
  rcases append_is (k := log) (b := b) h.log.inv with ⟨ha, hne⟩ | ⟨_, _, x, ps, hx, hpre, hf, hh, hd, hpd, hdone, _, _⟩
  · exact ⟨(h.log.alike hi ha).more b, fun e => absurd e hne⟩
  · rw [h.log.num] at hx hf hpd
    obtain ⟨y, hy, hyb⟩ := h.file
    obtain ⟨z, hz, _, hzs⟩ := h.log.file
    have exy : x = y := by rw [hx] at hy; exact Option.some.inj hy
    have exz : x = z := by rw [hx] at hz; exact Option.some.inj hz
    subst exy
    subst exz
    have hfl : (append σ log b).files 1 = some { x with bytes := x.bytes ++ ps.flatten } := by rw [hf]; exact setF_eq
    have hfp : ps.flatten <+: b := by
      obtain ⟨r, hr⟩ := hpre
      refine ⟨r.flatten, ?_⟩
      rw [← List.flatten_append, hr, pieces_join]
    have hL : Log (append σ log b) (A ++ b) U := by
      refine ⟨hi, by rw [hd]; exact h.log.dur, fun s hs => ?_, ⟨_, hfl, ?_, hzs⟩⟩
      · rw [hpd] at hs
        rcases List.mem_append.1 hs with hs | hs
        · exact h.log.pend s hs
        · exact writes_kind s hs
      · show x.bytes ++ ps.flatten <+: A ++ b
        rw [hyb]
        exact (List.prefix_append_right_inj A).2 hfp
    refine ⟨hL, fun e => ⟨hL, ⟨_, hfl, ?_⟩⟩⟩
    show x.bytes ++ ps.flatten = A ++ b
    rw [hyb, (hdone e).1, pieces_join]

theorem sync_log {σ : St} {A U : Bs} (h : All σ A U) : Log (sync σ log) A U ∧ (syncE σ log = 0 → All (sync σ log) A A) := by
  have hi := h.log.inv.sync log
  by_cases e : syncE σ log = 0
  · obtain ⟨hh, hd, hp, _, _, hk, hs⟩ := sync_is h.log.inv e
    rw [h.log.num] at hs
    obtain ⟨y, hy, hyb⟩ := h.file
    obtain ⟨z, hz, _, hzs⟩ := h.log.file
    have exz : y = z := by rw [hy] at hz; exact Option.some.inj hz
    subst exz
    obtain ⟨x, hx, e1, e2⟩ := hk 1 y hy
    have hpd : ∀ s ∈ (sync σ log).pending, s.kind = 0 := fun s hs' => by
      rw [hp] at hs'
      exact h.log.pend s (List.mem_filter.1 hs').1
    have xb : x.bytes = A := by rw [e1]; exact hyb
    refine ⟨⟨hi, by rw [hd]; exact h.log.dur, hpd, ⟨x, hx, by rw [xb]; exact List.prefix_refl _, by omega⟩⟩, fun _ => ⟨⟨hi, by rw [hd]; exact h.log.dur, hpd, ⟨x, hx, by rw [xb]; exact List.prefix_refl _, by rw [hs x hx, xb]; exact Nat.le_refl _⟩⟩, ⟨x, hx, xb⟩⟩⟩
  · exact ⟨h.log.alike hi (sync_fail e), fun e' => absurd e' e⟩
end Syn
end Vf
end Go.Proofs.Ytclokpkhkokfhaa
