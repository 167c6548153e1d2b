/-
  What the calls of a file system do to its files, its durable names and its pending steps, whether they are done or not; what is read behind a crash.
-/
import Derived.Test.YtclokpkhkokfhabVInv3
namespace Go.Proofs.Ytclokpkhkokfhab
namespace Vf

/-- All but the power and the fuse is as it was. -/
structure Alike (σ τ : St) : Prop where
  files : τ.files = σ.files
  durable : τ.durable = σ.durable
  pending : τ.pending = σ.pending
  held : τ.held = σ.held
theorem Alike.refl (σ : St) : Alike σ σ := ⟨rfl, rfl, rfl, rfl⟩
theorem Alike.off (σ : St) : Alike σ { σ with on := false } := ⟨rfl, rfl, rfl, rfl⟩

theorem doE_zero {σ : St} (h : doE σ = 0) : σ.fuse ≠ 0 := fun h0 => by unfold doE at h; rw [if_pos h0] at h; cases h
theorem doE_fail {σ : St} {s : Step} {b : Bs} (h : doE σ ≠ 0) : Alike σ (doSt σ s b) := by
  have h0 : σ.fuse = 0 := by
    unfold doE at h
    split at h
    · assumption
    · exact absurd rfl h
  rw [doSt_off h0]; exact Alike.off σ

theorem create_fail {σ : St} {k : Bs} (h : createE σ k ≠ 0) : Alike σ (create σ k) := by
  unfold create
  split
  · rename_i h4
    refine doE_fail ?_
    unfold createE at h
    rw [if_neg (by rw [h4]; decide), if_pos h4] at h
    exact h
  · exact Alike.refl σ
theorem create_done {σ : St} {k : Bs} (h : createE σ k = 0) : findE σ k = 4 ∧ σ.fuse ≠ 0 := by
  unfold createE at h
  split at h
  · cases h
  · split at h
    · rename_i h4; exact ⟨h4, doE_zero h⟩
    · rename_i h0 _; exact absurd h h0
theorem sync_fail {σ : St} {k : Bs} (h : syncE σ k ≠ 0) : Alike σ (sync σ k) := by
  unfold sync
  split
  · rename_i h0
    refine doE_fail ?_
    unfold syncE at h
    rw [if_pos h0] at h
    exact h
  · exact Alike.refl σ
theorem sync_done {σ : St} {k : Bs} (h : syncE σ k = 0) : findE σ k = 0 ∧ σ.fuse ≠ 0 := by
  unfold syncE at h
  split at h
  · rename_i h0; exact ⟨h0, doE_zero h⟩
  · rename_i h0; exact absurd h h0
theorem syncNames_fail {σ : St} (h : syncNamesE σ ≠ 0) : Alike σ (syncNames σ) := by
  unfold syncNames
  split
  · rename_i h0
    refine doE_fail ?_
    unfold syncNamesE at h
    rw [if_pos h0] at h
    exact h
  · exact Alike.refl σ
theorem syncNames_done {σ : St} (h : syncNamesE σ = 0) : σ.on = true ∧ σ.fuse ≠ 0 := by
  unfold syncNamesE at h
  split at h
  · rename_i h0
    refine ⟨?_, doE_zero h⟩
    cases ho : σ.on with
    | true => rfl
    | false => unfold refuse at h0; rw [ho] at h0; cases h0
  · rename_i h0; exact absurd h h0
theorem rename_fail {σ : St} {k t : Bs} (h : renameE σ k t ≠ 0) : Alike σ (rename σ k t) := by
  unfold rename
  split
  · rename_i hf
    obtain ⟨h1, h2⟩ := rename_if hf
    refine doE_fail ?_
    unfold renameE at h
    rw [if_pos h1, if_pos h2] at h
    exact h
  · exact Alike.refl σ
theorem rename_done {σ : St} {k t : Bs} (h : renameE σ k t = 0) : refuse σ [k, t] = 0 ∧ findE σ k = 0 ∧ σ.fuse ≠ 0 := by
  have h' := rename_if (σ := σ) (k := k) (t := t) (.inl h)
  unfold renameE at h
  rw [if_pos h'.1, if_pos h'.2] at h
  exact ⟨h'.1, h'.2, doE_zero h⟩

/-- The writes of some pieces. -/
def writes (n : Nat) (l : List Bs) : List Step := l.map fun p => ⟨0, n, p.length, [], []⟩
theorem writes_kind {n : Nat} {l : List Bs} : ∀ s ∈ writes n l, s.kind = 0 := fun s hs => by
  obtain ⟨p, _, rfl⟩ := List.mem_map.1 hs
  rfl
theorem wsum_writes (n : Nat) : ∀ (l : List Bs), wsum n (writes n l) = l.flatten.length
  | [] => rfl
  | p :: r => by
    show wsum n (⟨0, n, p.length, [], []⟩ :: writes n r) = _
    rw [wsum_cons, wsum_writes n r, List.flatten_cons, List.length_append]
    simp

theorem write_is {σ : St} {n : Nat} {x : File} (hx : σ.files n = some x) (h0 : σ.fuse ≠ 0) (p : Bs) : doSt σ ⟨0, n, p.length, [], []⟩ p = { tick σ with files := setF σ.files n (some { x with bytes := x.bytes ++ p }), used := σ.used + p.length, pending := σ.pending ++ [⟨0, n, p.length, [], []⟩] } := by
  unfold doSt
  rw [if_neg h0]
  unfold act
  rw [if_pos rfl]
  unfold write
  have : (tick σ).files n = some x := hx
  simp only [this]
  rfl

/-- Pieces are written until the power goes. -/
theorem pour_is (n : Nat) : ∀ (l : List Bs) (σ : St) (x : File), σ.files n = some x → ∃ d, d <+: l ∧ (pour σ n l).files = setF σ.files n (some { x with bytes := x.bytes ++ d.flatten }) ∧ (pour σ n l).held = σ.held ∧ (pour σ n l).durable = σ.durable ∧ (pour σ n l).pending = σ.pending ++ writes n d ∧ (pourE σ n l = 0 → d = l ∧ (pour σ n l).on = σ.on) ∧ (pour σ n l).room = σ.room ∧ ((pour σ n l).used = σ.used + d.flatten.length)
  | [], σ, x, hx => by
    refine ⟨[], List.prefix_refl _, ?_, rfl, rfl, by simp [pour, writes], fun _ => ⟨rfl, rfl⟩, rfl, by simp [pour]⟩
    funext k
    unfold setF
    split
    · rename_i e; rw [e]; simp [pour, hx]
    · rfl
  | p :: r, σ, x, hx => by
    rw [pour_cons]
    by_cases h0 : σ.fuse = 0
    · rw [if_pos h0]
      refine ⟨[], List.nil_prefix, ?_, rfl, rfl, by simp [writes], fun h => ?_, rfl, by simp⟩
      · funext k
        unfold setF
        split
        · rename_i e; rw [e]; simp [hx]
        · rfl
      · have : pourE σ n (p :: r) = if σ.fuse = 0 then 7 else pourE (doSt σ ⟨0, n, p.length, [], []⟩ p) n r := rfl
        rw [this, if_pos h0] at h
        cases h
    · rw [if_neg h0]
      have e := write_is hx h0 p
      obtain ⟨d, h1, h2, h3, h4, h5, h6, h7, h8⟩ := pour_is n r (doSt σ ⟨0, n, p.length, [], []⟩ p) { x with bytes := x.bytes ++ p } (by rw [e]; exact setF_eq)
      refine ⟨p :: d, List.prefix_cons_inj p |>.2 h1, ?_, ?_, ?_, ?_, fun h => ?_, ?_, ?_⟩
      · rw [h2, e]
        funext k
        show setF (setF σ.files n _) n _ k = setF σ.files n _ k
        unfold setF
        split
        · simp
        · rfl
      · rw [h3, e]; rfl
      · rw [h4, e]; rfl
      · rw [h5, e]; simp [writes]
      · have : pourE σ n (p :: r) = if σ.fuse = 0 then 7 else pourE (doSt σ ⟨0, n, p.length, [], []⟩ p) n r := rfl
        rw [this, if_neg h0] at h
        obtain ⟨g1, g2⟩ := h6 h
        rw [g1, g2, e]; exact ⟨rfl, rfl⟩
      · rw [h7, e]; rfl
      · rw [h8, e]
        show σ.used + (p.length : Int) + _ = _
        rw [List.flatten_cons, List.length_append]
        omega

theorem append_is {σ : St} {k b : Bs} (i : Inv σ) : (Alike σ (append σ k b) ∧ appendE σ k b ≠ 0) ∨ (findE σ k = 0 ∧ (b.length : Int) ≤ left σ ∧ ∃ x d, σ.files (num σ.held k) = some x ∧ d <+: pieces b ∧ (append σ k b).files = setF σ.files (num σ.held k) (some { x with bytes := x.bytes ++ d.flatten }) ∧ (append σ k b).held = σ.held ∧ (append σ k b).durable = σ.durable ∧ (append σ k b).pending = σ.pending ++ writes (num σ.held k) d ∧ (appendE σ k b = 0 → d = pieces b ∧ (append σ k b).on = σ.on) ∧ (append σ k b).room = σ.room ∧ (append σ k b).used = σ.used + d.flatten.length) := by
  unfold append appendE
  by_cases h0 : findE σ k = 0
  · rw [if_pos h0, if_pos h0]
    by_cases h1 : (b.length : Int) > left σ
    · rw [if_pos h1, if_pos h1]; exact .inl ⟨Alike.refl σ, by decide⟩
    · rw [if_neg h1, if_neg h1]
      obtain ⟨x, hx⟩ := Option.ne_none_iff_exists'.1 (i.heldOk.look (num_some (find_zero' h0).2.2)).1
      obtain ⟨d, h⟩ := pour_is (num σ.held k) (pieces b) σ x hx
      exact .inr ⟨h0, by omega, x, d, hx, h⟩
  · rw [if_neg h0, if_neg h0]
    exact .inl ⟨Alike.refl σ, h0⟩

theorem pour_nofuse (n : Nat) : ∀ (l : List Bs) (σ : St), σ.fuse = -1 → pourE σ n l = 0 ∧ (pour σ n l).fuse = -1
  | [], _, h => ⟨rfl, h⟩
  | p :: r, σ, h => by
    have h0 : σ.fuse ≠ 0 := by omega
    have hf : (doSt σ ⟨0, n, p.length, [], []⟩ p).fuse = -1 := by
      unfold doSt
      rw [if_neg h0, (act_steps (tick σ) _ _).2.1]
      show (if σ.fuse = -1 then -1 else σ.fuse - 1) = -1
      rw [if_pos h]
    have := pour_nofuse n r _ hf
    rw [pour_cons, if_neg h0]
    refine ⟨?_, this.2⟩
    show (if σ.fuse = 0 then 7 else _) = _
    rw [if_neg h0]; exact this.1

/-- What a sync of a file does. -/
theorem sync_is {σ : St} {k : Bs} (i : Inv σ) (h : syncE σ k = 0) : (sync σ k).held = σ.held ∧ (sync σ k).durable = σ.durable ∧ (sync σ k).pending = σ.pending.filter (fun p => !(decide (p.kind = 0) && decide (p.file = num σ.held k))) ∧ (sync σ k).on = σ.on ∧ (∀ n x, (sync σ k).files n = some x → ∃ y, σ.files n = some y ∧ x.bytes = y.bytes) ∧ (∀ n y, σ.files n = some y → ∃ x, (sync σ k).files n = some x ∧ x.bytes = y.bytes ∧ y.synced ≤ x.synced) ∧ ∀ x, (sync σ k).files (num σ.held k) = some x → x.synced = x.bytes.length := by
  obtain ⟨hf, h0⟩ := sync_done h
  have hi := i.sync k
  have e : sync σ k = settle (fun p => decide (p.kind = 0) && decide (p.file = num σ.held k)) (tick σ) := by
    unfold sync
    rw [if_pos hf]
    unfold doSt
    rw [if_neg h0]
    rfl
  obtain ⟨r1, r2, r3, r4, r5, r6, r7⟩ := keepAll_rest ((tick σ).pending.filter fun p => decide (p.kind = 0) && decide (p.file = num σ.held k)) (tick σ)
  have hw : ∀ s ∈ (tick σ).pending.filter (fun p => decide (p.kind = 0) && decide (p.file = num σ.held k)), s.kind = 0 := fun s hs => by
    have := (List.mem_filter.1 hs).2
    simp at this
    exact this.1
  obtain ⟨kd, kf⟩ := keepAll_writes (σ := tick σ) hw
  rw [e] at hi ⊢
  refine ⟨r6, kd, rfl, r3, fun n x hx => ?_, fun n y hy => ?_, fun x hx => ?_⟩
  · obtain ⟨y, hy, e1, _⟩ := files_keepAll hx
    exact ⟨y, hy, e1⟩
  · obtain ⟨x, hx⟩ := Option.ne_none_iff_exists'.1 (kf n (by show σ.files n ≠ none; rw [hy]; simp))
    obtain ⟨y', hy', e1, e2⟩ := files_keepAll hx
    have : y' = y := by have h' : σ.files n = some y' := hy'; rw [hy] at h'; exact (Option.some.inj h').symm
    subst this
    exact ⟨x, hx, e1, by omega⟩
  · have := hi.pend _ x hx
    rw [← this]
    have e2 : wsum (num σ.held k) (settle (fun p => decide (p.kind = 0) && decide (p.file = num σ.held k)) (tick σ)).pending = 0 := wsum_none fun s hs hh => by
      have := (List.mem_filter.1 hs).2
      simp at this
      exact this.elim (fun h => h hh.1) (fun h => h hh.2)
    rw [e2]; rfl

/-- What a sync of the names does. -/
theorem syncNames_is {σ : St} (i : Inv σ) (h : syncNamesE σ = 0) : (syncNames σ).held = σ.held ∧ (syncNames σ).durable = σ.held ∧ (syncNames σ).pending = σ.pending.filter (fun p => decide (p.kind = 0)) ∧ (syncNames σ).on = σ.on ∧ (∀ n x, (syncNames σ).files n = some x → σ.files n = some x) ∧ ∀ n y, n ∈ σ.held.map (·.2) → σ.files n = some y → (syncNames σ).files n = some y := by
  obtain ⟨ho, h0⟩ := syncNames_done h
  have hi := i.syncNames
  have e : syncNames σ = settle (fun p => !decide (p.kind = 0)) (tick σ) := by
    unfold syncNames
    rw [if_pos (by unfold refuse; rw [ho]; rfl)]
    unfold doSt
    rw [if_neg h0]
    rfl
  obtain ⟨r1, r2, r3, r4, r5, r6, r7⟩ := keepAll_rest ((tick σ).pending.filter fun p => !decide (p.kind = 0)) (tick σ)
  have hp : (settle (fun p => !decide (p.kind = 0)) (tick σ)).pending = σ.pending.filter fun p => decide (p.kind = 0) := by
    show σ.pending.filter (fun s => !(!decide (s.kind = 0))) = _
    simp
  have hw : ∀ s ∈ (settle (fun p => !decide (p.kind = 0)) (tick σ)).pending, s.kind = 0 := fun s hs => by
    rw [hp] at hs
    simpa using (List.mem_filter.1 hs).2
  rw [e] at hi ⊢
  have hd : (settle (fun p => !decide (p.kind = 0)) (tick σ)).durable = σ.held := by
    have := hi.replay
    rw [play_writes hw] at this
    exact this.symm.trans r6
  have back : ∀ n x, (settle (fun p => !decide (p.kind = 0)) (tick σ)).files n = some x → σ.files n = some x := fun n x hx => by
    obtain ⟨y, hy, e1, e2⟩ := files_keepAll (show (keepAll (tick σ) _).files n = some x from hx)
    have e3 : wsum n ((tick σ).pending.filter fun p => !decide (p.kind = 0)) = 0 := wsum_none fun s hs hh => by
      have := (List.mem_filter.1 hs).2
      simp at this
      exact this hh.1
    rw [e3] at e2
    have : x = y := by cases x; cases y; simp_all
    rw [this]; exact hy
  refine ⟨r6, hd, hp, r3, back, fun n y hn hy => ?_⟩
  have nm := hi.durOk
  rw [hd] at nm
  obtain ⟨p, hpm, rfl⟩ := List.mem_map.1 hn
  obtain ⟨x, hx⟩ := Option.ne_none_iff_exists'.1 (nm.here p hpm)
  have := back _ x hx
  rw [hy] at this
  rw [hx, ← this]

/-- What is read behind a crash. -/
theorem crash_read {σ : St} (i : Inv σ) {c : Bs} (hc : fine c = true) {k t n : Nat} (hl : look (play σ.durable (σ.pending.take k)) c = some n) {y : File} (hy : σ.files n = some y) : findE (crash σ k t) c = 0 ∧ read (crash σ k t) c = y.bytes.take (y.synced + wsum n (kept σ.pending k t)) := by
  obtain ⟨nm, hd⟩ := i.keptOk k t
  have hheld : (crash σ k t).held = play σ.durable (σ.pending.take k) := hd
  have hlook : look (crash σ k t).held c = some n := by rw [hheld]; exact hl
  rw [hd] at nm
  obtain ⟨x, hx⟩ := Option.ne_none_iff_exists'.1 (nm.look hl).1
  obtain ⟨y', hy', e1, e2, _⟩ := i.keptBytes k t hx
  have : y' = y := by rw [hy] at hy'; exact (Option.some.inj hy').symm
  subst this
  have hf : findE (crash σ k t) c = 0 := by
    unfold findE refuse
    rw [hlook]
    show (if (if true = true then if [c].all fine = true then 0 else 2 else 7) = 0 then _ else _) = _
    simp [hc]
  refine ⟨hf, ?_⟩
  have hfl := crash_has hx (by rw [hd]; exact List.mem_map.2 ⟨_, look_mem hl, rfl⟩)
  unfold read
  rw [if_pos hf]
  have hn : num (crash σ k t).held c = n := by unfold num; rw [hlook]; rfl
  rw [hn]
  unfold bytesOf
  rw [hfl]
  show x.bytes.take x.synced = _
  rw [e1, e2]
end Vf
end Go.Proofs.Ytclokpkhkokfhab
