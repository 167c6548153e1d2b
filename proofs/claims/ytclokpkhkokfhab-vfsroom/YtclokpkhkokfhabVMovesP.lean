/-
  A file is put in the place of another one: what is read behind a crash at any stage of it.
-/
import Derived.Test.YtclokpkhkokfhabVPure
namespace Go.Proofs.Ytclokpkhkokfhab
namespace Vf
namespace Mov

def cur : Bs := [99, 117, 114, 114, 101, 110, 116]
def nw : Bs := [110, 101, 119]
theorem cur_nw : cur ≠ nw := by decide
theorem nw_cur : nw ≠ cur := by decide
theorem fine_cur : fine cur = true := by decide +kernel
theorem fine_nw : fine nw = true := by decide +kernel

/-- The old file is there, all of it durable. -/
structure Old (old : Bs) (σ : St) (c : Nat) : Prop where
  inv : Inv σ
  file : ∃ x, σ.files c = some x ∧ x.bytes = old ∧ old.length ≤ x.synced
  dur : look σ.durable cur = some c
  none : look σ.durable nw = none
/-- Whatever a crash keeps, the old bytes are read. -/
def Holds (old : Bs) (σ : St) : Prop := ∀ k t, findE (crash σ k t) cur = 0 ∧ read (crash σ k t) cur = old

theorem read_at {σ : St} (i : Inv σ) {n k : Nat} (hl : look (play σ.durable (σ.pending.take k)) cur = some n) {l : Bs} (hf : ∃ x, σ.files n = some x ∧ x.bytes = l ∧ l.length ≤ x.synced) (t : Nat) : findE (crash σ k t) cur = 0 ∧ read (crash σ k t) cur = l := by
  obtain ⟨x, hx, e, hs⟩ := hf
  obtain ⟨h1, h2⟩ := crash_read i fine_cur (k := k) (t := t) hl hx
  refine ⟨h1, ?_⟩
  rw [h2, e, List.take_of_length_le (by omega)]

theorem Old.alike {old : Bs} {σ τ : St} {c : Nat} (h : Old old σ c) (i : Inv τ) (a : Alike σ τ) : Old old τ c := ⟨i, by rw [a.files]; exact h.file, by rw [a.durable]; exact h.dur, by rw [a.durable]; exact h.none⟩

/-- Nothing is pending. -/
theorem holds_none {old : Bs} {σ : St} {c : Nat} (h : Old old σ c) (hp : σ.pending = []) : Holds old σ := fun k t => read_at h.inv (n := c) (by rw [hp, List.take_nil]; exact h.dur) h.file t
/-- A naming is pending, and writes. -/
theorem look_named {σ : St} {c d : Nat} (h : look σ.durable cur = some c) {W : List Step} (hW : ∀ s ∈ W, s.kind = 0) (k : Nat) : look (play σ.durable ((⟨1, d, 0, nw, []⟩ :: W).take k)) cur = some c := by
  cases k with
  | zero => exact h
  | succ k =>
    rw [List.take_succ_cons]
    show look (play (put σ.durable nw d) (W.take k)) cur = some c
    rw [play_writes (fun s hs => hW s (List.mem_of_mem_take hs)), look_put, if_neg cur_nw]
    exact h
theorem holds_named {old : Bs} {σ : St} {c d : Nat} (h : Old old σ c) {W : List Step} (hW : ∀ s ∈ W, s.kind = 0) (hp : σ.pending = ⟨1, d, 0, nw, []⟩ :: W) : Holds old σ := fun k t => read_at h.inv (n := c) (by rw [hp]; exact look_named h.dur hW k) h.file t

/-- The new file has its name, which is pending; so are its writes, if any. -/
structure Named (old : Bs) (σ : St) (c d : Nat) (W : List Step) (l : Bs) : Prop where
  old : Old old σ c
  writes : ∀ s ∈ W, s.kind = 0
  pend : σ.pending = ⟨1, d, 0, nw, []⟩ :: W
  ne : c ≠ d
  file : ∃ x, σ.files d = some x ∧ x.bytes = l
theorem Named.held {old : Bs} {σ : St} {c d : Nat} {W : List Step} {l : Bs} (h : Named old σ c d W l) : σ.held = put σ.durable nw d := by
  rw [h.old.inv.replay, h.pend]
  show play (put σ.durable nw d) W = _
  exact play_writes h.writes
theorem Named.num {old : Bs} {σ : St} {c d : Nat} {W : List Step} {l : Bs} (h : Named old σ c d W l) : num σ.held nw = d := by
  rw [h.held]; unfold Vf.num; rw [look_put, if_pos rfl]; rfl
theorem Named.alike {old : Bs} {σ τ : St} {c d : Nat} {W : List Step} {l : Bs} (h : Named old σ c d W l) (i : Inv τ) (a : Alike σ τ) : Named old τ c d W l := ⟨h.old.alike i a, h.writes, by rw [a.pending]; exact h.pend, h.ne, by rw [a.files]; exact h.file⟩

theorem create_new {old : Bs} {σ : St} {c : Nat} (h : Old old σ c) (hp : σ.pending = []) (e : createE σ nw = 0) : Named old (create σ nw) c (σ.steps + 1) [] [] := by
  obtain ⟨h4, h0⟩ := create_done e
  have hi := h.inv.create nw
  have es : create σ nw = { tick σ with files := setF σ.files (σ.steps + 1) (some ⟨[], 0⟩), held := put σ.held nw (σ.steps + 1), pending := σ.pending ++ [⟨1, σ.steps + 1, 0, nw, []⟩] } := by
    unfold create
    rw [if_pos h4]
    unfold doSt
    rw [if_neg h0]
    rfl
  have hc : c ≠ σ.steps + 1 := by
    have := (h.inv.durOk.look h.dur).2.2
    omega
  rw [es] at hi ⊢
  refine ⟨⟨hi, ?_, h.dur, h.none⟩, (fun s hs => by cases hs), by show σ.pending ++ _ = _; rw [hp]; rfl, hc, ⟨⟨[], 0⟩, setF_eq, rfl⟩⟩
  obtain ⟨x, hx, h1⟩ := h.file
  exact ⟨x, (setF_ne hc).trans hx, h1⟩

theorem append_new {old : Bs} {σ : St} {c d : Nat} (h : Named old σ c d [] []) (b : Bs) : ∃ W l, Named old (append σ nw b) c d W l ∧ (appendE σ nw b = 0 → l = b ∧ W = Vf.writes d (pieces b)) := by
  have hi := (h.old.inv.append nw b).1
  rcases append_is (k := nw) (b := b) h.old.inv with ⟨ha, hne⟩ | ⟨_, _, x, ps, hx, hpre, hf, hh, hd, hpd, hdone, _, _⟩
  · exact ⟨[], [], h.alike hi ha, fun e => absurd e hne⟩
  · rw [h.num] at hx hf hpd
    obtain ⟨x', hx', hb'⟩ := h.file
    have ex : x = x' := by rw [hx] at hx'; exact Option.some.inj hx'
    subst ex
    refine ⟨Vf.writes d ps, ps.flatten, ⟨⟨hi, ?_, by rw [hd]; exact h.old.dur, by rw [hd]; exact h.old.none⟩, writes_kind, by rw [hpd, h.pend]; rfl, h.ne, ⟨{ x with bytes := x.bytes ++ ps.flatten }, by rw [hf]; exact setF_eq, by rw [hb']; rfl⟩⟩, fun e => ?_⟩
    · obtain ⟨y, hy, h3⟩ := h.old.file
      exact ⟨y, by rw [hf, setF_ne h.ne]; exact hy, h3⟩
    · rw [(hdone e).1, pieces_join]; exact ⟨rfl, rfl⟩

/-- The new file is whole and durable, its name pending. -/
structure Whole (old now : Bs) (σ : St) (c d : Nat) : Prop where
  named : Named old σ c d [] now
  file : ∃ x, σ.files d = some x ∧ x.bytes = now ∧ now.length ≤ x.synced
theorem sync_new {old now : Bs} {σ : St} {c d : Nat} (h : Named old σ c d (Vf.writes d (pieces now)) now) (e : syncE σ nw = 0) : Whole old now (sync σ nw) c d := by
  have hi := h.old.inv.sync nw
  obtain ⟨hh, hd, hp, _, _, hk, hs⟩ := sync_is h.old.inv e
  rw [h.num] at hp hs
  have hpd : (sync σ nw).pending = [⟨1, d, 0, nw, []⟩] := by
    rw [hp, h.pend, List.filter_cons]
    show (if true = true then _ else _) = _
    rw [if_pos rfl]
    congr 1
    rw [List.filter_eq_nil_iff]
    intro s hs
    obtain ⟨p, _, rfl⟩ := List.mem_map.1 hs
    simp
  obtain ⟨y, hy, h3⟩ := h.old.file
  obtain ⟨x, hx, e1, e2⟩ := hk c y hy
  obtain ⟨z, hz, hb⟩ := h.file
  obtain ⟨z', hz', e3, _⟩ := hk d z hz
  refine ⟨⟨⟨hi, ⟨x, hx, by rw [e1]; exact h3.1, by omega⟩, by rw [hd]; exact h.old.dur, by rw [hd]; exact h.old.none⟩, (fun s hs => by cases hs), hpd, h.ne, ⟨z', hz', by rw [e3]; exact hb⟩⟩, ⟨z', hz', by rw [e3]; exact hb, ?_⟩⟩
  rw [hs z' hz', e3, hb]; exact Nat.le_refl _

/-- .. and it is moved. -/
structure Placed (old now : Bs) (σ : St) (c d : Nat) : Prop where
  old : Old old σ c
  pend : σ.pending = [⟨1, d, 0, nw, []⟩, ⟨2, 0, 0, nw, cur⟩]
  file : ∃ x, σ.files d = some x ∧ x.bytes = now ∧ now.length ≤ x.synced
theorem Placed.alike {old now : Bs} {σ τ : St} {c d : Nat} (h : Placed old now σ c d) (i : Inv τ) (a : Alike σ τ) : Placed old now τ c d := ⟨h.old.alike i a, by rw [a.pending]; exact h.pend, by rw [a.files]; exact h.file⟩
theorem rename_new {old now : Bs} {σ : St} {c d : Nat} (h : Whole old now σ c d) (e : renameE σ nw cur = 0) : Placed old now (rename σ nw cur) c d := by
  obtain ⟨h1, h2, h0⟩ := rename_done e
  have hi := h.named.old.inv.rename nw cur
  have es : rename σ nw cur = { tick σ with held := ren ⟨2, 0, 0, nw, cur⟩ σ.held, used := (match σ.files (lost ⟨2, 0, 0, nw, cur⟩ σ.held) with | none => σ.used | some x => σ.used - x.bytes.length), pending := σ.pending ++ [⟨2, 0, 0, nw, cur⟩] } := by
    unfold rename
    rw [if_pos (.inr ⟨h1, h2⟩)]
    unfold doSt
    rw [if_neg h0]
    rfl
  rw [es] at hi ⊢
  exact ⟨⟨hi, h.named.old.file, h.named.old.dur, h.named.old.none⟩, by show σ.pending ++ _ = _; rw [h.named.pend]; rfl, h.file⟩
theorem placed_look {old now : Bs} {σ : St} {c d : Nat} (_ : Placed old now σ c d) : look (play σ.durable [⟨1, d, 0, nw, []⟩, ⟨2, 0, 0, nw, cur⟩]) cur = some d := by
  show look (put (del (put σ.durable nw d) nw) cur (num (put σ.durable nw d) nw)) cur = some d
  rw [look_put, if_pos rfl]
  unfold num
  rw [look_put, if_pos rfl]
  rfl
theorem holds_placed {old now : Bs} {σ : St} {c d : Nat} (h : Placed old now σ c d) (k t : Nat) : findE (crash σ k t) cur = 0 ∧ (read (crash σ k t) cur = old ∨ read (crash σ k t) cur = now) := by
  by_cases hk : k < 2
  · have hl : look (play σ.durable (σ.pending.take k)) cur = some c := by
      rw [h.pend]
      match k, hk with
      | 0, _ => exact h.old.dur
      | 1, _ =>
        show look (put σ.durable nw d) cur = some c
        rw [look_put, if_neg cur_nw]; exact h.old.dur
    have := read_at h.old.inv hl h.old.file t
    exact ⟨this.1, .inl this.2⟩
  · have hl : look (play σ.durable (σ.pending.take k)) cur = some d := by
      rw [h.pend, List.take_of_length_le (by simp; omega)]
      exact placed_look h
    have := read_at h.old.inv hl h.file t
    exact ⟨this.1, .inr this.2⟩
theorem names_new {old now : Bs} {σ : St} {c d : Nat} (h : Placed old now σ c d) (e : syncNamesE σ = 0) : Holds now (syncNames σ) := by
  have hi := h.old.inv.syncNames
  obtain ⟨_, hd, hp, _, _, hf⟩ := syncNames_is h.old.inv e
  have hl : look σ.held cur = some d := by rw [h.old.inv.replay, h.pend]; exact placed_look h
  have hp' : (syncNames σ).pending = [] := by rw [hp, h.pend]; rfl
  obtain ⟨x, hx, h3⟩ := h.file
  intro k t
  refine read_at hi (n := d) (by rw [hp', List.take_nil, hd]; exact hl) ⟨x, hf d x (List.mem_map.2 ⟨_, look_mem hl, rfl⟩) hx, h3⟩ t
end Mov
end Vf
end Go.Proofs.Ytclokpkhkokfhab
