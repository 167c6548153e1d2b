/-
  A file is put in the place of another one: what is read behind a crash at any stage of it. .. and what follows from it.
-/
import Derived.Test.YtlhnjloimhcpfabGreatDoorVD
namespace Go.Proofs.YtlhnjloimhcpfabGreatDoor
namespace Vf
namespace Mov

def cur : Bs := [99, 117, 114, 114, 101, 110, 116]
def nw : Bs := [110, 101, 119]
theorem cur_nw : cur ≠ nw := by decide
theorem nw_cur : nw ≠ cur := by decide
theorem fine_cur : fine cur = true := by decide +kernel
theorem fine_nw : fine nw = true := by decide +kernel

/-- The old file is there, all of it durable. -/
structure Old (old : Bs) (σ : St) (c : Nat) : Prop where
  inv : Inv σ
  file : ∃ x, σ.files c = some x ∧ x.bytes = old ∧ old.length ≤ x.synced
  dur : look σ.durable cur = some c
  none : look σ.durable nw = none
/-- Whatever a crash keeps, the old bytes are read. -/
def Holds (old : Bs) (σ : St) : Prop := ∀ k t, findE (crash σ k t) cur = 0 ∧ read (crash σ k t) cur = old

theorem read_at {σ : St} (i : Inv σ) {n k : Nat} (hl : look (play σ.durable (σ.pending.take k)) cur = some n) {l : Bs} (hf : ∃ x, σ.files n = some x ∧ x.bytes = l ∧ l.length ≤ x.synced) (t : Nat) : findE (crash σ k t) cur = 0 ∧ read (crash σ k t) cur = l := by
  obtain ⟨x, hx, e, hs⟩ := hf
  obtain ⟨h1, h2⟩ := crash_read i fine_cur (k := k) (t := t) hl hx
  refine ⟨h1, ?_⟩
  rw [h2, e, List.take_of_length_le (by omega)]

theorem Old.alike {old : Bs} {σ τ : St} {c : Nat} (h : Old old σ c) (i : Inv τ) (a : Alike σ τ) : Old old τ c := ⟨i, by rw [a.files]; exact h.file, by rw [a.durable]; exact h.dur, by rw [a.durable]; exact h.none⟩

/-- Nothing is pending. -/
theorem holds_none {old : Bs} {σ : St} {c : Nat} (h : Old old σ c) (hp : σ.pending = []) : Holds old σ := fun k t => read_at h.inv (n := c) (by rw [hp, List.take_nil]; exact h.dur) h.file t
/-- A naming is pending, and writes. -/
theorem look_named {σ : St} {c d : Nat} (h : look σ.durable cur = some c) {W : List Step} (hW : ∀ s ∈ W, s.kind = 0) (k : Nat) : look (play σ.durable ((⟨1, d, 0, nw, []⟩ :: W).take k)) cur = some c := by
  cases k with
  | zero => exact h
  | succ k =>
    rw [List.take_succ_cons]
    show look (play (put σ.durable nw d) (W.take k)) cur = some c
    rw [play_writes (fun s hs => hW s (List.mem_of_mem_take hs)), look_put, if_neg cur_nw]
    exact h
theorem holds_named {old : Bs} {σ : St} {c d : Nat} (h : Old old σ c) {W : List Step} (hW : ∀ s ∈ W, s.kind = 0) (hp : σ.pending = ⟨1, d, 0, nw, []⟩ :: W) : Holds old σ := fun k t => read_at h.inv (n := c) (by rw [hp]; exact look_named h.dur hW k) h.file t

/-- The new file has its name, which is pending; so are its writes, if any. -/
structure Named (old : Bs) (σ : St) (c d : Nat) (W : List Step) (l : Bs) : Prop where
  old : Old old σ c
  writes : ∀ s ∈ W, s.kind = 0
  pend : σ.pending = ⟨1, d, 0, nw, []⟩ :: W
  ne : c ≠ d
  file : ∃ x, σ.files d = some x ∧ x.bytes = l
theorem Named.held {old : Bs} {σ : St} {c d : Nat} {W : List Step} {l : Bs} (h : Named old σ c d W l) : σ.held = put σ.durable nw d := by
  rw [h.old.inv.replay, h.pend]
  show play (put σ.durable nw d) W = _
  exact play_writes h.writes
theorem Named.num {old : Bs} {σ : St} {c d : Nat} {W : List Step} {l : Bs} (h : Named old σ c d W l) : num σ.held nw = d := by
  rw [h.held]; unfold Vf.num; rw [look_put, if_pos rfl]; rfl
theorem Named.alike {old : Bs} {σ τ : St} {c d : Nat} {W : List Step} {l : Bs} (h : Named old σ c d W l) (i : Inv τ) (a : Alike σ τ) : Named old τ c d W l := ⟨h.old.alike i a, h.writes, by rw [a.pending]; exact h.pend, h.ne, by rw [a.files]; exact h.file⟩

theorem create_new {old : Bs} {σ : St} {c : Nat} (h : Old old σ c) (hp : σ.pending = []) (e : createE σ nw = 0) : Named old (create σ nw) c (σ.steps + 1) [] [] := by
  obtain ⟨h4, h0⟩ := create_done e
  have hi := h.inv.create nw
  have es : create σ nw = { tick σ with files := setF σ.files (σ.steps + 1) (some ⟨[], 0⟩), held := put σ.held nw (σ.steps + 1), pending := σ.pending ++ [⟨1, σ.steps + 1, 0, nw, []⟩] } := by
    unfold create
    rw [if_pos h4]
    unfold doSt
    rw [if_neg h0]
    rfl
  have hc : c ≠ σ.steps + 1 := by
    have := (h.inv.durOk.look h.dur).2.2
    omega
  rw [es] at hi ⊢
  refine ⟨⟨hi, ?_, h.dur, h.none⟩, (fun s hs => by cases hs), by show σ.pending ++ _ = _; rw [hp]; rfl, hc, ⟨⟨[], 0⟩, setF_eq, rfl⟩⟩
  obtain ⟨x, hx, h1⟩ := h.file
  exact ⟨x, (setF_ne hc).trans hx, h1⟩

theorem append_new {old : Bs} {σ : St} {c d : Nat} (h : Named old σ c d [] []) (b : Bs) : ∃ W l, Named old (append σ nw b) c d W l ∧ (appendE σ nw b = 0 → l = b ∧ W = Vf.writes d (pieces b)) := by
  have hi := (h.old.inv.append nw b).1
  rcases append_is (k := nw) (b := b) h.old.inv with ⟨ha, hne⟩ | ⟨_, _, x, ps, hx, hpre, hf, hh, hd, hpd, hdone, _, _⟩
  · exact ⟨[], [], h.alike hi ha, fun e => absurd e hne⟩
  · rw [h.num] at hx hf hpd
    obtain ⟨x', hx', hb'⟩ := h.file
    have ex : x = x' := by rw [hx] at hx'; exact Option.some.inj hx'
    subst ex
    refine ⟨Vf.writes d ps, ps.flatten, ⟨⟨hi, ?_, by rw [hd]; exact h.old.dur, by rw [hd]; exact h.old.none⟩, writes_kind, by rw [hpd, h.pend]; rfl, h.ne, ⟨{ x with bytes := x.bytes ++ ps.flatten }, by rw [hf]; exact setF_eq, by rw [hb']; rfl⟩⟩, fun e => ?_⟩
    · obtain ⟨y, hy, h3⟩ := h.old.file
      exact ⟨y, by rw [hf, setF_ne h.ne]; exact hy, h3⟩
    · rw [(hdone e).1, pieces_join]; exact ⟨rfl, rfl⟩

/-- The new file is whole and durable, its name pending. -/
structure Whole (old now : Bs) (σ : St) (c d : Nat) : Prop where
  named : Named old σ c d [] now
  file : ∃ x, σ.files d = some x ∧ x.bytes = now ∧ now.length ≤ x.synced
theorem sync_new {old now : Bs} {σ : St} {c d : Nat} (h : Named old σ c d (Vf.writes d (pieces now)) now) (e : syncE σ nw = 0) : Whole old now (sync σ nw) c d := by
  have hi := h.old.inv.sync nw
  obtain ⟨hh, hd, hp, _, _, hk, hs⟩ := sync_is h.old.inv e
  rw [h.num] at hp hs
  have hpd : (sync σ nw).pending = [⟨1, d, 0, nw, []⟩] := by
    rw [hp, h.pend, List.filter_cons]
    show (if true = true then _ else _) = _
    rw [if_pos rfl]
    congr 1
    rw [List.filter_eq_nil_iff]
    intro s hs
    obtain ⟨p, _, rfl⟩ := List.mem_map.1 hs
    simp
  obtain ⟨y, hy, h3⟩ := h.old.file
  obtain ⟨x, hx, e1, e2⟩ := hk c y hy
  obtain ⟨z, hz, hb⟩ := h.file
  obtain ⟨z', hz', e3, _⟩ := hk d z hz
  refine ⟨⟨⟨hi, ⟨x, hx, by rw [e1]; exact h3.1, by omega⟩, by rw [hd]; exact h.old.dur, by rw [hd]; exact h.old.none⟩, (fun s hs => by cases hs), hpd, h.ne, ⟨z', hz', by rw [e3]; exact hb⟩⟩, ⟨z', hz', by rw [e3]; exact hb, ?_⟩⟩
  rw [hs z' hz', e3, hb]; exact Nat.le_refl _

/-- .. and it is moved. -/
structure Placed (old now : Bs) (σ : St) (c d : Nat) : Prop where
  old : Old old σ c
  pend : σ.pending = [⟨1, d, 0, nw, []⟩, ⟨2, 0, 0, nw, cur⟩]
  file : ∃ x, σ.files d = some x ∧ x.bytes = now ∧ now.length ≤ x.synced
theorem Placed.alike {old now : Bs} {σ τ : St} {c d : Nat} (h : Placed old now σ c d) (i : Inv τ) (a : Alike σ τ) : Placed old now τ c d := ⟨h.old.alike i a, by rw [a.pending]; exact h.pend, by rw [a.files]; exact h.file⟩
theorem rename_new {old now : Bs} {σ : St} {c d : Nat} (h : Whole old now σ c d) (e : renameE σ nw cur = 0) : Placed old now (rename σ nw cur) c d := by
  obtain ⟨h1, h2, h0⟩ := rename_done e
  have hi := h.named.old.inv.rename nw cur
  have es : rename σ nw cur = { tick σ with held := ren ⟨2, 0, 0, nw, cur⟩ σ.held, used := (match σ.files (lost ⟨2, 0, 0, nw, cur⟩ σ.held) with | none => σ.used | some x => σ.used - x.bytes.length), pending := σ.pending ++ [⟨2, 0, 0, nw, cur⟩] } := by
    unfold rename
    rw [if_pos (.inr ⟨h1, h2⟩)]
    unfold doSt
    rw [if_neg h0]
    rfl
  rw [es] at hi ⊢
  exact ⟨⟨hi, h.named.old.file, h.named.old.dur, h.named.old.none⟩, by show σ.pending ++ _ = _; rw [h.named.pend]; rfl, h.file⟩
theorem placed_look {old now : Bs} {σ : St} {c d : Nat} (_ : Placed old now σ c d) : look (play σ.durable [⟨1, d, 0, nw, []⟩, ⟨2, 0, 0, nw, cur⟩]) cur = some d := by
  show look (put (del (put σ.durable nw d) nw) cur (num (put σ.durable nw d) nw)) cur = some d
  rw [look_put, if_pos rfl]
  unfold num
  rw [look_put, if_pos rfl]
  rfl
theorem holds_placed {old now : Bs} {σ : St} {c d : Nat} (h : Placed old now σ c d) (k t : Nat) : findE (crash σ k t) cur = 0 ∧ (read (crash σ k t) cur = old ∨ read (crash σ k t) cur = now) := by
  by_cases hk : k < 2
  · have hl : look (play σ.durable (σ.pending.take k)) cur = some c := by
      rw [h.pend]
      match k, hk with
      | 0, _ => exact h.old.dur
      | 1, _ =>
        show look (put σ.durable nw d) cur = some c
        rw [look_put, if_neg cur_nw]; exact h.old.dur
    have := read_at h.old.inv hl h.old.file t
    exact ⟨this.1, .inl this.2⟩
  · have hl : look (play σ.durable (σ.pending.take k)) cur = some d := by
      rw [h.pend, List.take_of_length_le (by simp; omega)]
      exact placed_look h
    have := read_at h.old.inv hl h.file t
    exact ⟨this.1, .inr this.2⟩
theorem names_new {old now : Bs} {σ : St} {c d : Nat} (h : Placed old now σ c d) (e : syncNamesE σ = 0) : Holds now (syncNames σ) := by
  have hi := h.old.inv.syncNames
  obtain ⟨_, hd, hp, _, _, hf⟩ := syncNames_is h.old.inv e
  have hl : look σ.held cur = some d := by rw [h.old.inv.replay, h.pend]; exact placed_look h
  have hp' : (syncNames σ).pending = [] := by rw [hp, h.pend]; rfl
  obtain ⟨x, hx, h3⟩ := h.file
  intro k t
  refine read_at hi (n := d) (by rw [hp', List.take_nil, hd]; exact hl) ⟨x, hf d x (List.mem_map.2 ⟨_, look_mem hl, rfl⟩) hx, h3⟩ t
end Mov
end Vf
end Go.Proofs.YtlhnjloimhcpfabGreatDoor
namespace Go.Proofs.YtlhnjloimhcpfabGreatDoor
namespace Vf

theorem find_ok {σ : St} {k : Bs} (ho : σ.on = true) (hf : fine k = true) (hl : (look σ.held k).isSome = true) : findE σ k = 0 := by
  unfold findE refuse
  simp [ho, hf, hl]
theorem doE_ok {σ : St} (h : σ.fuse = -1) : doE σ = 0 := by unfold doE; rw [if_neg (by omega)]
theorem refuse_ok {σ : St} (h : σ.on = true) : refuse σ [] = 0 := by unfold refuse; rw [h]; rfl

/-- A file that was made in an empty file system, filled, synced, and named durably. -/
structure Begun (key b : Bs) (σ : St) : Prop where
  inv : Inv σ
  on : σ.on = true
  fuse : σ.fuse = -1
  held : σ.held = [(key, 1)]
  steps : σ.steps ≤ 3 + (b.length + 63) / 64
  room : σ.room = 1048576

structure Made (key : Bs) (σ : St) : Prop where
  begun : Begun key [] σ
  pend : σ.pending = [⟨1, 1, 0, key, []⟩]
  dur : σ.durable = []
  file : σ.files 1 = some ⟨[], 0⟩
  used : σ.used = 0
  one : σ.steps = 1
theorem made_create (key : Bs) (hk : fine key = true) : createE (new 1048576) key = 0 ∧ Made key (create (new 1048576) key) := by
  have h4 : findE (new 1048576) key = 4 := by
    unfold findE refuse new
    simp [hk, look]
  have e : create (new 1048576) key = ⟨1048576, 0, true, -1, 1, setF (fun _ => none) 1 (some ⟨[], 0⟩), put [] key 1, [], [⟨1, 1, 0, key, []⟩]⟩ := by
    unfold create
    rw [if_pos h4]
    rfl
  refine ⟨?_, ?_⟩
  · unfold createE
    rw [if_neg (by rw [h4]; decide), if_pos h4]
    rfl
  · have hi := (Inv.new (room := 1048576) (by decide)).create key
    rw [e] at hi ⊢
    exact ⟨⟨hi, rfl, rfl, rfl, by show 1 ≤ _; omega, rfl⟩, rfl, rfl, rfl, rfl, rfl⟩

namespace Mov
theorem begin_old (old : Bs) (hl : old.length ≤ 400) (F : Nat) (hF : F ≤ 9223372036854775807) :
    appendE (create (new 1048576) cur) cur old = 0 ∧ syncE (append (create (new 1048576) cur) cur old) cur = 0 ∧ syncNamesE (sync (append (create (new 1048576) cur) cur old) cur) = 0 ∧ fuseE (syncNames (sync (append (create (new 1048576) cur) cur old) cur)) (F : Int) = 0 ∧
      Old old (setFuse (syncNames (sync (append (create (new 1048576) cur) cur old) cur)) (F : Int)) 1 ∧ (setFuse (syncNames (sync (append (create (new 1048576) cur) cur old) cur)) (F : Int)).pending = [] := by
  obtain ⟨_, m⟩ := made_create cur fine_cur
  obtain ⟨s1, hs1⟩ : ∃ s, s = create (new 1048576) cur := ⟨_, rfl⟩
  rw [← hs1] at m ⊢
  have hl1 : look s1.held cur = some 1 := by rw [m.begun.held]; rfl
  have hn1 : num s1.held cur = 1 := by unfold num; rw [hl1]; rfl
  have hf1 : findE s1 cur = 0 := find_ok m.begun.on fine_cur (by rw [hl1]; rfl)
  have hleft : ¬ (old.length : Int) > left s1 := by
    unfold left
    rw [m.begun.on, m.begun.room, m.used]
    simp
    omega
  have hp1 := pour_nofuse (num s1.held cur) (pieces old) s1 m.begun.fuse
  have e2 : appendE s1 cur old = 0 := by
    unfold appendE
    rw [if_pos hf1, if_neg hleft]
    exact hp1.1
  have i2 := (m.begun.inv.append cur old).1
  have fu2 : (append s1 cur old).fuse = -1 := by
    unfold append
    rw [if_pos hf1, if_neg hleft]
    exact hp1.2
  rcases append_is (k := cur) (b := old) m.begun.inv with ⟨_, hne⟩ | ⟨_, _, x, ps, hx, hpre, hf, hh, hd, hpd, hdone, _, _⟩
  · exact absurd e2 hne
  obtain ⟨d1, d2⟩ := hdone e2
  rw [hn1] at hx hf hpd
  have ex : x = ⟨[], 0⟩ := by rw [m.file] at hx; exact (Option.some.inj hx).symm
  subst ex
  subst d1
  rw [pieces_join] at hf
  obtain ⟨s2, hs2⟩ : ∃ s, s = append s1 cur old := ⟨_, rfl⟩
  rw [← hs2] at i2 fu2 hf hh hd hpd d2 ⊢
  have hl2 : look s2.held cur = some 1 := by rw [hh]; exact hl1
  have hn2 : num s2.held cur = 1 := by unfold num; rw [hl2]; rfl
  have on2 : s2.on = true := d2.trans m.begun.on
  have hf2 : findE s2 cur = 0 := find_ok on2 fine_cur (by rw [hl2]; rfl)
  have e3 : syncE s2 cur = 0 := by unfold syncE; rw [if_pos hf2]; exact doE_ok fu2
  have i3 := i2.sync cur
  have fu3 : (sync s2 cur).fuse = -1 := by
    unfold sync
    rw [if_pos hf2]
    unfold doSt
    rw [if_neg (by omega), (act_steps (tick s2) _ _).2.1]
    show (if s2.fuse = -1 then -1 else s2.fuse - 1) = -1
    rw [if_pos fu2]
  obtain ⟨hh3, hd3, hp3, on3, _, hk3, hs3⟩ := sync_is i2 e3
  rw [hn2] at hp3 hs3
  have p3 : (sync s2 cur).pending = [⟨1, 1, 0, cur, []⟩] := by
    rw [hp3, hpd, m.pend]
    show List.filter _ (_ :: Vf.writes 1 (pieces old)) = _
    rw [List.filter_cons]
    show (if true = true then _ else _) = _
    rw [if_pos rfl]
    congr 1
    rw [List.filter_eq_nil_iff]
    intro s hs
    obtain ⟨p, _, rfl⟩ := List.mem_map.1 hs
    simp
  obtain ⟨x3, hx3, hb3, _⟩ := hk3 1 ⟨old, 0⟩ (by rw [hf]; exact setF_eq)
  have sy3 := hs3 x3 hx3
  obtain ⟨s3, hss3⟩ : ∃ s, s = sync s2 cur := ⟨_, rfl⟩
  rw [← hss3] at i3 fu3 hh3 hd3 p3 on3 hx3 ⊢
  have e4 : syncNamesE s3 = 0 := by unfold syncNamesE; rw [if_pos (refuse_ok (on3.trans on2))]; exact doE_ok fu3
  have i4 := i3.syncNames
  obtain ⟨hh4, hd4, hp4, on4, _, hf4⟩ := syncNames_is i3 e4
  have hl3 : look s3.held cur = some 1 := by rw [hh3]; exact hl2
  have on4' : (syncNames s3).on = true := (on4.trans on3).trans on2
  have e5 : fuseE (syncNames s3) (F : Int) = 0 := by unfold fuseE; rw [if_pos (refuse_ok on4'), if_neg (by omega)]
  refine ⟨e2, e3, e4, e5, ?_, ?_⟩
  · have e6 : setFuse (syncNames s3) (F : Int) = { syncNames s3 with fuse := (F : Int) } := by unfold setFuse; rw [if_pos e5]
    have i5 := i4.setFuse (F : Int) (by omega)
    rw [e6] at i5 ⊢
    refine ⟨i5, ⟨x3, hf4 1 x3 (List.mem_map.2 ⟨_, look_mem hl3, rfl⟩) hx3, hb3, by rw [sy3, hb3]; exact Nat.le_refl _⟩, by show look (syncNames s3).durable cur = _; rw [hd4]; exact hl3, ?_⟩
    show look (syncNames s3).durable nw = none
    rw [hd4, hh3, hh, m.begun.held]
    rfl
  · have e6 : setFuse (syncNames s3) (F : Int) = { syncNames s3 with fuse := (F : Int) } := by unfold setFuse; rw [if_pos e5]
    rw [e6]
    show (syncNames s3).pending = []
    rw [hp4, p3]; rfl
end Mov
theorem create_steps (σ : St) (k : Bs) : (create σ k).steps ≤ σ.steps + 1 := by
  unfold create; split
  · exact (doSt_steps _ _ _).1
  · exact Nat.le_succ _
theorem remove_steps (σ : St) (k : Bs) : (remove σ k).steps ≤ σ.steps + 1 := by
  unfold remove; split
  · exact (doSt_steps _ _ _).1
  · exact Nat.le_succ _
theorem rename_steps (σ : St) (k t : Bs) : (rename σ k t).steps ≤ σ.steps + 1 := by
  unfold rename; split
  · exact (doSt_steps _ _ _).1
  · exact Nat.le_succ _
theorem sync_steps (σ : St) (k : Bs) : (sync σ k).steps ≤ σ.steps + 1 := by
  unfold sync; split
  · exact (doSt_steps _ _ _).1
  · exact Nat.le_succ _
theorem syncNames_steps (σ : St) : (syncNames σ).steps ≤ σ.steps + 1 := by
  unfold syncNames; split
  · exact (doSt_steps _ _ _).1
  · exact Nat.le_succ _
theorem setFuse_steps (σ : St) (n : Int) : (setFuse σ n).steps = σ.steps := by unfold setFuse; split <;> rfl
theorem safe_steps (σ : St) : (safe σ).steps = σ.steps := by unfold safe; split <;> rfl
theorem alter_steps (σ : St) (k : Bs) (a : Int) (b : UInt8) : (alter σ k a b).steps = σ.steps := by
  unfold alter; split
  · split <;> rfl
  · rfl
end Vf
end Go.Proofs.YtlhnjloimhcpfabGreatDoor
