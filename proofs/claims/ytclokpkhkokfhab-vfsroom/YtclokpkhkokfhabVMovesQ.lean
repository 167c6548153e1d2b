/-
  How it begins: the old file is made, and synced, and named durably.
-/
import Derived.Test.YtclokpkhkokfhabVMovesP
namespace Go.Proofs.Ytclokpkhkokfhab
namespace Vf

theorem find_ok {σ : St} {k : Bs} (ho : σ.on = true) (hf : fine k = true) (hl : (look σ.held k).isSome = true) : findE σ k = 0 := by
  unfold findE refuse
  simp [ho, hf, hl]
theorem doE_ok {σ : St} (h : σ.fuse = -1) : doE σ = 0 := by unfold doE; rw [if_neg (by omega)]
theorem refuse_ok {σ : St} (h : σ.on = true) : refuse σ [] = 0 := by unfold refuse; rw [h]; rfl

/-- A file that was made in an empty file system, filled, synced, and named durably. -/
structure Begun (key b : Bs) (σ : St) : Prop where
  inv : Inv σ
  on : σ.on = true
  fuse : σ.fuse = -1
  held : σ.held = [(key, 1)]
  steps : σ.steps ≤ 3 + (b.length + 63) / 64
  room : σ.room = 1048576

structure Made (key : Bs) (σ : St) : Prop where
  begun : Begun key [] σ
  pend : σ.pending = [⟨1, 1, 0, key, []⟩]
  dur : σ.durable = []
  file : σ.files 1 = some ⟨[], 0⟩
  used : σ.used = 0
  one : σ.steps = 1
theorem made_create (key : Bs) (hk : fine key = true) : createE (new 1048576) key = 0 ∧ Made key (create (new 1048576) key) := by
  have h4 : findE (new 1048576) key = 4 := by
    unfold findE refuse new
    simp [hk, look]
  have e : create (new 1048576) key = ⟨1048576, 0, true, -1, 1, setF (fun _ => none) 1 (some ⟨[], 0⟩), put [] key 1, [], [⟨1, 1, 0, key, []⟩]⟩ := by
    unfold create
    rw [if_pos h4]
    rfl
  refine ⟨?_, ?_⟩
  · unfold createE
    rw [if_neg (by rw [h4]; decide), if_pos h4]
    rfl
  · have hi := (Inv.new (room := 1048576) (by decide)).create key
    rw [e] at hi ⊢
    exact ⟨⟨hi, rfl, rfl, rfl, by show 1 ≤ _; omega, rfl⟩, rfl, rfl, rfl, rfl, rfl⟩

namespace Mov
theorem begin_old (old : Bs) (hl : old.length ≤ 400) (F : Nat) (hF : F ≤ 9223372036854775807) :
    appendE (create (new 1048576) cur) cur old = 0 ∧ syncE (append (create (new 1048576) cur) cur old) cur = 0 ∧ syncNamesE (sync (append (create (new 1048576) cur) cur old) cur) = 0 ∧ fuseE (syncNames (sync (append (create (new 1048576) cur) cur old) cur)) (F : Int) = 0 ∧
      Old old (setFuse (syncNames (sync (append (create (new 1048576) cur) cur old) cur)) (F : Int)) 1 ∧ (setFuse (syncNames (sync (append (create (new 1048576) cur) cur old) cur)) (F : Int)).pending = [] := by
  obtain ⟨_, m⟩ := made_create cur fine_cur
  obtain ⟨s1, hs1⟩ : ∃ s, s = create (new 1048576) cur := ⟨_, rfl⟩
  rw [← hs1] at m ⊢
  have hl1 : look s1.held cur = some 1 := by rw [m.begun.held]; rfl
  have hn1 : num s1.held cur = 1 := by unfold num; rw [hl1]; rfl
  have hf1 : findE s1 cur = 0 := find_ok m.begun.on fine_cur (by rw [hl1]; rfl)
  have hleft : ¬ (old.length : Int) > left s1 := by
    unfold left
    rw [m.begun.on, m.begun.room, m.used]
    simp
    omega
  have hp1 := pour_nofuse (num s1.held cur) (pieces old) s1 m.begun.fuse
  have e2 : appendE s1 cur old = 0 := by
    unfold appendE
    rw [if_pos hf1, if_neg hleft]
    exact hp1.1
  have i2 := (m.begun.inv.append cur old).1
  have fu2 : (append s1 cur old).fuse = -1 := by
    unfold append
    rw [if_pos hf1, if_neg hleft]
    exact hp1.2
  rcases append_is (k := cur) (b := old) m.begun.inv with ⟨_, hne⟩ | ⟨_, _, x, ps, hx, hpre, hf, hh, hd, hpd, hdone, _, _⟩
  · exact absurd e2 hne
  obtain ⟨d1, d2⟩ := hdone e2
  rw [hn1] at hx hf hpd
  have ex : x = ⟨[], 0⟩ := by rw [m.file] at hx; exact (Option.some.inj hx).symm
  subst ex
  subst d1
  rw [pieces_join] at hf
  obtain ⟨s2, hs2⟩ : ∃ s, s = append s1 cur old := ⟨_, rfl⟩
  rw [← hs2] at i2 fu2 hf hh hd hpd d2 ⊢
  have hl2 : look s2.held cur = some 1 := by rw [hh]; exact hl1
  have hn2 : num s2.held cur = 1 := by unfold num; rw [hl2]; rfl
  have on2 : s2.on = true := d2.trans m.begun.on
  have hf2 : findE s2 cur = 0 := find_ok on2 fine_cur (by rw [hl2]; rfl)
  have e3 : syncE s2 cur = 0 := by unfold syncE; rw [if_pos hf2]; exact doE_ok fu2
  have i3 := i2.sync cur
  have fu3 : (sync s2 cur).fuse = -1 := by
    unfold sync
    rw [if_pos hf2]
    unfold doSt
    rw [if_neg (by omega), (act_steps (tick s2) _ _).2.1]
    show (if s2.fuse = -1 then -1 else s2.fuse - 1) = -1
    rw [if_pos fu2]
  obtain ⟨hh3, hd3, hp3, on3, _, hk3, hs3⟩ := sync_is i2 e3
  rw [hn2] at hp3 hs3
  have p3 : (sync s2 cur).pending = [⟨1, 1, 0, cur, []⟩] := by
    rw [hp3, hpd, m.pend]
    show List.filter _ (_ :: Vf.writes 1 (pieces old)) = _
    rw [List.filter_cons]
    show (if true = true then _ else _) = _
    rw [if_pos rfl]
    congr 1
    rw [List.filter_eq_nil_iff]
    intro s hs
    obtain ⟨p, _, rfl⟩ := List.mem_map.1 hs
    simp
  obtain ⟨x3, hx3, hb3, _⟩ := hk3 1 ⟨old, 0⟩ (by rw [hf]; exact setF_eq)
  have sy3 := hs3 x3 hx3
  obtain ⟨s3, hss3⟩ : ∃ s, s = sync s2 cur := ⟨_, rfl⟩
  rw [← hss3] at i3 fu3 hh3 hd3 p3 on3 hx3 ⊢
  have e4 : syncNamesE s3 = 0 := by unfold syncNamesE; rw [if_pos (refuse_ok (on3.trans on2))]; exact doE_ok fu3
  have i4 := i3.syncNames
  obtain ⟨hh4, hd4, hp4, on4, _, hf4⟩ := syncNames_is i3 e4
  have hl3 : look s3.held cur = some 1 := by rw [hh3]; exact hl2
  have on4' : (syncNames s3).on = true := (on4.trans on3).trans on2
  have e5 : fuseE (syncNames s3) (F : Int) = 0 := by unfold fuseE; rw [if_pos (refuse_ok on4'), if_neg (by omega)]
  refine ⟨e2, e3, e4, e5, ?_, ?_⟩
  · have e6 : setFuse (syncNames s3) (F : Int) = { syncNames s3 with fuse := (F : Int) } := by unfold setFuse; rw [if_pos e5]
    have i5 := i4.setFuse (F : Int) (by omega)
    rw [e6] at i5 ⊢
    refine ⟨i5, ⟨x3, hf4 1 x3 (List.mem_map.2 ⟨_, look_mem hl3, rfl⟩) hx3, hb3, by rw [sy3, hb3]; exact Nat.le_refl _⟩, by show look (syncNames s3).durable cur = _; rw [hd4]; exact hl3, ?_⟩
    show look (syncNames s3).durable nw = none
    rw [hd4, hh3, hh, m.begun.held]
    rfl
  · have e6 : setFuse (syncNames s3) (F : Int) = { syncNames s3 with fuse := (F : Int) } := by unfold setFuse; rw [if_pos e5]
    rw [e6]
    show (syncNames s3).pending = []
    rw [hp4, p3]; rfl
end Mov
theorem create_steps (σ : St) (k : Bs) : (create σ k).steps ≤ σ.steps + 1 := by
  unfold create; split
  · exact (doSt_steps _ _ _).1
  · exact Nat.le_succ _
theorem remove_steps (σ : St) (k : Bs) : (remove σ k).steps ≤ σ.steps + 1 := by
  unfold remove; split
  · exact (doSt_steps _ _ _).1
  · exact Nat.le_succ _
theorem rename_steps (σ : St) (k t : Bs) : (rename σ k t).steps ≤ σ.steps + 1 := by
  unfold rename; split
  · exact (doSt_steps _ _ _).1
  · exact Nat.le_succ _
theorem sync_steps (σ : St) (k : Bs) : (sync σ k).steps ≤ σ.steps + 1 := by
  unfold sync; split
  · exact (doSt_steps _ _ _).1
  · exact Nat.le_succ _
theorem syncNames_steps (σ : St) : (syncNames σ).steps ≤ σ.steps + 1 := by
  unfold syncNames; split
  · exact (doSt_steps _ _ _).1
  · exact Nat.le_succ _
theorem setFuse_steps (σ : St) (n : Int) : (setFuse σ n).steps = σ.steps := by unfold setFuse; split <;> rfl
theorem safe_steps (σ : St) : (safe σ).steps = σ.steps := by unfold safe; split <;> rfl
theorem alter_steps (σ : St) (k : Bs) (a : Int) (b : UInt8) : (alter σ k a b).steps = σ.steps := by
  unfold alter; split
  · split <;> rfl
  · rfl
end Vf
end Go.Proofs.Ytclokpkhkokfhab
