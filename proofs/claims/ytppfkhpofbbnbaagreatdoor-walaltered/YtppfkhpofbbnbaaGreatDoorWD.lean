/-
  A log whose power never goes, in plain words: what a put and what a new segment do to what the files hold. .. and what follows from it.
-/
import Derived.Test.YtppfkhpofbbnbaaGreatDoorWB
import Derived.Test.YtppfkhpofbbnbaaGreatDoorVE
namespace Go.Proofs.YtppfkhpofbbnbaaGreatDoor
open Go.Maps Go.Sort

namespace Vf
theorem sync_rest {σ : St} {k : Bs} (h : syncE σ k = 0) : (sync σ k).room = σ.room ∧ (sync σ k).used = σ.used ∧ (σ.fuse = -1 → (sync σ k).fuse = -1) := by
  obtain ⟨hf, h0⟩ := sync_done h
  have e : sync σ k = settle (fun p => decide (p.kind = 0) && decide (p.file = num σ.held k)) (tick σ) := by
    unfold sync
    rw [if_pos hf]
    unfold doSt
    rw [if_neg h0]
    rfl
  obtain ⟨r1, r2, r3, r4, r5, r6, r7⟩ := keepAll_rest ((tick σ).pending.filter fun p => decide (p.kind = 0) && decide (p.file = num σ.held k)) (tick σ)
  rw [e]
  refine ⟨r1, r2, fun hm => r4.trans ?_⟩
  show (if σ.fuse = -1 then -1 else σ.fuse - 1) = -1
  rw [if_pos hm]
theorem syncNames_rest {σ : St} (h : syncNamesE σ = 0) : (syncNames σ).room = σ.room ∧ (syncNames σ).used = σ.used ∧ (σ.fuse = -1 → (syncNames σ).fuse = -1) := by
  obtain ⟨ho, h0⟩ := syncNames_done h
  have e : syncNames σ = settle (fun p => !decide (p.kind = 0)) (tick σ) := by
    unfold syncNames
    rw [if_pos (by unfold refuse; rw [ho]; rfl)]
    unfold doSt
    rw [if_neg h0]
    rfl
  obtain ⟨r1, r2, r3, r4, r5, r6, r7⟩ := keepAll_rest ((tick σ).pending.filter fun p => !decide (p.kind = 0)) (tick σ)
  rw [e]
  refine ⟨r1, r2, fun hm => r4.trans ?_⟩
  show (if σ.fuse = -1 then -1 else σ.fuse - 1) = -1
  rw [if_pos hm]
theorem num_ne {F : Nat → Option File} {m : Nat} {D : Nm} (h : NmOk F m D) {k t : Bs} (hk : (look D k).isSome = true) (ht : (look D t).isSome = true) (hn : k ≠ t) : num D k ≠ num D t := fun e => by
  have h1 := look_mem (num_some hk)
  have h2 := look_mem (num_some ht)
  have := vals_inj h.vals h1 h2 e
  exact hn (congrArg Prod.fst this)
theorem find_same {σ τ : St} (ho : τ.on = σ.on) (hh : τ.held = σ.held) (k : Bs) : findE τ k = findE σ k := by
  unfold findE refuse
  rw [ho, hh]
theorem read_some {σ : St} {k : Bs} (hf : findE σ k = 0) {x : File} (hx : σ.files (num σ.held k) = some x) : read σ k = x.bytes := by
  unfold read bytesOf
  rw [if_pos hf, hx]
end Vf

/-- The power is on, and stays so. -/
structure Calm (σ : Vf.St) : Prop where
  inv : Vf.Inv σ
  on : σ.on = true
  fuse : σ.fuse = -1

theorem calm_put {σ : Vf.St} (h : Calm σ) {n : Nat} (hf : Vf.findE σ (Wl.seg n) = 0) {l : Vf.Bs} (hl : (l.length : Int) ≤ Vf.left σ) :
    putE σ n l = 0 ∧ Calm (putS σ n l) ∧ (putS σ n l).held = σ.held ∧ Vf.left (putS σ n l) = Vf.left σ - (l.length : Int) ∧ (putS σ n l).steps ≤ σ.steps + (l.length + 63) / 64 + 1 ∧
      Vf.read (putS σ n l) (Wl.seg n) = Vf.read σ (Wl.seg n) ++ l ∧ (∀ k, k ≠ Wl.seg n → Vf.read (putS σ n l) k = Vf.read σ k) ∧ (putS σ n l).durable = σ.durable ∧ ∃ x, (putS σ n l).files (Vf.num σ.held (Wl.seg n)) = some x ∧ x.bytes = Vf.read σ (Wl.seg n) ++ l ∧ x.synced = x.bytes.length := by
  obtain ⟨p1, p2⟩ := Vf.pour_nofuse (Vf.num σ.held (Wl.seg n)) (Vf.pieces l) σ h.fuse
  have hn : ¬ (l.length : Int) > Vf.left σ := by omega
  have eA : Vf.appendE σ (Wl.seg n) l = 0 := by
    unfold Vf.appendE
    rw [if_pos hf, if_neg hn, p1]
  have fA : (Vf.append σ (Wl.seg n) l).fuse = -1 := by
    unfold Vf.append
    rw [if_pos hf, if_neg hn, p2]
  have e1 : putE σ n l = Vf.syncE (Vf.append σ (Wl.seg n) l) (Wl.seg n) := if_pos eA
  have e2 : putS σ n l = Vf.sync (Vf.append σ (Wl.seg n) l) (Wl.seg n) := if_pos eA
  have iA := h.inv.append (Wl.seg n) l
  rcases Vf.append_is (k := Wl.seg n) (b := l) h.inv with hx | ⟨_, _, x, d, hx, _, hF, hH, hD, hP, hE, hR, hU⟩
  · exact absurd eA hx.2
  · obtain ⟨rfl, hO⟩ := hE eA
    rw [Vf.pieces_join] at hF hU
    rw [e1, e2]
    generalize Vf.append σ (Wl.seg n) l = τ at *
    have hf' : Vf.findE τ (Wl.seg n) = 0 := (Vf.find_same hO hH _).trans hf
    have eS : Vf.syncE τ (Wl.seg n) = 0 := by
      unfold Vf.syncE
      rw [if_pos hf', Vf.doE_ok fA]
    obtain ⟨sH, sD, sP, sO, sB, sF, sS⟩ := Vf.sync_is iA.1 eS
    obtain ⟨rR, rU, rF⟩ := Vf.sync_rest eS
    have on' : (Vf.sync τ (Wl.seg n)).on = true := by rw [sO, hO, h.on]
    have held' : (Vf.sync τ (Wl.seg n)).held = σ.held := sH.trans hH
    refine ⟨eS, ⟨iA.1.sync _, on', rF fA⟩, held', ?_, ?_, ?_, fun k hk => ?_, sD.trans hD, ?_⟩
    · unfold Vf.left
      rw [on', h.on, if_pos rfl, if_pos rfl, rR, rU, hR, hU]
      omega
    · have := Vf.sync_steps τ (Wl.seg n)
      have := iA.2
      omega
    · have hy : τ.files (Vf.num τ.held (Wl.seg n)) = some { x with bytes := x.bytes ++ l } := by
        rw [hF, hH]; unfold Vf.setF; rw [if_pos rfl]
      obtain ⟨z, hz, ez, _⟩ := sF _ _ hy
      rw [Vf.read_some (σ := Vf.sync τ (Wl.seg n)) ((Vf.find_same (on'.trans h.on.symm) held' _).trans hf) (x := z) (by rw [sH]; exact hz), Vf.read_some hf hx, ez]
    · by_cases hk0 : Vf.findE σ k = 0
      · have hl1 := (Vf.find_zero' hk0).2.2
        have hl2 := (Vf.find_zero' hf).2.2
        have hne := Vf.num_ne h.inv.heldOk hl1 hl2 hk
        obtain ⟨y, hy⟩ := Option.ne_none_iff_exists'.1 (h.inv.heldOk.look (Vf.num_some hl1)).1
        have hy' : τ.files (Vf.num σ.held k) = some y := by
          rw [hF]; unfold Vf.setF; rw [if_neg hne]; exact hy
        obtain ⟨z, hz, ez, _⟩ := sF _ _ hy'
        rw [Vf.read_some (σ := Vf.sync τ (Wl.seg n)) ((Vf.find_same (on'.trans h.on.symm) held' _).trans hk0) (x := z) (by rw [held']; exact hz), Vf.read_some hk0 hy, ez]
      · unfold Vf.read
        rw [if_neg hk0, if_neg (by rw [Vf.find_same (on'.trans h.on.symm) held']; exact hk0)]
    · have hy : τ.files (Vf.num τ.held (Wl.seg n)) = some { x with bytes := x.bytes ++ l } := by
        rw [hF, hH]; unfold Vf.setF; rw [if_pos rfl]
      obtain ⟨z, hz, ez, _⟩ := sF _ _ hy
      have hs := sS z hz
      rw [hH] at hz
      exact ⟨z, hz, by rw [ez, Vf.read_some hf hx], hs⟩

theorem calm_begin {σ : Vf.St} (h : Calm σ) {n : Nat} (hf : Vf.findE σ (Wl.seg n) = 4) :
    beginE σ n = 0 ∧ Calm (beginS σ n) ∧ (beginS σ n).held = Vf.put σ.held (Wl.seg n) (σ.steps + 1) ∧ Vf.left (beginS σ n) = Vf.left σ ∧ (beginS σ n).steps ≤ σ.steps + 2 ∧
      Vf.findE (beginS σ n) (Wl.seg n) = 0 ∧ Vf.read (beginS σ n) (Wl.seg n) = [] ∧ (∀ k, k ≠ Wl.seg n → Vf.findE (beginS σ n) k = Vf.findE σ k ∧ Vf.read (beginS σ n) k = Vf.read σ k) ∧ (beginS σ n).durable = (beginS σ n).held := by
  have h0 : σ.fuse ≠ 0 := by have := h.fuse; omega
  have eC : Vf.createE σ (Wl.seg n) = 0 := by
    unfold Vf.createE
    rw [if_neg (by omega), if_pos hf, Vf.doE_ok h.fuse]
  have es : Vf.create σ (Wl.seg n) = { Vf.tick σ with files := Vf.setF σ.files (σ.steps + 1) (some ⟨[], 0⟩), held := Vf.put σ.held (Wl.seg n) (σ.steps + 1), pending := σ.pending ++ [⟨1, σ.steps + 1, 0, Wl.seg n, []⟩] } := by
    unfold Vf.create
    rw [if_pos hf]
    unfold Vf.doSt
    rw [if_neg h0]
    rfl
  have iC := h.inv.create (Wl.seg n)
  have e1 : beginE σ n = Vf.syncNamesE (Vf.create σ (Wl.seg n)) := if_pos eC
  have e2 : beginS σ n = Vf.syncNames (Vf.create σ (Wl.seg n)) := if_pos eC
  have tC := Vf.create_steps σ (Wl.seg n)
  have fC : (Vf.create σ (Wl.seg n)).fuse = -1 := by
    rw [es]
    show (if σ.fuse = -1 then -1 else σ.fuse - 1) = -1
    rw [if_pos h.fuse]
  have oC : (Vf.create σ (Wl.seg n)).on = true := by rw [es]; exact h.on
  have hC : (Vf.create σ (Wl.seg n)).held = Vf.put σ.held (Wl.seg n) (σ.steps + 1) := by rw [es]
  have FC : (Vf.create σ (Wl.seg n)).files = Vf.setF σ.files (σ.steps + 1) (some ⟨[], 0⟩) := by rw [es]
  have rC : (Vf.create σ (Wl.seg n)).room = σ.room ∧ (Vf.create σ (Wl.seg n)).used = σ.used := by rw [es]; exact ⟨rfl, rfl⟩
  rw [e1, e2]
  clear es e1 e2
  generalize Vf.create σ (Wl.seg n) = τ at *
  have eN : Vf.syncNamesE τ = 0 := by
    unfold Vf.syncNamesE
    rw [if_pos (Vf.refuse_ok oC), Vf.doE_ok fC]
  obtain ⟨nH, nD, nP, nO, nB, nF⟩ := Vf.syncNames_is iC eN
  obtain ⟨rR, rU, rF⟩ := Vf.syncNames_rest eN
  have on' : (Vf.syncNames τ).on = true := nO.trans oC
  have held' : (Vf.syncNames τ).held = Vf.put σ.held (Wl.seg n) (σ.steps + 1) := nH.trans hC
  have hfi := (Vf.find_four hf).2.1
  have look1 : Vf.look (Vf.put σ.held (Wl.seg n) (σ.steps + 1)) (Wl.seg n) = some (σ.steps + 1) := by
    unfold Vf.put Vf.look
    rw [if_pos rfl]
  have hfN : Vf.findE (Vf.syncNames τ) (Wl.seg n) = 0 := Vf.find_ok on' hfi (by rw [held', look1]; rfl)
  refine ⟨eN, ⟨iC.syncNames, on', rF fC⟩, held', ?_, ?_, hfN, ?_, fun k hk => ?_, nD.trans nH.symm⟩
  · unfold Vf.left
    rw [on', h.on, rR, rU, rC.1, rC.2]
  · have := Vf.syncNames_steps τ
    omega
  · have hy : τ.files (σ.steps + 1) = some ⟨[], 0⟩ := by rw [FC]; exact Vf.setF_eq
    have hm : σ.steps + 1 ∈ τ.held.map (·.2) := List.mem_map.2 ⟨_, Vf.look_mem (hC ▸ look1), rfl⟩
    have hz := nF _ _ hm hy
    have hnum : Vf.num (Vf.syncNames τ).held (Wl.seg n) = σ.steps + 1 := by unfold Vf.num; rw [held', look1]; rfl
    exact Vf.read_some hfN (x := ⟨[], 0⟩) (by rw [hnum]; exact hz)
  · have hlk : Vf.look (Vf.put σ.held (Wl.seg n) (σ.steps + 1)) k = Vf.look σ.held k := by rw [Vf.look_put, if_neg hk]
    have hfk : Vf.findE (Vf.syncNames τ) k = Vf.findE σ k := by
      unfold Vf.findE Vf.refuse
      rw [on', h.on, held', hlk]
    refine ⟨hfk, ?_⟩
    by_cases hk0 : Vf.findE σ k = 0
    · have hl1 := (Vf.find_zero' hk0).2.2
      have hs := Vf.num_some hl1
      obtain ⟨y, hy⟩ := Option.ne_none_iff_exists'.1 (h.inv.heldOk.look hs).1
      have hle := (h.inv.heldOk.look hs).2.2
      have hnum : Vf.num (Vf.syncNames τ).held k = Vf.num σ.held k := by unfold Vf.num; rw [held', hlk]
      have hy' : τ.files (Vf.num σ.held k) = some y := by rw [FC]; exact (Vf.setF_ne (by omega)).trans hy
      have hm : Vf.num σ.held k ∈ τ.held.map (·.2) := List.mem_map.2 ⟨_, Vf.look_mem (by rw [hC, hlk]; exact hs), rfl⟩
      have hz := nF _ _ hm hy'
      rw [Vf.read_some (σ := Vf.syncNames τ) (hfk.trans hk0) (x := y) (by rw [hnum]; exact hz), Vf.read_some hk0 hy]
    · unfold Vf.read
      rw [if_neg hk0, if_neg (by rw [hfk]; exact hk0)]

/-- The names, where they were a rising list and a higher one comes. -/
theorem names_roll {σ τ : Vf.St} (iσ : Vf.Inv σ) (ho : σ.on = true) (hτ : τ.on = true) {k : Vf.Bs} {n : Nat} (hh : τ.held = Vf.put σ.held k n) (hk : Vf.look σ.held k = none) (hr : ∀ x ∈ namesOf σ, x < k) : namesOf τ = namesOf σ ++ [k] := by
  have hdel : Vf.del σ.held k = σ.held := by
    unfold Vf.del
    rw [List.filter_eq_self]
    intro p hp
    have : p.1 ≠ k := fun e => by
      have h1 := Vf.mem_look iσ.heldOk.keys (k := p.1) (n := p.2) hp
      rw [e, hk] at h1
      cases h1
    simp [this]
  have e : namesOf τ = rising (k :: σ.held.map (·.1)) := by
    unfold namesOf
    rw [if_pos hτ, hh]
    show rising ((Vf.put σ.held k n).map (·.1)) = _
    unfold Vf.put
    rw [hdel]
    rfl
  have e2 : namesOf σ = rising (σ.held.map (·.1)) := by unfold namesOf; rw [if_pos ho]
  rw [e]
  have p1 : (rising (k :: σ.held.map (·.1))).Perm (namesOf σ ++ [k]) := by
    unfold rising
    refine (List.mergeSort_perm _ _).trans ?_
    refine List.Perm.trans ?_ (List.perm_append_comm)
    refine List.Perm.cons _ ?_
    rw [e2]
    exact (List.mergeSort_perm _ _).symm
  have tr : ∀ a b c : Vf.Bs, decide (a ≤ b) = true → decide (b ≤ c) = true → decide (a ≤ c) = true := fun a b c h1 h2 => by
    simp only [decide_eq_true_eq] at *
    exact List.le_trans h1 h2
  have tot : ∀ a b : Vf.Bs, (decide (a ≤ b) || decide (b ≤ a)) = true := fun a b => by
    simp only [Bool.or_eq_true, decide_eq_true_eq]
    exact List.le_total a b
  have s1 : (rising (k :: σ.held.map (·.1))).Pairwise (fun x y => decide (x ≤ y) = true) := List.pairwise_mergeSort tr tot _
  have s2 : (namesOf σ ++ [k]).Pairwise (fun x y => decide (x ≤ y) = true) := by
    rw [List.pairwise_append]
    refine ⟨by rw [e2]; exact List.pairwise_mergeSort tr tot _, by simp, fun a ha b hb => ?_⟩
    obtain rfl := List.mem_singleton.1 hb
    simp only [decide_eq_true_eq]
    exact List.le_of_lt (hr a ha)
  exact List.Perm.eq_of_pairwise (fun a b _ _ h1 h2 => by
    simp only [decide_eq_true_eq] at h1 h2
    exact List.le_antisymm h1 h2) s1 s2 p1
end Go.Proofs.YtppfkhpofbbnbaaGreatDoor
namespace Go.Proofs.YtppfkhpofbbnbaaGreatDoor
open Go.Maps Go.Sort

namespace Alt
def z0 : Vf.St := Vf.new 16777216
def z1 : Vf.St := beginS z0 1
def st (l : List (List Wl.Wr)) : Nat → Vf.St
  | 0 => z1
  | i + 1 => putS (st l i) 1 (frB (i + 1) (l.getD i []))
def recs (l : List (List Wl.Wr)) : Nat → List Wl.Bs
  | 0 => []
  | i + 1 => recs l i ++ [Wl.record (i + 1) (l.getD i [])]
def dat (l : List (List Wl.Wr)) : Nat → Wl.Bs
  | 0 => []
  | i + 1 => dat l i ++ frB (i + 1) (l.getD i [])

/-- The one segment holds just these bytes, all of them synced. -/
structure Ok (σ : Vf.St) (D : Wl.Bs) (m : Nat) : Prop where
  calm : Calm σ
  dur : σ.durable = σ.held
  nm : namesOf σ = [1].map Wl.seg
  fd : Vf.findE σ (Wl.seg 1) = 0
  file : ∃ x, σ.files (Vf.num σ.held (Wl.seg 1)) = some x ∧ x.bytes = D ∧ x.synced = D.length
  left : Vf.left σ = 16777216 - (D.length : Int)
  steps : σ.steps ≤ m

theorem Ok.read {σ : Vf.St} {D : Wl.Bs} {m : Nat} (h : Ok σ D m) : Vf.read σ (Wl.seg 1) = D := by
  obtain ⟨x, hx, e, _⟩ := h.file
  rw [Vf.read_some h.fd hx, e]

theorem ok0 : Ok z1 [] 2 := by
  have c0 : Calm z0 := ⟨Vf.Inv.new (by decide), rfl, rfl⟩
  obtain ⟨_, c1, h1, h2, h3, h4, h5, _, h7⟩ := calm_begin c0 (n := 1) (by decide +kernel)
  refine ⟨c1, h7, by decide +kernel, h4, ?_, h2, h3⟩
  obtain ⟨x, hx⟩ := Option.ne_none_iff_exists'.1 (c1.inv.heldOk.look (Vf.num_some (Vf.find_zero' h4).2.2)).1
  have e := Vf.read_some h4 hx
  have h5' : Vf.read z1 (Wl.seg 1) = [] := h5
  have e' : Vf.read z1 (Wl.seg 1) = x.bytes := e
  rw [h5'] at e'
  have hs : x.synced ≤ x.bytes.length := by have := c1.inv.pend _ x hx; omega
  rw [← e'] at hs
  exact ⟨x, hx, e'.symm, by simpa using hs⟩

theorem names_same {σ τ : Vf.St} (ho : τ.on = σ.on) (hh : τ.held = σ.held) : namesOf τ = namesOf σ := by unfold namesOf; rw [ho, hh]

theorem Ok.put {σ : Vf.St} {D : Wl.Bs} {m : Nat} (h : Ok σ D m) {l : Wl.Bs} (hl : l.length ≤ 302012) (hr : D.length + l.length ≤ 16777216) : putE σ 1 l = 0 ∧ Ok (putS σ 1 l) (D ++ l) (m + 5000) := by
  have hleft := h.left
  obtain ⟨e, c, hh, hle, hst, hrd, _, hd, x, hx, hb, hs⟩ := calm_put h.calm h.fd (l := l) (by omega)
  rw [h.read] at hb
  refine ⟨e, ⟨c, by rw [hd, hh]; exact h.dur, by rw [names_same (c.on.trans h.calm.on.symm) hh]; exact h.nm, (Vf.find_same (c.on.trans h.calm.on.symm) hh _).trans h.fd, ⟨x, by rw [hh]; exact hx, hb, by rw [hs, hb]⟩, ?_, ?_⟩⟩
  · rw [hle, hleft, List.length_append]; omega
  · have := h.steps; omega

theorem frB_len {q : Nat} {l : List Wl.Wr} (hq : q ≤ 1073741824) (hk : Wl.checkE l = 0) : (frB q l).length ≤ 302012 := by
  have := Wl.record_len q l hq hk
  unfold frB
  rw [frm_length]
  omega

theorem ok_st (l : List (List Wl.Wr)) : ∀ i, i ≤ 30 → (∀ j, j < i → Wl.checkE (l.getD j []) = 0) → Ok (st l i) (dat l i) (2 + 5000 * i) ∧ (dat l i).length ≤ 302012 * i
  | 0, _, _ => ⟨ok0, Nat.zero_le _⟩
  | i + 1, hi, hk => by
    obtain ⟨h, hd⟩ := ok_st l i (by omega) (fun j hj => hk j (by omega))
    have hf := frB_len (q := i + 1) (by omega) (hk i (by omega))
    have := (h.put hf (by omega)).2
    refine ⟨?_, ?_⟩
    · have e : 2 + 5000 * (i + 1) = 2 + 5000 * i + 5000 := by omega
      rw [e]
      exact this
    · show (dat l i ++ frB (i + 1) (l.getD i [])).length ≤ _
      rw [List.length_append]
      omega

theorem Ok.alter {σ : Vf.St} {D : Wl.Bs} {m : Nat} (h : Ok σ D m) {at_ : Nat} (ha : at_ < D.length) (bits : UInt8) : Vf.alterE σ (Wl.seg 1) (at_ : Int) = 0 ∧ Ok (Vf.alter σ (Wl.seg 1) (at_ : Int) bits) (D.set at_ (D[at_] ^^^ bits)) m := by
  obtain ⟨x, hx, hb, hs⟩ := h.file
  have hf := (Vf.find_zero' h.fd).2.1
  have hx' : σ.files (Vf.num σ.durable (Wl.seg 1)) = some x := by rw [h.dur]; exact hx
  have eA : Vf.alterE σ (Wl.seg 1) (at_ : Int) = 0 := by
    unfold Vf.alterE
    rw [if_pos hf, hx']
    show (if (at_ : Int) < 0 ∨ (at_ : Int) ≥ (x.synced : Int) then (2 : Int) else 0) = 0
    rw [if_neg (by omega)]
  have eS : Vf.alter σ (Wl.seg 1) (at_ : Int) bits = { σ with files := Vf.setF σ.files (Vf.num σ.durable (Wl.seg 1)) (some { x with bytes := x.bytes.set at_ ((x.bytes[at_]?.getD 0) ^^^ bits) }) } := by
    unfold Vf.alter
    rw [if_pos eA, hx']
    rfl
  have hi := h.calm.inv.alter (Wl.seg 1) (at_ : Int) bits
  refine ⟨eA, ?_⟩
  rw [eS] at hi ⊢
  refine ⟨⟨hi, h.calm.on, h.calm.fuse⟩, h.dur, (names_same (σ := σ) rfl rfl).trans h.nm, (Vf.find_same (σ := σ) rfl rfl _).trans h.fd, ⟨{ x with bytes := x.bytes.set at_ ((x.bytes[at_]?.getD 0) ^^^ bits) }, ?_, ?_, ?_⟩, ?_, h.steps⟩
  · show Vf.setF σ.files (Vf.num σ.durable (Wl.seg 1)) _ (Vf.num σ.held (Wl.seg 1)) = _
    rw [h.dur]
    exact Vf.setF_eq
  · subst hb
    show x.bytes.set at_ ((x.bytes[at_]?.getD 0) ^^^ bits) = _
    rw [List.getElem?_eq_getElem ha]
    rfl
  · rw [List.length_set]; exact hs
  · rw [List.length_set]; exact h.left

theorem dat_frms (l : List (List Wl.Wr)) : ∀ i, dat l i = frms (recs l i)
  | 0 => rfl
  | i + 1 => by
    show dat l i ++ frm (Wl.record (i + 1) (l.getD i [])) = frms (recs l i ++ [Wl.record (i + 1) (l.getD i [])])
    rw [dat_frms l i, frms_append, frms_one]

theorem recs_len (l : List (List Wl.Wr)) : ∀ i, i ≤ 30 → (∀ j, j < i → Wl.checkE (l.getD j []) = 0) → ∀ r ∈ recs l i, r.length ≤ 1048576
  | 0, _, _, r, hr => by cases hr
  | i + 1, hi, hk, r, hr => by
    rcases List.mem_append.1 hr with h | h
    · exact recs_len l i (by omega) (fun j hj => hk j (by omega)) r h
    · obtain rfl := List.mem_singleton.1 h
      have := Wl.record_len (i + 1) (l.getD i []) (by omega) (hk i (by omega))
      omega

/-- What lies behind the first k frames. -/
theorem dat_pre (l : List (List Wl.Wr)) (k : Nat) : ∀ i, k ≤ i → ∃ t, dat l i = dat l k ++ t
  | 0, h => ⟨[], by have : k = 0 := by omega
                    subst this; simp⟩
  | i + 1, h => by
    rcases Nat.eq_or_lt_of_le h with e | h'
    · subst e; exact ⟨[], by simp⟩
    · obtain ⟨t, e⟩ := dat_pre l k i (by omega)
      exact ⟨t ++ frB (i + 1) (l.getD i []), by show dat l i ++ _ = _; rw [e, List.append_assoc]⟩

theorem altered_none (l : List (List Wl.Wr)) (k : Nat) (hk : k < 30) (hok : ∀ j, j ≤ k → Wl.checkE (l.getD j []) = 0) (p c : Nat) (hc : c < 4294967296) (h0 : c ≠ 0) (hin : ∀ i, i < 32 → c.testBit i = true → p + i < 8 * (frB (k + 1) (l.getD k [])).length) (t : Wl.Bs) :
    Wl.segB (dat l k ++ (Crc.burst (frB (k + 1) (l.getD k [])) p c 32 ++ t)) = none := by
  have hr := Wl.record_len (k + 1) (l.getD k []) (by omega) (hok k (Nat.le_refl _))
  have h6 := read_altered (Wl.record (k + 1) (l.getD k [])) t p c (by omega) hc h0 hin
  have := scn_altered (recs l k) _ t (recs_len l k (by omega) (fun j hj => hok j (by omega))) h6
  unfold Wl.segB
  rw [dat_frms, if_pos]
  exact (congrArg (fun x => x.2.2) this)
end Alt
end Go.Proofs.YtppfkhpofbbnbaaGreatDoor
