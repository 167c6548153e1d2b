/-
  A file system whose power never goes, in plain words: what bytes that are appended and synced do to what the files hold. .. and what follows from it.
-/
import Derived.Test.YtlhnjloimhcpfabGreatDoorYF
import Derived.Test.YtlhnjloimhcpfabGreatDoorVE
import Derived.Test.YtlhnjloimhcpfabGreatDoorYX
import Derived.Test.YtlhnjloimhcpfabGreatDoorYG
import Derived.Test.YtlhnjloimhcpfabGreatDoorYO
namespace Go.Proofs.YtlhnjloimhcpfabGreatDoor
open Go.Maps Go.Sort

namespace Vf

theorem sync_restK {σ : St} {k : Bs} (h : syncE σ k = 0) : (sync σ k).room = σ.room ∧ (sync σ k).used = σ.used ∧ (σ.fuse = -1 → (sync σ k).fuse = -1) := by
  obtain ⟨hf, h0⟩ := sync_done h
  have e : sync σ k = settle (fun p => decide (p.kind = 0) && decide (p.file = num σ.held k)) (tick σ) := by
    unfold sync
    rw [if_pos hf]
    unfold doSt
    rw [if_neg h0]
    rfl
  obtain ⟨r1, r2, r3, r4, r5, r6, r7⟩ := keepAll_rest ((tick σ).pending.filter fun p => decide (p.kind = 0) && decide (p.file = num σ.held k)) (tick σ)
  rw [e]
  refine ⟨r1, r2, fun hm => r4.trans ?_⟩
  show (if σ.fuse = -1 then -1 else σ.fuse - 1) = -1
  rw [if_pos hm]
theorem num_neK {F : Nat → Option File} {m : Nat} {D : Nm} (h : NmOk F m D) {k t : Bs} (hk : (look D k).isSome = true) (ht : (look D t).isSome = true) (hn : k ≠ t) : num D k ≠ num D t := fun e => by
  have h1 := look_mem (num_some hk)
  have h2 := look_mem (num_some ht)
  have := vals_inj h.vals h1 h2 e
  exact hn (congrArg Prod.fst this)
theorem find_sameK {σ τ : St} (ho : τ.on = σ.on) (hh : τ.held = σ.held) (k : Bs) : findE τ k = findE σ k := by
  unfold findE refuse
  rw [ho, hh]
theorem read_someK {σ : St} {k : Bs} (hf : findE σ k = 0) {x : File} (hx : σ.files (num σ.held k) = some x) : read σ k = x.bytes := by
  unfold read bytesOf
  rw [if_pos hf, hx]
end Vf

namespace Vk
/-- The power is on, and stays so. -/
structure Calm (σ : Vf.St) : Prop where
  inv : Vf.Inv σ
  on : σ.on = true
  fuse : σ.fuse = -1

theorem calm_app {σ : Vf.St} (h : Calm σ) {N : Vf.Bs} (hf : Vf.findE σ N = 0) {l : Vf.Bs} (hl : (l.length : Int) ≤ Vf.left σ) :
    Mf.appE σ N l = 0 ∧ Calm (Mf.appS σ N l) ∧ (Mf.appS σ N l).held = σ.held ∧ Vf.left (Mf.appS σ N l) = Vf.left σ - (l.length : Int) ∧ (Mf.appS σ N l).steps ≤ σ.steps + (l.length + 63) / 64 + 1 ∧
      Vf.read (Mf.appS σ N l) N = Vf.read σ N ++ l ∧ (∀ k, k ≠ N → Vf.read (Mf.appS σ N l) k = Vf.read σ k) ∧ (∀ k, k ≠ N → Vf.findE σ k = 0 → ∀ y, σ.files (Vf.num σ.held k) = some y → ∃ z, (Mf.appS σ N l).files (Vf.num σ.held k) = some z ∧ z.bytes = y.bytes ∧ y.synced ≤ z.synced) ∧ (Mf.appS σ N l).durable = σ.durable ∧ ∃ x, (Mf.appS σ N l).files (Vf.num σ.held N) = some x ∧ x.bytes = Vf.read σ N ++ l ∧ x.synced = x.bytes.length := by
  obtain ⟨p1, p2⟩ := Vf.pour_nofuse (Vf.num σ.held N) (Vf.pieces l) σ h.fuse
  have hn : ¬ (l.length : Int) > Vf.left σ := by omega
  have eA : Vf.appendE σ N l = 0 := by
    unfold Vf.appendE
    rw [if_pos hf, if_neg hn, p1]
  have fA : (Vf.append σ N l).fuse = -1 := by
    unfold Vf.append
    rw [if_pos hf, if_neg hn, p2]
  have e1 : Mf.appE σ N l = Vf.syncE (Vf.append σ N l) N := if_pos eA
  have e2 : Mf.appS σ N l = Vf.sync (Vf.append σ N l) N := if_pos eA
  have iA := h.inv.append N l
  rcases Vf.append_is (k := N) (b := l) h.inv with hx | ⟨_, _, x, d, hx, _, hF, hH, hD, hP, hE, hR, hU⟩
  · exact absurd eA hx.2
  · obtain ⟨rfl, hO⟩ := hE eA
    rw [Vf.pieces_join] at hF hU
    rw [e1, e2]
    generalize Vf.append σ N l = τ at *
    have hf' : Vf.findE τ N = 0 := (Vf.find_sameK hO hH _).trans hf
    have eS : Vf.syncE τ N = 0 := by
      unfold Vf.syncE
      rw [if_pos hf', Vf.doE_ok fA]
    obtain ⟨sH, sD, sP, sO, sB, sF, sS⟩ := Vf.sync_is iA.1 eS
    obtain ⟨rR, rU, rF⟩ := Vf.sync_restK eS
    have on' : (Vf.sync τ N).on = true := by rw [sO, hO, h.on]
    have held' : (Vf.sync τ N).held = σ.held := sH.trans hH
    refine ⟨eS, ⟨iA.1.sync _, on', rF fA⟩, held', ?_, ?_, ?_, fun k hk => ?_, fun k hk hk0 y hy => ?_, sD.trans hD, ?_⟩
    · unfold Vf.left
      rw [on', h.on, if_pos rfl, if_pos rfl, rR, rU, hR, hU]
      omega
    · have := Vf.sync_steps τ N
      have := iA.2
      omega
    · have hy : τ.files (Vf.num τ.held N) = some { x with bytes := x.bytes ++ l } := by
        rw [hF, hH]; unfold Vf.setF; rw [if_pos rfl]
      obtain ⟨z, hz, ez, _⟩ := sF _ _ hy
      rw [Vf.read_someK (σ := Vf.sync τ N) ((Vf.find_sameK (on'.trans h.on.symm) held' _).trans hf) (x := z) (by rw [sH]; exact hz), Vf.read_someK hf hx, ez]
    · by_cases hk0 : Vf.findE σ k = 0
      · have hl1 := (Vf.find_zero' hk0).2.2
        have hl2 := (Vf.find_zero' hf).2.2
        have hne := Vf.num_neK h.inv.heldOk hl1 hl2 hk
        obtain ⟨y, hy⟩ := Option.ne_none_iff_exists'.1 (h.inv.heldOk.look (Vf.num_some hl1)).1
        have hy' : τ.files (Vf.num σ.held k) = some y := by
          rw [hF]; unfold Vf.setF; rw [if_neg hne]; exact hy
        obtain ⟨z, hz, ez, _⟩ := sF _ _ hy'
        rw [Vf.read_someK (σ := Vf.sync τ N) ((Vf.find_sameK (on'.trans h.on.symm) held' _).trans hk0) (x := z) (by rw [held']; exact hz), Vf.read_someK hk0 hy, ez]
      · unfold Vf.read
        rw [if_neg hk0, if_neg (by rw [Vf.find_sameK (on'.trans h.on.symm) held']; exact hk0)]
    · have hl1 := (Vf.find_zero' hk0).2.2
      have hl2 := (Vf.find_zero' hf).2.2
      have hne := Vf.num_neK h.inv.heldOk hl1 hl2 hk
      have hy' : τ.files (Vf.num σ.held k) = some y := by
        rw [hF]; unfold Vf.setF; rw [if_neg hne]; exact hy
      exact sF _ _ hy'
    · have hy : τ.files (Vf.num τ.held N) = some { x with bytes := x.bytes ++ l } := by
        rw [hF, hH]; unfold Vf.setF; rw [if_pos rfl]
      obtain ⟨z, hz, ez, _⟩ := sF _ _ hy
      have hs := sS z hz
      rw [hH] at hz
      exact ⟨z, hz, by rw [ez, Vf.read_someK hf hx], hs⟩

/-- Two files hold just these bytes, all of them synced; there is so much room. -/
structure Two (room : Int) (σ : Vf.St) (N D N2 D2 : Vf.Bs) (m : Nat) : Prop where
  calm : Calm σ
  dur : σ.durable = σ.held
  ne : N ≠ N2
  fd : Vf.findE σ N = 0
  file : ∃ x, σ.files (Vf.num σ.held N) = some x ∧ x.bytes = D ∧ x.synced = D.length
  fd2 : Vf.findE σ N2 = 0
  file2 : ∃ x, σ.files (Vf.num σ.held N2) = some x ∧ x.bytes = D2 ∧ x.synced = D2.length
  left : Vf.left σ = room - (D.length : Int) - (D2.length : Int)
  steps : σ.steps ≤ m
theorem Two.swap {room : Int} {σ : Vf.St} {N D N2 D2 : Vf.Bs} {m : Nat} (h : Two room σ N D N2 D2 m) : Two room σ N2 D2 N D m :=
  ⟨h.calm, h.dur, h.ne.symm, h.fd2, h.file2, h.fd, h.file, by have := h.left; omega, h.steps⟩
theorem Two.read {room : Int} {σ : Vf.St} {N D N2 D2 : Vf.Bs} {m : Nat} (h : Two room σ N D N2 D2 m) : Vf.read σ N = D := by
  obtain ⟨x, hx, e, _⟩ := h.file
  rw [Vf.read_someK h.fd hx, e]
theorem Two.read2 {room : Int} {σ : Vf.St} {N D N2 D2 : Vf.Bs} {m : Nat} (h : Two room σ N D N2 D2 m) : Vf.read σ N2 = D2 := h.swap.read

theorem Two.put {room : Int} {σ : Vf.St} {N D N2 D2 : Vf.Bs} {m : Nat} (h : Two room σ N D N2 D2 m) {l : Vf.Bs} (hl : l.length ≤ 100000) (hr : (D.length : Int) + D2.length + l.length ≤ room) : Mf.appE σ N l = 0 ∧ Two room (Mf.appS σ N l) N (D ++ l) N2 D2 (m + 2000) := by
  have hleft := h.left
  obtain ⟨e, c, hh, hle, hst, hrd, _, hoth, hd, x, hx, hb, hs⟩ := calm_app h.calm h.fd (l := l) (by omega)
  rw [h.read] at hb
  obtain ⟨y, hy, hyb, hys⟩ := h.file2
  obtain ⟨z, hz, hzb, hzs⟩ := hoth N2 h.ne.symm h.fd2 y hy
  have hz' : (Mf.appS σ N l).files (Vf.num (Mf.appS σ N l).held N2) = some z := by rw [hh]; exact hz
  have zl : z.synced ≤ z.bytes.length := by have := c.inv.pend _ z hz'; omega
  refine ⟨e, ⟨c, by rw [hd, hh]; exact h.dur, h.ne, (Vf.find_sameK (c.on.trans h.calm.on.symm) hh _).trans h.fd, ⟨x, by rw [hh]; exact hx, hb, by rw [hs, hb]⟩, (Vf.find_sameK (c.on.trans h.calm.on.symm) hh _).trans h.fd2, ⟨z, hz', by rw [hzb, hyb], ?_⟩, ?_, ?_⟩⟩
  · rw [hzb, hyb] at zl
    omega
  · rw [hle, hleft, List.length_append]; omega
  · have := h.steps; omega

theorem Two.alter {room : Int} {σ : Vf.St} {N D N2 D2 : Vf.Bs} {m : Nat} (h : Two room σ N D N2 D2 m) {at_ : Nat} (ha : at_ < D.length) (bits : UInt8) : Vf.alterE σ N (at_ : Int) = 0 ∧ Two room (Vf.alter σ N (at_ : Int) bits) N (D.set at_ (D[at_] ^^^ bits)) N2 D2 m := by
  obtain ⟨x, hx, hb, hs⟩ := h.file
  have hf := (Vf.find_zero' h.fd).2.1
  have hx' : σ.files (Vf.num σ.durable N) = some x := by rw [h.dur]; exact hx
  have eA : Vf.alterE σ N (at_ : Int) = 0 := by
    unfold Vf.alterE
    rw [if_pos hf, hx']
    show (if (at_ : Int) < 0 ∨ (at_ : Int) ≥ (x.synced : Int) then (2 : Int) else 0) = 0
    rw [if_neg (by omega)]
  have eS : Vf.alter σ N (at_ : Int) bits = { σ with files := Vf.setF σ.files (Vf.num σ.durable N) (some { x with bytes := x.bytes.set at_ ((x.bytes[at_]?.getD 0) ^^^ bits) }) } := by
    unfold Vf.alter
    rw [if_pos eA, hx']
    rfl
  have hi := h.calm.inv.alter N (at_ : Int) bits
  refine ⟨eA, ?_⟩
  have hne := Vf.num_neK h.calm.inv.heldOk (Vf.find_zero' h.fd2).2.2 (Vf.find_zero' h.fd).2.2 h.ne.symm
  rw [eS] at hi ⊢
  refine ⟨⟨hi, h.calm.on, h.calm.fuse⟩, h.dur, h.ne, (Vf.find_sameK (σ := σ) rfl rfl _).trans h.fd, ⟨{ x with bytes := x.bytes.set at_ ((x.bytes[at_]?.getD 0) ^^^ bits) }, ?_, ?_, ?_⟩, (Vf.find_sameK (σ := σ) rfl rfl _).trans h.fd2, ?_, ?_, h.steps⟩
  · show Vf.setF σ.files (Vf.num σ.durable N) _ (Vf.num σ.held N) = _
    rw [h.dur]
    exact Vf.setF_eq
  · subst hb
    show x.bytes.set at_ ((x.bytes[at_]?.getD 0) ^^^ bits) = _
    rw [List.getElem?_eq_getElem ha]
    rfl
  · rw [List.length_set]; exact hs
  · obtain ⟨y, hy, h2⟩ := h.file2
    refine ⟨y, ?_, h2⟩
    show Vf.setF σ.files (Vf.num σ.durable N) _ (Vf.num σ.held N2) = _
    rw [h.dur, Vf.setF_ne hne]
    exact hy
  · rw [List.length_set]; exact h.left
end Vk
end Go.Proofs.YtlhnjloimhcpfabGreatDoor
namespace Go.Proofs.YtlhnjloimhcpfabGreatDoor
namespace Ma
open Mf (Bs Mt Vn Ed)

def tb (l : List Bs) (j : Nat) : Mt := ⟨(j : Int) + 1, 0, 3, l.getD j [], l.getD j []⟩
def ed (l : List Bs) (j : Nat) : Ed := ⟨[], [tb l j], 1, 0, (j : Int) + 2⟩
def tabs (l : List Bs) (j : Nat) : List Mt := ((List.range j).reverse).map (tb l)
def vn (l : List Bs) (j : Nat) : Vn := ⟨tabs l j, 1, 0, (j : Int) + 1⟩
def fine (k : Bs) : Prop := 1 ≤ k.length ∧ k.length ≤ 512

theorem tabs_len (l : List Bs) (j : Nat) : (tabs l j).length = j := by simp [tabs]
theorem tabs_succ (l : List Bs) (j : Nat) : tabs l (j + 1) = tb l j :: tabs l j := by simp [tabs, List.range_succ]
theorem tabs_get (l : List Bs) (j i : Nat) (h : i < (tabs l j).length) : (tabs l j)[i] = tb l (j - 1 - i) := by
  simp [tabs]
theorem in_b {x lo hi : Int} (h : lo ≤ x ∧ x ≤ hi) : Mf.inB x lo hi = true := by
  unfold Mf.inB
  rw [decide_eq_true h.1, decide_eq_true h.2]
  rfl
theorem tb_words {l : List Bs} {j : Nat} (h : fine (l.getD j [])) (hj : j ≤ 1000) : Mf.words (tb l j) = true := by
  have i1 : Mf.inB ((j : Int) + 1) 1 999999 = true := in_b (by omega)
  have i2 : Mf.inB 0 0 6 = true := by decide
  have i3 : Mf.inB 3 1 65536 = true := by decide
  have i4 : Mf.inB ((l.getD j []).length : Int) 1 512 = true := in_b (by have h1 := h.1; have h2 := h.2; omega)
  have i5 := Mf.bl_irrefl (l.getD j [])
  show (Mf.inB ((j : Int) + 1) 1 999999 && Mf.inB 0 0 6 && Mf.inB 3 1 65536 && Mf.inB ((l.getD j []).length : Int) 1 512 && Mf.inB ((l.getD j []).length : Int) 1 512 && !Op.bytesLess (l.getD j []) (l.getD j [])) = true
  rw [i1, i2, i3, i4, i5]
  rfl
theorem tb_follow (l : List Bs) (a b : Nat) (h : b < a) : Mf.follow (tb l a) (tb l b) = true := by
  unfold Mf.follow
  rw [if_neg (fun h => by have := h.2; simp [tb] at this)]
  unfold Mf.lt Mf.ord
  rw [if_pos (show (tb l a).level = (tb l b).level from rfl), if_pos (show (tb l a).level = 0 from rfl)]
  unfold Mf.cmpI
  rw [if_pos (by simp only [tb]; omega)]
  decide
theorem may_tabs (l : List Bs) (j : Nat) (hj : j ≤ 1000) (h : ∀ i, i < j → fine (l.getD i [])) : Mf.mayT (tabs l j) ((j : Int) + 1) = true := by
  unfold Mf.mayT
  rw [Bool.and_eq_true]
  constructor
  · rw [List.all_eq_true]
    intro i hi
    have hi' : i < (tabs l j).length := List.mem_range.1 hi
    have hij : i < j := by rw [tabs_len] at hi'; exact hi'
    refine Mf.good_mk hi' ?_ ?_ ?_
    · rw [tabs_get]
      exact tb_words (h _ (by omega)) (by omega)
    · rw [tabs_get]
      simp only [tb]
      omega
    · intro k hk
      rw [tabs_get, tabs_get]
      exact tb_follow l _ _ (by omega)
  · rw [decide_eq_true_eq]
    have e : (Mf.numsOf (tabs l j)).reverse = (List.range j).map fun i : Nat => (i : Int) + 1 := by
      unfold Mf.numsOf tabs
      rw [← List.map_reverse, ← List.map_reverse, List.reverse_reverse, List.map_map]
      rfl
    rw [e]
    have hn : ((List.range j).map fun i : Nat => (i : Int) + 1).Nodup := by
      refine List.Pairwise.map _ (R := (· < ·)) (fun a b hab => ?_) List.pairwise_lt_range
      simp only [ne_eq]
      omega
    have := (Mf.once_nodup _).2 hn
    rw [this]
    simp [tabs]
theorem may_vn (l : List Bs) (j : Nat) (hj : j ≤ 1000) (h : ∀ i, i < j → fine (l.getD i [])) : Mf.may (vn l j) = true := by
  unfold Mf.may vn
  simp only [Bool.and_eq_true, decide_eq_true_eq]
  refine ⟨⟨by rw [tabs_len]; omega, ?_⟩, may_tabs l j hj h⟩
  simp only [Mf.nums, Mf.inB, Bool.and_eq_true, decide_eq_true_eq]
  omega
theorem new_tabs (l : List Bs) (j : Nat) (hj : j < 1000) (h : ∀ i, i < j + 1 → fine (l.getD i [])) : Mf.newTabs (vn l j) (ed l j) = tabs l (j + 1) := by
  have hm := may_tabs l (j + 1) (by omega) h
  have hp : (tabs l (j + 1)).Perm (Mf.left (vn l j).tabs (ed l j).drops ++ (ed l j).adds) := by
    show (tabs l (j + 1)).Perm (Mf.left (tabs l j) [] ++ [tb l j])
    rw [Mf.left_none, tabs_succ]
    exact (List.perm_append_singleton _ _).symm
  exact (Mf.may_srt hp hm).symm
theorem behind (l : List Bs) (j : Nat) (hj : j < 1000) (h : ∀ i, i < j + 1 → fine (l.getD i [])) : Mf.behind (vn l j) (ed l j) = vn l (j + 1) := by
  unfold Mf.behind
  rw [new_tabs l j hj h]
  unfold vn ed
  simp only [Vn.mk.injEq, true_and]
  omega
theorem goes (l : List Bs) (j : Nat) (hj : j < 1000) (h : ∀ i, i < j + 1 → fine (l.getD i [])) : Mf.goes (vn l j) (ed l j) = true := by
  unfold Mf.goes
  rw [behind l j hj h, may_vn l (j + 1) (by omega) h, Bool.and_true, Bool.and_eq_true]
  constructor
  · unfold Mf.allDrops vn ed
    simp only [Mf.left_none, decide_eq_true_eq, List.length_nil]
    omega
  · have a1 : ¬ (ed l j).log < (vn l j).log := by simp [ed, vn]
    have a2 : ¬ (ed l j).seq < (vn l j).seq := by simp [ed, vn]
    have a3 : ¬ (ed l j).next < (vn l j).next := by simp only [ed, vn]; omega
    simp [a1, a2, a3]
theorem enc_ok {l : List Bs} {j : Nat} (hj : j ≤ 1000) (h : fine (l.getD j [])) : Mf.encE (ed l j) = 0 := by
  have n1 : Mf.nums 1 0 ((j : Int) + 2) = true := by
    unfold Mf.nums
    rw [in_b (by omega), in_b (by omega), in_b (by omega)]
    rfl
  unfold Mf.encE
  rw [if_neg (by simp [ed]), if_pos]
  show (([] : List Int).all _ && [tb l j].all Mf.words && Mf.nums 1 0 ((j : Int) + 2)) = true
  rw [n1]
  simp [tb_words h hj]
theorem enc_bad {l : List Bs} {j : Nat} (h : ¬ fine (l.getD j [])) : Mf.encE (ed l j) = 2 := by
  unfold Mf.encE
  rw [if_neg (by simp [ed]), if_neg]
  intro hb
  unfold Mf.bounds at hb
  simp only [ed, List.all_cons, List.all_nil, Bool.and_eq_true] at hb
  have := Mf.words_in hb.1.2.1
  exact h ⟨this.2.2.2.1.1, this.2.2.2.1.2⟩
theorem rec_len {l : List Bs} {j : Nat} (hj : j ≤ 1000) (h : fine (l.getD j [])) : (Mf.recB (ed l j)).length ≤ 1200 := by
  have l1 := Mf.lebs_len [(0 : Int)] (by intro y hy; simp at hy; omega)
  have l3 := Mf.lebs_len [(1 : Int)] (by intro y hy; simp at hy; omega)
  have l4 := Mf.mtB_len (tb_words h hj)
  have l5 := Mf.lebs_len [(1 : Int), 0, (j : Int) + 2] (by intro y hy; simp at hy; rcases hy with rfl | rfl | rfl <;> omega)
  have e : Mf.recB (ed l j) = Mf.lebs [(0 : Int)] ++ (Mf.lebs [(1 : Int)] ++ (Mf.mtB (tb l j) ++ Mf.lebs [(1 : Int), 0, (j : Int) + 2])) := by
    simp [Mf.recB, ed, Mf.lebs]
  rw [e]
  simp only [List.length_append, List.length_cons, List.length_nil] at *
  omega

/-! ### The file -/
def F0 : Bs := frm (Mf.recB (Mf.fromV Mf.first))
def rc (l : List Bs) : Nat → Bs
  | 0 => Mf.recB (Mf.fromV Mf.first)
  | i + 1 => Mf.recB (ed l i)
def fr (l : List Bs) (i : Nat) : Bs := frm (rc l i)
/-- The bytes of the first i frames. -/
def dt (l : List Bs) : Nat → Bs
  | 0 => []
  | i + 1 => dt l i ++ fr l i
def rs (l : List Bs) (i : Nat) : List Bs := (List.range i).map (rc l)
theorem rs_succ (l : List Bs) (i : Nat) : rs l (i + 1) = rs l i ++ [rc l i] := by simp [rs, List.range_succ]
theorem dt_frms (l : List Bs) : ∀ i, dt l i = frms (rs l i)
  | 0 => rfl
  | i + 1 => by
    show dt l i ++ frm (rc l i) = _
    rw [rs_succ, dt_frms l i, frms_append, frms_one]
theorem dt_pre (l : List Bs) (k : Nat) : ∀ i, k ≤ i → ∃ t, dt l i = dt l k ++ t
  | 0, h => ⟨[], by have : k = 0 := by omega
                    subst this; simp⟩
  | i + 1, h => by
    rcases Nat.eq_or_lt_of_le h with e | h'
    · subst e; exact ⟨[], by simp⟩
    · obtain ⟨t, e⟩ := dt_pre l k i (by omega)
      exact ⟨t ++ fr l i, by show dt l i ++ _ = _; rw [e, List.append_assoc]⟩
theorem rc_len (l : List Bs) (i : Nat) (hi : i ≤ 1000) (h : ∀ j, j < i → fine (l.getD j [])) : (rc l i).length ≤ 1200 := by
  cases i with
  | zero => show (Mf.recB (Mf.fromV Mf.first)).length ≤ 1200; decide +kernel
  | succ i => exact rec_len (by omega) (h i (by omega))
theorem fr_len (l : List Bs) (i : Nat) (hi : i ≤ 1000) (h : ∀ j, j < i → fine (l.getD j [])) : (fr l i).length ≤ 1212 ∧ 12 ≤ (fr l i).length := by
  have := rc_len l i hi h
  unfold fr
  rw [frm_length]
  omega
theorem dt_len (l : List Bs) : ∀ i, i ≤ 1000 → (∀ j, j + 1 < i → fine (l.getD j [])) → (dt l i).length ≤ 1212 * i
  | 0, _, _ => by simp [dt]
  | i + 1, hi, h => by
    have h1 := dt_len l i (by omega) (fun j hj => h j (by omega))
    have h2 := (fr_len l i (by omega) (fun j hj => h j (by omega))).1
    show (dt l i ++ fr l i).length ≤ _
    rw [List.length_append]
    omega

/-- A burst within one frame: the file tells nothing. -/
theorem altered (l : List Bs) (k : Nat) (hk : k ≤ 1000) (hok : ∀ j, j < k → fine (l.getD j [])) (p c : Nat) (hc : c < 4294967296) (h0 : c ≠ 0) (hin : ∀ i, i < 32 → c.testBit i = true → p + i < 8 * (fr l k).length) (t : Bs) :
    Mf.fileV (dt l k ++ (Crc.burst (fr l k) p c 32 ++ t)) = none := by
  have hr := rc_len l k hk hok
  have h6 := read_altered (rc l k) t p c (by omega) hc h0 hin
  have := scn_altered (rs l k) _ t (fun r hr => by
    unfold rs at hr
    obtain ⟨i, hi, rfl⟩ := List.mem_map.1 hr
    have := List.mem_range.1 hi
    have := rc_len l i (by omega) (fun j hj => hok j (by omega))
    omega) h6
  unfold Mf.fileV
  rw [dt_frms, if_pos]
  exact .inl (congrArg (fun x => x.2.2) this)
/-- A burst within the frame of the name: it can't be read. -/
theorem named (p c : Nat) (hc : c < 4294967296) (h0 : c ≠ 0) (hin : ∀ i, i < 32 → c.testBit i = true → p + i < 8 * (frm (Mf.nm 1)).length) : rdE (Crc.burst (frm (Mf.nm 1)) p c 32) = 6 := by
  have := read_altered (Mf.nm 1) [] p c (by rw [Mf.nm_length]; decide) hc h0 hin
  rwa [List.append_nil] at this

/-! ### What is held -/
def z0 : Vf.St := Vf.new 1048576
def z1 : Vf.St := Mf.b5 z0 (Mf.nm 1) F0
def st (l : List Bs) : Nat → Vf.St
  | 0 => z1
  | i + 1 => Mf.appS (st l i) (Mf.nm 1) (fr l (i + 1))
theorem miss : Vf.findE z0 Mf.cur = 4 := by decide +kernel
theorem beg : Mf.BegOk z0 (Mf.nm 1) F0 := ⟨by decide +kernel, by decide +kernel, by decide +kernel, by decide +kernel, by decide +kernel⟩
theorem two0 (l : List Bs) : Vk.Two 1048576 z1 (Mf.nm 1) (dt l 1) Mf.cur (frm (Mf.nm 1)) 100 := by
  have e : dt l 1 = F0 := by show [] ++ F0 = F0; rfl
  rw [e]
  refine ⟨⟨Mf.b5_inv (Vf.Inv.new (by decide)) _ _, by decide +kernel, by decide +kernel⟩, by decide +kernel, by decide +kernel, by decide +kernel, ⟨⟨F0, F0.length⟩, by kernel_rfl, rfl, rfl⟩, by decide +kernel, ⟨⟨frm (Mf.nm 1), (frm (Mf.nm 1)).length⟩, by kernel_rfl, rfl, rfl⟩, by decide +kernel, by decide +kernel⟩
theorem two_st (l : List Bs) : ∀ i, i ≤ 30 → (∀ j, j < i → fine (l.getD j [])) → Vk.Two 1048576 (st l i) (Mf.nm 1) (dt l (i + 1)) Mf.cur (frm (Mf.nm 1)) (100 + 2000 * i)
  | 0, _, _ => two0 l
  | i + 1, hi, h => by
    have ih := two_st l i (by omega) (fun j hj => h j (by omega))
    have hf := (fr_len l (i + 1) (by omega) h).1
    have hd := dt_len l (i + 1) (by omega) (fun j hj => h j (by omega))
    have hc : (frm (Mf.nm 1)).length = 27 := by rw [frm_length, Mf.nm_length]
    have := (ih.put (l := fr l (i + 1)) (by omega) (by omega)).2
    have e : 100 + 2000 * (i + 1) = 100 + 2000 * i + 2000 := by omega
    rw [e]
    exact this
theorem put_st (l : List Bs) (i : Nat) (hi : i < 30) (h : ∀ j, j < i + 1 → fine (l.getD j [])) : Mf.appE (st l i) (Mf.nm 1) (fr l (i + 1)) = 0 ∧ ((fr l (i + 1)).length : Int) ≤ Vf.left (st l i) := by
  have ih := two_st l i (by omega) (fun j hj => h j (by omega))
  have hf := (fr_len l (i + 1) (by omega) h).1
  have hd := dt_len l (i + 1) (by omega) (fun j hj => h j (by omega))
  have hc : (frm (Mf.nm 1)).length = 27 := by rw [frm_length, Mf.nm_length]
  have hl := ih.left
  exact ⟨(ih.put (l := fr l (i + 1)) (by omega) (by omega)).1, by omega⟩
end Ma
end Go.Proofs.YtlhnjloimhcpfabGreatDoor
