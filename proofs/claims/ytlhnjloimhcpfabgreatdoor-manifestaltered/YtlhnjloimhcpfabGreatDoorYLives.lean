/-
  The statements' own first question: the chapter's first examples hold, so it answers true; it leaves all that was there as it was.
-/
import Derived.Test.YtlhnjloimhcpfabGreatDoorYQ
import Derived.Test.YtlhnjloimhcpfabGreatDoorYR
namespace Go.Proofs.YtlhnjloimhcpfabGreatDoor
open Go.RowKit

namespace Ml
def s0 : Vf.St := Vf.new 10000
def F0 : Mf.Bs := frm (Mf.recB (Mf.fromV Mf.first))
def s1 : Vf.St := Mf.b5 s0 (Mf.nm 1) F0
def m1 : Mf.Mt := ⟨1, 0, 3, [97], [99]⟩
def ed : Mf.Ed := ⟨[], [m1], 2, 5, 2⟩
def F1 : Mf.Bs := frm (Mf.recB ed)
theorem miss : Vf.findE s0 Mf.cur = 4 := by decide +kernel
theorem ok : Mf.BegOk s0 (Mf.nm 1) F0 := ⟨by decide +kernel, by decide +kernel, by decide +kernel, by decide +kernel, by decide +kernel⟩
theorem on1 : s1.on = true := by decide +kernel
theorem t0 : s0.steps ≤ 30000000 := by decide +kernel
theorem t1 : s1.steps ≤ 30000000 := by decide +kernel
theorem enc : Mf.encE ed = 0 := by decide +kernel
theorem go1 : Mf.newTabs Mf.first ed = [m1] := by
  show Mf.srt [m1] = [m1]
  exact Mf.srt_id (List.pairwise_singleton _ _)
theorem goes : Mf.goes Mf.first ed = true := by
  unfold Mf.goes Mf.behind
  rw [go1]
  decide +kernel
theorem len : (Mf.recB ed).length ≤ 1048576 := by decide +kernel
theorem left : (F1.length : Int) ≤ Vf.left s1 := by decide +kernel
theorem app : Mf.appE s1 (Mf.nm 1) F1 = 0 := by decide +kernel
theorem held : s1.held.map (·.1) = [Mf.cur, Mf.nm 1] ∨ s1.held.map (·.1) = [Mf.nm 1, Mf.cur] := by decide +kernel
theorem le : Mf.cur ≤ Mf.nm 1 ∧ ¬ Mf.nm 1 ≤ Mf.cur := by decide +kernel
end Ml

theorem yrising_two (a b : Vf.Bs) : rising [a, b] = if a ≤ b then [a, b] else [b, a] := by
  unfold rising
  simp [List.mergeSort, List.MergeSort.Internal.splitInTwo, List.merge]
theorem Ml.names : namesOf Ml.s1 = [Mf.cur, Mf.nm 1] := by
  unfold namesOf
  rw [if_pos Ml.on1]
  rcases Ml.held with h | h
  · rw [h, yrising_two, if_pos Ml.le.1]
  · rw [h, yrising_two, if_neg Ml.le.2]

abbrev m1V : Value := .agg #[.int .i64 1, .int .i64 0, .int .i64 3, .string ⟨#[97]⟩, .string ⟨#[99]⟩]
theorem meta_one (w : World) : Calls Tryz.prog 11 #[.int .i64 1, .int .i64 0, .string ⟨#[97]⟩, .string ⟨#[99]⟩] w fun e w' => e = .returned m1V ∧ Below w.heap.size w w' := by
  go_enter Tryz.func11, Tryz.ntmps11
  go_wp2_with (fail)
  refine bodyPost_ret (v := m1V) (by simp [results, Tryz.results11, go_sem]) rfl ?_
  exact ⟨rfl, (Below.refl _ _).alloc (Nat.le_refl _) _⟩
set_option maxRecDepth 100000 in
theorem edit_any (w : World) : Calls Tryz.prog 18 #[] w fun e w' => ∃ g, e = .returned (ev (.slice none 0 0) (.slice (some ⟨g, 0, none⟩) 1 1) 2 5 2) ∧ MtsAt w' (.slice (some ⟨g, 0, none⟩) 1 1) [Ml.m1] ∧ Below w.heap.size w w' := by
  have ME := hide meta_one
  have p0 := World.alloc_heap_new w (eO (.slice none 0 0) (.slice none 0 0) 0 0 0)
  have B0 : Below w.heap.size w (w.alloc (eO (.slice none 0 0) (.slice none 0 0) 0 0 0)) := (Below.refl _ _).alloc (Nat.le_refl _) _
  have HP := hide p0
  clear p0
  go_enter Tryz.func18, Tryz.ntmps18
  go_wp2_with (go_at_call 11; refine (ME.out _).mono ?_; rintro r w2 ⟨rfl, b2⟩; have q2 := (b2.block _ (by simp)).trans HP.out; obtain ⟨y0, y1, y2, y3, y4, u0, u1, u2, u3, u4, lt2⟩ := slot5 q2; have HQ := hide q2; clear q2 ME)
  obtain ⟨P5, G5⟩ := store5 HQ.out (.slice none 0 0) (.slice (some ⟨w2.heap.size, 0, none⟩) 1 1) (.int .i64 2) (.int .i64 5) (.int .i64 2)
  have D2 := B0.trans (b2.mono B0.size)
  have B5 : Below w.heap.size w _ := D2.grown G5 D2.size (fun k hk => by cases hk; exact Nat.le_refl _)
  have Z5 : (((((w2.setCell ⟨w.heap.size, 0, none⟩ (.slice none 0 0)).setCell ⟨w.heap.size, 1, none⟩ (.slice (some ⟨w2.heap.size, 0, none⟩) 1 1)).setCell ⟨w.heap.size, 2, none⟩ (.int .i64 2)).setCell ⟨w.heap.size, 3, none⟩ (.int .i64 5)).setCell ⟨w.heap.size, 4, none⟩ (.int .i64 2)).heap.size = w2.heap.size := by simp
  generalize (((((w2.setCell ⟨w.heap.size, 0, none⟩ (.slice none 0 0)).setCell ⟨w.heap.size, 1, none⟩ (.slice (some ⟨w2.heap.size, 0, none⟩) 1 1)).setCell ⟨w.heap.size, 2, none⟩ (.int .i64 2)).setCell ⟨w.heap.size, 3, none⟩ (.int .i64 5)).setCell ⟨w.heap.size, 4, none⟩ (.int .i64 2)) = W5 at P5 B5 Z5 ⊢
  have lt5 := (Array.getElem?_eq_some_iff.1 P5).1
  have P6 : (W5.alloc (mO Ml.m1)).heap[w.heap.size]? = some (eO (.slice none 0 0) (.slice (some ⟨w2.heap.size, 0, none⟩) 1 1) 2 5 2) := (Below.heap_alloc W5 _ _ lt5).trans P5
  obtain ⟨q0, q1, q2, q3, q4, _⟩ := slot5 P6
  have n6 := World.alloc_heap_new W5 (mO Ml.m1)
  rw [Z5] at n6
  show bodyPost _ _ _ _ _ (W5.alloc (mO Ml.m1))
  refine bodyPost_ret (v := ev (.slice none 0 0) (.slice (some ⟨w2.heap.size, 0, none⟩) 1 1) 2 5 2) (by simp [results, Tryz.results18, go_sem, q0, q1, q2, q3, q4]) rfl ?_
  · refine ⟨w2.heap.size, rfl, ⟨⟨_, 1, rfl, fun _ => ⟨_, 0, rfl, fun j hj => ?_⟩⟩⟩, B5.alloc B5.size _⟩
    obtain rfl : j = 0 := by simpa using hj
    exact mt_block n6

theorem samev_any (w : World) (ta ta' : Option Addr) (tc tc' : Nat) (v : Mf.Vn) (h : MtsAt w (.slice ta v.tabs.length tc) v.tabs) (h' : MtsAt w (.slice ta' v.tabs.length tc') v.tabs) (hl : v.tabs.length ≤ 1000000) :
    Calls Tryz.prog 15 #[vv (.slice ta v.tabs.length tc) v.log v.seq v.next, vv (.slice ta' v.tabs.length tc') v.log v.seq v.next] w fun e w' => e = .returned (.bool true) ∧ Below w.heap.size w w' := by
  obtain ⟨L, hL⟩ : ∃ L, L = v.tabs.length := ⟨_, rfl⟩
  rw [← hL] at h h' hl ⊢
  obtain ⟨W, hW⟩ : ∃ W, W = (w.alloc (vO (.slice ta L tc) v.log v.seq v.next)).alloc (vO (.slice ta' L tc') v.log v.seq v.next) := ⟨_, rfl⟩
  have B0 : Below w.heap.size w W := by rw [hW]; exact ((Below.refl _ _).alloc (Nat.le_refl _) _).alloc (by simp) _
  have p0 : W.heap[w.heap.size]? = some (vO (.slice ta L tc) v.log v.seq v.next) := by rw [hW]; exact (Below.heap_alloc _ _ _ (by simp)).trans (World.alloc_heap_new w _)
  have p1 : W.heap[w.heap.size + 1]? = some (vO (.slice ta' L tc') v.log v.seq v.next) := by
    rw [hW]
    have := World.alloc_heap_new (w.alloc (vO (.slice ta L tc) v.log v.seq v.next)) (vO (.slice ta' L tc') v.log v.seq v.next)
    rw [World.size_alloc] at this
    exact this
  have SM : Hid (Calls Tryz.prog 36 #[.slice ta L tc, .slice ta' L tc'] W fun e w' => e = .returned (.bool true) ∧ Below W.heap.size W w') := samem_any W _ _ v.tabs (h.later B0) (h'.later B0) (by omega)
  have HP0 := hide p0
  have HP1 := hide p1
  have HW := hide hW
  rw [hW] at SM
  clear h h' hl hL p0 p1 hW
  go_enter Tryz.func15, Tryz.ntmps15
  go_wp2_with (go_at_call 36; refine SM.out.mono ?_; rintro r w2 ⟨rfl, b2⟩; rw [← HW.out] at b2; have q0 := (b2.block _ (Array.getElem?_eq_some_iff.1 HP0.out).1).trans HP0.out; have q1 := (b2.block _ (Array.getElem?_eq_some_iff.1 HP1.out).1).trans HP1.out; obtain ⟨_, y1, y2, y3, _⟩ := slot4 q0; obtain ⟨_, z1, z2, z3, _⟩ := slot4 q1; have B2 := hide (B0.trans (b2.mono B0.size)); clear q0 q1)
  go_ret
  exact ⟨rfl, B2.out⟩

abbrev nm1S : Value := .string ⟨#[109, 97, 110, 105, 102, 101, 115, 116, 45, 48, 48, 48, 48, 48, 49]⟩
abbrev curS : Value := .string ⟨#[99, 117, 114, 114, 101, 110, 116]⟩
theorem nm1_str : str (Mf.nm 1) = nm1S := by kernel_rfl
theorem cur_str : str Mf.cur = curS := by kernel_rfl
theorem m1_fit : ∀ x ∈ Ml.ed.adds, MtFit x := by
  intro x hx
  obtain rfl : x = Ml.m1 := by simpa [Ml.ed] using hx
  exact ⟨⟨by decide, by decide⟩, by decide, by decide⟩

set_option maxRecDepth 100000 in
set_option maxHeartbeats 4000000 in
theorem ylives_any (w : World) : Calls Tryz.prog 4 #[] w fun e w' => e = .returned (.bool true) ∧ Below w.heap.size w w' := by
  have NW : Hid (Calls Tryz.prog 5 #[.int .i64 10000] w fun e w' => ∃ b, e = .returned (.tuple #[.pointer (some ⟨b, 0, none⟩), .int .i64 0]) ∧ FsIn w.heap.size w'.heap.size w' b Ml.s0 ∧ Below w.heap.size w w') := new_fs w 10000 (by decide)
  have OP : Hid (∀ wx b, FsIn w.heap.size wx.heap.size wx b Ml.s0 → Calls Tryz.prog 6 #[.pointer (some ⟨b, 0, none⟩)] wx fun e w' => ∃ c, e = .returned (.tuple #[.pointer (some ⟨c, 0, none⟩), .int .i64 0]) ∧ Hid (∃ Q, MfIn Q w.heap.size w' c b Ml.s1 (Mf.nm 1) Mf.first false) ∧ Below w.heap.size wx w') := fun wx b h => by
    have fk : FsK (fun _ => False) w.heap.size wx b Ml.s0 := by
      obtain ⟨S, hr, hS⟩ := h.rep
      exact ⟨⟨S, hr, fun i hi => ⟨(hS i hi).1, fun hf => hf⟩⟩, h.inv, fun i hi => hi.elim, h.low⟩
    refine (open_new wx b Ml.s0 fk Ml.t0 Ml.miss Ml.ok).mono ?_
    rintro e w' ⟨c, Q, rfl, hm, _, hk⟩
    exact ⟨c, rfl, ⟨Q, hm⟩, hk.bel⟩
  have VR : Hid (∀ wx c b, Hid (∃ Q, MfIn Q w.heap.size wx c b Ml.s1 (Mf.nm 1) Mf.first false) → Calls Tryz.prog 9 #[.pointer (some ⟨c, 0, none⟩)] wx fun e w' => ∃ ta tc, e = .returned (vv (.slice ta 0 tc) 1 0 1) ∧ Below wx.heap.size wx w') := fun wx c b ⟨Q, h⟩ => by
    refine (version_any h (by decide) (fun x hx => by cases hx)).mono ?_
    rintro e w' ⟨ta, tc, rfl, _, bb⟩
    exact ⟨ta, tc, rfl, bb⟩
  have SV : Hid (∀ (wx : World) ta tc, Calls Tryz.prog 15 #[vv (.slice ta 0 tc) 1 0 1, vv (.slice none 0 0) 1 0 1] wx fun e w' => e = .returned (.bool true) ∧ Below wx.heap.size wx w') := fun wx ta tc => samev_any wx ta none tc 0 Mf.first (MtsAt.nil _ _ _) (MtsAt.nil _ _ _) (by decide)
  have FL : Hid (∀ wx c b, Hid (∃ Q, MfIn Q w.heap.size wx c b Ml.s1 (Mf.nm 1) Mf.first false) → Calls Tryz.prog 8 #[.pointer (some ⟨c, 0, none⟩)] wx fun e w' => e = .returned nm1S ∧ w' = wx) := fun wx c b ⟨Q, h⟩ => by
    rw [← nm1_str]
    exact file_any h
  have NM : Hid (∀ wx c b, Hid (∃ Q, MfIn Q w.heap.size wx c b Ml.s1 (Mf.nm 1) Mf.first false) → Calls Tryz.prog 17 #[.pointer (some ⟨b, 0, none⟩)] wx fun e w' => ∃ v, e = .returned v ∧ TextsAt w' v [Mf.cur, Mf.nm 1] ∧ Below wx.heap.size wx w') := fun wx c b ⟨Q, h⟩ => by
    obtain ⟨S, hr, _⟩ := h.fs.rep
    refine (names_any wx b Ml.s1 S hr (by decide +kernel) [Mf.cur, Mf.nm 1] Ml.names.symm).mono ?_
    rintro e w' ⟨v, rfl, o, bb⟩
    exact ⟨v, rfl, texts_of_own o, bb⟩
  have ST : Hid (∀ (wx : World) v, TextsAt wx v [Mf.cur, Mf.nm 1] → Calls Tryz.prog 16 #[v, .slice (some ⟨wx.heap.size, 0, none⟩) 2 2] (wx.alloc (.cells #[curS, nm1S] 9)) fun e w' => e = .returned (.bool true) ∧ Below wx.heap.size wx w') := fun wx v h => by
    have bb : Below wx.heap.size wx (wx.alloc (.cells #[curS, nm1S] 9)) := (Below.refl _ _).alloc (Nat.le_refl _) _
    have tn := texts_new wx [Mf.cur, Mf.nm 1]
    rw [show (.cells ([Mf.cur, Mf.nm 1].map str).toArray 9 : Obj) = .cells #[curS, nm1S] 9 by rw [List.map_cons, List.map_cons, cur_str, nm1_str]; rfl] at tn
    refine (sameTexts_any _ v _ _ _ (h.later bb) tn (by decide)).mono ?_
    rintro e w' ⟨rfl, b'⟩
    exact ⟨by simp, bb.trans (b'.mono bb.size)⟩
  have ED := hide edit_any
  have AD : Hid (∀ wx c b g, Hid (∃ Q, MfIn Q w.heap.size wx c b Ml.s1 (Mf.nm 1) Mf.first false) → MtsAt wx (.slice (some ⟨g, 0, none⟩) 1 1) [Ml.m1] → Calls Tryz.prog 10 #[.pointer (some ⟨c, 0, none⟩), ev (.slice none 0 0) (.slice (some ⟨g, 0, none⟩) 1 1) 2 5 2] wx fun e w' => e = .returned (.int .i64 0) ∧ Below w.heap.size wx w') := fun wx c b g ⟨Q, h⟩ hm => by
    refine (add_ok wx b c Ml.s1 (Mf.nm 1) Mf.first Ml.ed none (some ⟨g, 0, none⟩) 0 1 h Ml.on1 (IzAt.nil _ _ _) hm m1_fit (fun x hx => by cases hx) (by decide) Ml.enc Ml.goes Ml.len (by decide) Ml.t1 Ml.left Ml.app).mono ?_
    rintro e w' ⟨rfl, _, hk⟩
    exact ⟨rfl, hk.bel⟩
  have LT : Hid (∀ wx wy c b, Hid (∃ Q, MfIn Q w.heap.size wx c b Ml.s1 (Mf.nm 1) Mf.first false) → Below wx.heap.size wx wy → Hid (∃ Q, MfIn Q w.heap.size wy c b Ml.s1 (Mf.nm 1) Mf.first false) ∧ Below w.heap.size wx wy) := fun wx wy c b ⟨Q, h⟩ hb => ⟨⟨Q, h.later hb⟩, hb.mono h.fs.low⟩
  go_enter Tryz.func4, Tryz.ntmps4
  go_wp2_with (first
    | (go_at_call 5; refine NW.out.mono ?_; rintro e w1 ⟨b, rfl, f1, b1⟩; clear NW)
    | (go_at_call 6; refine (OP.out _ _ f1).mono ?_; rintro e w2 ⟨c, rfl, f2, b2⟩; have B2 := hide (b1.trans b2); clear OP f1 b2 b1)
    | (go_at_call 9; refine (VR.out _ _ _ f2).mono ?_; rintro e w3 ⟨ta, tc, rfl, b3⟩; have f3 := (LT.out _ _ _ _ f2 b3).1; have b3' := (LT.out _ _ _ _ f2 b3).2; have B3 := hide (B2.out.trans b3'); clear VR f2 B2 b3 b3')
    | (go_at_call 15; go_loud (refine (SV.out _ _ _).mono ?_; rintro e w4 ⟨rfl, b4⟩; have f4 := (LT.out _ _ _ _ f3 b4).1; have b4' := (LT.out _ _ _ _ f3 b4).2; have B4 := hide (B3.out.trans b4'); clear SV f3 B3 b4 b4'))
    | (go_at_call 8; refine still (FL.out _ _ _ f4) ?_; clear FL)
    | (go_at_call 17; refine (NM.out _ _ _ f4).mono ?_; rintro e w5 ⟨nv, rfl, tx, b5⟩; have f5 := (LT.out _ _ _ _ f4 b5).1; have b5' := (LT.out _ _ _ _ f4 b5).2; have B5 := hide (B4.out.trans b5'); clear NM f4 B4 b5 b5')
    | (go_at_call 16; refine (ST.out _ _ tx).mono ?_; rintro e w6 ⟨rfl, b6⟩; have f6 := (LT.out _ _ _ _ f5 b6).1; have b6' := (LT.out _ _ _ _ f5 b6).2; have B6 := hide (B5.out.trans b6'); clear ST tx f5 B5 b6 b6')
    | (go_at_call 18; refine (ED.out _).mono ?_; rintro e w7 ⟨g, rfl, hm, b7⟩; have f7 := (LT.out _ _ _ _ f6 b7).1; have b7' := (LT.out _ _ _ _ f6 b7).2; have B7 := hide (B6.out.trans b7'); clear ED f6 B6 b7 b7')
    | (go_at_call 10; refine (AD.out _ _ _ _ f7 hm).mono ?_; rintro e w8 ⟨rfl, b8⟩; have B8 := hide (B7.out.trans b8); clear AD f7 B7 b8))
  go_ret
  exact ⟨rfl, B8.out⟩
end Go.Proofs.YtlhnjloimhcpfabGreatDoor
