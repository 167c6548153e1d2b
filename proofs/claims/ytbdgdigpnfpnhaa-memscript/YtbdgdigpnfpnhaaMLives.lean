/-
  The chapter's table, and the statements' own first question: the chapter's first examples hold, so it answers true; it leaves all that was there as it was.
-/
import Derived.Test.YtbdgdigpnfpnhaaMTab
namespace Go.Proofs.Ytbdgdigpnfpnhaa.Q.P
open Go.RowKit

end Go.Proofs.Ytbdgdigpnfpnhaa.Q.P
namespace Go.Proofs.Ytbdgdigpnfpnhaa.Q.Mm
def b1 : Ent := ⟨[98], [], 1, false⟩
def a2 : Ent := ⟨[97], [], 2, false⟩
def b3 : Ent := ⟨[98], [], 3, false⟩
theorem ex1 : addE b1 [] = 0 ∧ addL [2, 1, 3] b1 [] = [(b1, 2)] := ⟨by kernel_rfl, by kernel_rfl⟩
theorem ex2 : addE a2 [(b1, 2)] = 0 ∧ addL [2, 1, 3] a2 [(b1, 2)] = [(a2, 1), (b1, 2)] := ⟨by kernel_rfl, by kernel_rfl⟩
theorem ex3 : addE b3 [(a2, 1), (b1, 2)] = 0 ∧ addL [2, 1, 3] b3 [(a2, 1), (b1, 2)] = [(a2, 1), (b3, 3), (b1, 2)] := ⟨by kernel_rfl, by kernel_rfl⟩
def exL : List It := [(a2, 1), (b3, 3), (b1, 2)]
theorem exG : gotL exL [98] 2 = some b1 := by kernel_rfl
end Go.Proofs.Ytbdgdigpnfpnhaa.Q.Mm
namespace Go.Proofs.Ytbdgdigpnfpnhaa.Q.P
open Go.RowKit

theorem ints_lit (w : World) (l : List Int) (cs : Array Value) (hcs : cs.toList = ics l) : IntsAt (w.alloc (.cells cs 3)) (.slice (some ⟨w.heap.size, 0, none⟩) l.length l.length) l := by
  refine ⟨_, _, rfl, (fun h => by cases h), (fun _ => ⟨_, 0, rfl, fun j hj => ?_⟩)⟩
  rw [Joins.cell_of_block (World.alloc_heap_new w _) (0 + j), Nat.zero_add, ← Array.getElem?_toList, hcs]
  simp [ics, hj]

set_option maxRecDepth 100000 in
set_option maxHeartbeats 4000000 in
theorem example_any (w : World) : Calls Try.prog 32 #[] w fun e w' => ∃ b, e = .returned (.pointer (some ⟨b, 0, none⟩)) ∧ TabS (fun i => w.heap.size ≤ i) w' b [2, 1, 3] Mm.exL ∧ Below w.heap.size w w' := by
  have I0 := ints_lit w [2, 1, 3] #[.int .i64 2, .int .i64 1, .int .i64 3] rfl
  have NW : Hid (Calls Try.prog 8 #[.slice (some ⟨w.heap.size, 0, none⟩) 3 3] (w.alloc (.cells #[.int .i64 2, .int .i64 1, .int .i64 3] 3)) fun e w' => Below w.heap.size w w' ∧ ∃ b, e = .returned (.tuple #[.pointer (some ⟨b, 0, none⟩), .int .i64 0]) ∧ TabS (fun i => w.heap.size ≤ i) w' b [2, 1, 3] []) := by
    refine (new_s _ _ [2, 1, 3] I0 (by simp) (by decide)).mono ?_
    rintro e w' ⟨bb, b, rfl, h⟩
    exact ⟨((Below.refl _ _).alloc (Nat.le_refl _) _).trans (bb.mono (by simp)), b, rfl, h.narrow fun i _ hi => by simp at hi; omega⟩
  have AD : Hid (∀ wx b L e L' , TabS (fun i => w.heap.size ≤ i) wx b [2, 1, 3] L → w.heap.size ≤ wx.heap.size → L.length ≤ 10 → e.key.length ≤ 1000000 → e.value.length ≤ 1000000 → Mm.addE e L = 0 → Mm.addL [2, 1, 3] e L = L' → Calls Try.prog 15 #[.pointer (some ⟨b, 0, none⟩), entV e] wx fun r w' => r = .returned (.int .i64 0) ∧ TabS (fun i => w.heap.size ≤ i) w' b [2, 1, 3] L' ∧ Below w.heap.size wx w') := fun wx b L e L' h hz hl hk hv h1 h2 => by
    have := add_s h (fun i hi => by omega) e (by omega) (by simp) hk hv
    rw [h1, h2] at this
    refine this.mono ?_
    rintro r w' ⟨rfl, h3, h4⟩
    exact ⟨rfl, h3, h4.under hz (fun i hi => hi)⟩
  have t1 := Mm.ex1
  have t2 := Mm.ex2
  have t3 := Mm.ex3
  have T1 := hide t1
  have T2 := hide t2
  have T3 := hide t3
  clear I0 t1 t2 t3
  go_enter Try.func32, Try.ntmps32
  go_wp2_with (first
    | (go_at_call 8; refine NW.out.mono ?_; rintro e w1 ⟨bb1, b, rfl, h1⟩; have z1 := bb1.size; clear NW)
    | (go_at_call 15; have g := T1; refine (AD.out _ b _ Mm.b1 _ h1 z1 (by decide) (by decide) (by decide) T1.out.1 T1.out.2).mono ?_; rintro r w2 ⟨rfl, h2, bb2⟩; have z2 := Nat.le_trans z1 bb2.size; clear T1 g)
    | (go_at_call 15; have g := T2; refine (AD.out _ b _ Mm.a2 _ h2 z2 (by decide) (by decide) (by decide) T2.out.1 T2.out.2).mono ?_; rintro r w3 ⟨rfl, h3, bb3⟩; have z3 := Nat.le_trans z2 bb3.size; clear T2 g)
    | (go_at_call 15; have g := T3; refine (AD.out _ b _ Mm.b3 _ h3 z3 (by decide) (by decide) (by decide) T3.out.1 T3.out.2).mono ?_; rintro r w4 ⟨rfl, h4, bb4⟩; clear T3 g))
  go_ret
  exact ⟨b, rfl, h4, ((bb1.trans bb2).trans bb3).trans bb4⟩

theorem ents_lit (w : World) (l : List Mm.Ent) (cs : Array Value) (hcs : cs.toList = ecs l) (n : Nat) (hn : n = l.length) : EntsAt (w.alloc (.cells cs 38)) (.slice (some ⟨w.heap.size, 0, none⟩) n n) l := by
  subst hn
  refine ⟨⟨_, _, rfl, fun _ => ⟨_, 0, rfl, fun j hj => ?_⟩⟩⟩
  obtain ⟨e0, e1, e2, e3⟩ := ecs_get l j hj
  have hb := World.alloc_heap_new w (.cells cs 38)
  rw [Nat.zero_add, Joins.cell_of_block hb (j * 4), Joins.cell_of_block hb (j * 4 + 1), Joins.cell_of_block hb (j * 4 + 2), Joins.cell_of_block hb (j * 4 + 3), ← Array.getElem?_toList, ← Array.getElem?_toList, ← Array.getElem?_toList, ← Array.getElem?_toList, hcs]
  exact ⟨e0, e1, e2, e3⟩

abbrev exO : Obj := .cells #[.string ⟨#[97]⟩, .string ⟨#[]⟩, .int .i64 2, .bool false, .string ⟨#[98]⟩, .string ⟨#[]⟩, .int .i64 3, .bool false, .string ⟨#[98]⟩, .string ⟨#[]⟩, .int .i64 1, .bool false] 38

set_option maxRecDepth 100000 in
set_option maxHeartbeats 4000000 in
theorem mlives_any (w : World) : Calls Try.prog 5 #[] w fun e w' => e = .returned (.bool true) ∧ Below w.heap.size w w' := by
  have EX := hide (example_any w)
  have GT : Hid (∀ wx b, TabS (fun i => w.heap.size ≤ i) wx b [2, 1, 3] Mm.exL → Calls Try.prog 33 #[.pointer (some ⟨b, 0, none⟩), .string ⟨#[98]⟩, .int .i64 2] wx fun r w' => r = .returned (.tuple #[.agg #[.string ⟨#[98]⟩, .string ⟨#[]⟩, .int .i64 1, .bool false], .bool true]) ∧ Below wx.heap.size wx w') := fun wx b h => by
    have := get_s h (by decide) [98] 2
    rw [Mm.exG] at this
    exact this
  have AL : Hid (∀ wx b, TabS (fun i => w.heap.size ≤ i) wx b [2, 1, 3] Mm.exL → Calls Try.prog 21 #[.pointer (some ⟨b, 0, none⟩), .int .i64 9] wx fun r w' => ∃ v, r = .returned v ∧ EntsAt w' v [Mm.a2, Mm.b3, Mm.b1] ∧ Below wx.heap.size wx w') := fun wx b h => by
    refine (list_s h (by decide) 9 (by decide)).mono ?_
    rintro r w' ⟨v, rfl, o, bb⟩
    exact ⟨v, rfl, EntsAt.own o, bb⟩
  have SE : Hid (∀ (wx : World) v, EntsAt wx v [Mm.a2, Mm.b3, Mm.b1] → Calls Try.prog 20 #[v, .slice (some ⟨wx.heap.size, 0, none⟩) 3 3] (wx.alloc exO) fun r w' => r = .returned (.bool true) ∧ Below wx.heap.size wx w') := fun wx v h => by
    have b0 : Below wx.heap.size wx (wx.alloc exO) := (Below.refl _ _).alloc (Nat.le_refl _) _
    refine (samee_any _ _ _ [Mm.a2, Mm.b3, Mm.b1] (h.later b0) (ents_lit wx [Mm.a2, Mm.b3, Mm.b1] #[.string ⟨#[97]⟩, .string ⟨#[]⟩, .int .i64 2, .bool false, .string ⟨#[98]⟩, .string ⟨#[]⟩, .int .i64 3, .bool false, .string ⟨#[98]⟩, .string ⟨#[]⟩, .int .i64 1, .bool false] rfl 3 rfl) (by simp)).mono ?_
    rintro r w' ⟨rfl, bb⟩
    exact ⟨rfl, b0.trans (bb.mono (by simp))⟩
  go_enter Try.func5, Try.ntmps5
  go_wp2_with (first
    | (go_at_call 32; refine EX.out.mono ?_; rintro e w1 ⟨b, rfl, h1, bb1⟩; clear EX)
    | (go_at_call 33; refine (GT.out _ b h1).mono ?_; rintro r w2 ⟨rfl, bb2⟩; have h2 := fun o => h1.later (bb2.alloc bb2.size o); have B2 := bb1.trans (bb2.mono bb1.size); clear GT)
    | (go_at_call 21; refine (AL.out _ b (h2 _)).mono ?_; rintro r w3 ⟨v3, rfl, e3, bb3⟩; have B3 := (B2.alloc B2.size _).trans (bb3.mono (by simp; have := B2.size; omega)); clear AL)
    | (go_at_call 20; refine (SE.out _ _ e3).mono ?_; rintro r w4 ⟨rfl, bb4⟩; clear SE))
  go_ret
  exact ⟨rfl, B3.trans (bb4.mono B3.size)⟩
end Go.Proofs.Ytbdgdigpnfpnhaa.Q.P
