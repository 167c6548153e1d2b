/-
  The chapter's entries and their bytes, and the statements' own first question: the chapter's first examples hold, so it answers true; it leaves all that was there as it was.
-/
import Derived.Test.YtbdgdigpnfpnhaaKH
import Derived.Test.YtbdgdigpnfpnhaaJKSame
namespace Go.Proofs.Ytbdgdigpnfpnhaa.Q
open Go.RowKit

namespace Bk
def exE : List Mm.Ent := [⟨[97, 98], [120], 3, false⟩, ⟨[97, 98], [], 1, true⟩, ⟨[97, 98, 99], [121], 2, false⟩]
def exB : List UInt8 := [3, 0, 2, 97, 98, 3, 0, 1, 120, 2, 0, 1, 1, 2, 1, 99, 2, 0, 1, 121]
theorem exE_ok : checkE exE = 0 := by kernel_rfl
theorem exB_is : blockB exE = exB := by kernel_rfl
theorem exB_ents : dEnts exB = exE ∧ dGood exB = true := by
  have := dec_back exE exE_ok
  rw [exB_is] at this
  exact this
end Bk
theorem own_bytes {w : World} {base n : Nat} {v : Value} {l : List UInt8} (h : w.ownsRow base 5 1 v n (bc l)) (hl : l.length ≤ 140737488355328) : BytesIn w v l := by
  have hn : n = l.length := by have := h.1; rw [bc_length] at this; omega
  subst hn
  rcases h.2 with ⟨rfl, h0⟩ | ⟨g, cap, cur, rfl, _⟩
  · have : l = [] := List.eq_nil_of_length_eq_zero h0
    subst this
    exact ⟨⟨none, 0, rfl, fun h => absurd rfl h⟩, hl⟩
  · refine ⟨⟨_, cap, rfl, fun _ => ⟨g, 0, rfl, fun j hj => ?_⟩⟩, hl⟩
    rw [Nat.zero_add, h.cellAt j (by omega), bc_get l j hj]
theorem ents_lit (w : World) (l : List Mm.Ent) (cs : Array Value) (hcs : cs.toList = ecs l) (n : Nat) (hn : n = l.length) : EntsAt (w.alloc (.cells cs 38)) (.slice (some ⟨w.heap.size, 0, none⟩) n n) l := by
  subst hn
  refine ⟨⟨_, _, rfl, fun _ => ⟨_, 0, rfl, fun j hj => ?_⟩⟩⟩
  obtain ⟨e0, e1, e2, e3⟩ := ecs_get l j hj
  have hb := World.alloc_heap_new w (.cells cs 38)
  rw [Nat.zero_add, Joins.cell_of_block hb (j * 4), Joins.cell_of_block hb (j * 4 + 1), Joins.cell_of_block hb (j * 4 + 2), Joins.cell_of_block hb (j * 4 + 3), ← Array.getElem?_toList, ← Array.getElem?_toList, ← Array.getElem?_toList, ← Array.getElem?_toList, hcs]
  exact ⟨e0, e1, e2, e3⟩

set_option maxRecDepth 100000 in
set_option maxHeartbeats 4000000 in
theorem bexample_any (w : World) : Calls Try.prog 57 #[] w fun e w' => ∃ B C, e = .returned (.tuple #[.slice (some ⟨B, 0, none⟩) 3 3, .slice (some ⟨C, 0, none⟩) 20 20]) ∧ EntsAt w' (.slice (some ⟨B, 0, none⟩) 3 3) Bk.exE ∧ BytesIn w' (.slice (some ⟨C, 0, none⟩) 20 20) Bk.exB ∧ Below w.heap.size w w' := by
  have E0 := hide (ents_lit w Bk.exE #[str [97, 98], str [120], .int .i64 3, .bool false, str [97, 98], str [], .int .i64 1, .bool true, str [97, 98, 99], str [121], .int .i64 2, .bool false] rfl 3 rfl)
  go_enter Try.func57, Try.ntmps57
  go_wp2_with (fail)
  go_ret2
  refine ⟨_, _, rfl, E0.out.later ((Below.refl _ _).alloc (Nat.le_refl _) _), ?_, ((Below.refl _ _).alloc (Nat.le_refl _) _).alloc (by simp) _⟩
  rw [← World.size_alloc w]
  refine BytesIn.block (World.alloc_heap_new _ _) Bk.exB (by decide) (fun j hj => ?_) 20 20 rfl
  rw [← Array.getElem?_toList]
  have e : _ = bc Bk.exB := rfl
  exact (congrArg (fun l : List Value => l[j]?) e).trans (bc_get Bk.exB j hj)

set_option maxRecDepth 100000 in
set_option maxHeartbeats 4000000 in
theorem blives_any (w : World) : Calls Try.prog 24 #[] w fun e w' => e = .returned (.bool true) ∧ Below w.heap.size w w' := by
  have EX := hide (bexample_any w)
  have EN : Hid (∀ wx B, EntsAt wx (.slice (some ⟨B, 0, none⟩) 3 3) Bk.exE → Calls Try.prog 58 #[.slice (some ⟨B, 0, none⟩) 3 3] wx fun r w' => ∃ g cap, r = .returned (.tuple #[.slice (some ⟨g, 0, none⟩) 20 cap, .int .i64 0]) ∧ BytesIn w' (.slice (some ⟨g, 0, none⟩) 20 cap) Bk.exB ∧ Below wx.heap.size wx w') := fun wx B h => by
    refine (bencode_ok wx _ 3 3 Bk.exE h Bk.exE_ok).mono ?_
    rintro r w' ⟨g, cap, rfl, o, b⟩
    rw [Bk.exB_is] at o ⊢
    exact ⟨g, cap, rfl, own_bytes o (by decide), b⟩
  have DE : Hid (∀ wx C, BytesIn wx (.slice (some ⟨C, 0, none⟩) 20 20) Bk.exB → Calls Try.prog 59 #[.slice (some ⟨C, 0, none⟩) 20 20] wx fun r w' => ∃ v, r = .returned (.tuple #[v, .int .i64 0]) ∧ EntsAt w' v Bk.exE ∧ Below wx.heap.size wx w') := fun wx C h => by
    refine (bdecode_any wx (some ⟨C, 0, none⟩) 20 Bk.exB h (by decide) (fun e => by cases e) (by decide)).mono ?_
    rintro r w' ⟨v, E, rfl, H, b⟩
    obtain ⟨e1, e2⟩ := Bk.exB_ents
    rcases H with ⟨_, rfl, o⟩ | ⟨h1, _, _⟩
    · rw [e1] at o
      exact ⟨v, rfl, EntsAt.own o, b⟩
    · rw [e2] at h1; cases h1
  have SB : Hid (∀ wx v v2, BytesIn wx v Bk.exB → BytesIn wx v2 Bk.exB → Calls Try.prog 60 #[v, v2] wx fun r w' => r = .returned (.bool true) ∧ Below wx.heap.size wx w') := fun wx v v2 h h2 => by
    have := same_any wx v v2 Bk.exB Bk.exB h h2
    rw [decide_eq_true rfl] at this
    exact this
  have SE : Hid (∀ wx v v2, EntsAt wx v Bk.exE → EntsAt wx v2 Bk.exE → Calls Try.prog 20 #[v, v2] wx fun r w' => r = .returned (.bool true) ∧ Below wx.heap.size wx w') := fun wx v v2 h h2 => samee_any wx v v2 Bk.exE h h2 (by decide)
  go_enter Try.func24, Try.ntmps24
  go_wp2_with (first
    | (go_at_call 57; refine EX.out.mono ?_; rintro r w1 ⟨B, C, rfl, e1, c1, b1⟩; clear EX)
    | (go_at_call 58; refine (EN.out _ B e1).mono ?_; rintro r w2 ⟨g, cap, rfl, y2, b2⟩; have e2 := e1.later b2; have c2 := c1.later b2; have B2 := b1.trans (b2.mono b1.size); clear EN)
    | (go_at_call 59; refine (DE.out _ C c2).mono ?_; rintro r w3 ⟨v, rfl, x3, b3⟩; have e3 := e2.later b3; have c3 := c2.later b3; have y3 := y2.later b3; have B3 := B2.trans (b3.mono B2.size); clear DE)
    | (go_at_call 60; refine (SB.out _ _ _ y3 c3).mono ?_; rintro r w4 ⟨rfl, b4⟩; have e4 := e3.later b4; have x4 := x3.later b4; have B4 := B3.trans (b4.mono B3.size); clear SB)
    | (go_at_call 20; refine (SE.out _ _ _ e4 x4).mono ?_; rintro r w5 ⟨rfl, b5⟩; clear SE))
  go_ret
  exact ⟨rfl, B4.trans (b5.mono B4.size)⟩
end Go.Proofs.Ytbdgdigpnfpnhaa.Q
