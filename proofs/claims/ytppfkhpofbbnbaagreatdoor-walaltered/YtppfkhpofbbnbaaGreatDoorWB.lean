/-
  The methods of a log: whether it may be asked, and what Append does. .. and what follows from it.
-/
import Derived.Test.YtppfkhpofbbnbaaGreatDoorWOpen
import Derived.Test.YtppfkhpofbbnbaaGreatDoorFAppend
import Derived.Test.YtppfkhpofbbnbaaGreatDoorVLives
import Derived.Test.YtppfkhpofbbnbaaGreatDoorVNil
namespace Go.Proofs.YtppfkhpofbbnbaaGreatDoor
open Go.RowKit Go.Maps Go.Sort

theorem WalAt.cells {w : World} {c b q n : Nat} {br : Bool} (h : WalAt w c b q n br) : w.cell? ⟨c, 0, none⟩ = some (.pointer (some ⟨b, 0, none⟩)) ∧ w.cell? ⟨c, 1, none⟩ = some (.int .i64 (q : Int)) ∧ w.cell? ⟨c, 2, none⟩ = some (.int .i64 (n : Int)) ∧ w.cell? ⟨c, 3, none⟩ = some (.bool br) ∧ w.frozen? ⟨c, 1, none⟩ = false ∧ w.frozen? ⟨c, 2, none⟩ = false ∧ w.frozen? ⟨c, 3, none⟩ = false ∧ c < w.heap.size :=
  ⟨Joins.cell_of_block h 0, Joins.cell_of_block h 1, Joins.cell_of_block h 2, Joins.cell_of_block h 3, Joins.unfrozen_of_block h 1, Joins.unfrozen_of_block h 2, Joins.unfrozen_of_block h 3, (Array.getElem?_eq_some_iff.1 h).1⟩
theorem WalAt.later {w w' : World} {c b q n : Nat} {br : Bool} (h : WalAt w c b q n br) (hb : Below w.heap.size w w') : WalAt w' c b q n br := (hb.block c (Array.getElem?_eq_some_iff.1 h).1).trans h
theorem WalAt.moved {w w' : World} {c b q n : Nat} {br : Bool} {S : Nat → Prop} (h : WalAt w c b q n br) (hm : Moved S w w') (hc : ¬ S c) : WalAt w' c b q n br := (hm.block c (Array.getElem?_eq_some_iff.1 h).1 hc).trans h
theorem WalAt.seq {w : World} {c b q n : Nat} {br : Bool} (h : WalAt w c b q n br) (q' : Nat) : WalAt (w.setCell ⟨c, 1, none⟩ (.int .i64 (q' : Int))) c b q' n br := (Joins.block_setCell h _).trans rfl
theorem WalAt.segment {w : World} {c b q n : Nat} {br : Bool} (h : WalAt w c b q n br) (n' : Nat) : WalAt (w.setCell ⟨c, 2, none⟩ (.int .i64 (n' : Int))) c b q n' br := (Joins.block_setCell h _).trans rfl
theorem WalAt.broke {w : World} {c b q n : Nat} {br : Bool} (h : WalAt w c b q n br) : WalAt (w.setCell ⟨c, 3, none⟩ (.bool true)) c b q n true := (Joins.block_setCell h _).trans rfl

/-- What of a log's calls may turn: the file system's blocks and the log's own. -/
def with1 (S : Nat → Prop) (c : Nat) : Nat → Prop := fun i => S i ∨ i = c
theorem Moved.one {S : Nat → Prop} {a b : World} (h : Moved S a b) (c : Nat) : Moved (with1 S c) a b := ⟨h.os, h.tape, h.output, h.size, fun i hi hs => h.block i hi (fun h' => hs (.inl h'))⟩
theorem Moved.setOne {S : Nat → Prop} {a b : World} (h : Moved S a b) (c i : Nat) (u : Value) : Moved (with1 S c) a (b.setCell ⟨c, i, none⟩ u) := (h.one c).setCell (p := ⟨c, i, none⟩) (fun _ => .inr rfl) u
theorem Rep.set1 {w : World} {b : Nat} {σ : Vf.St} {S : Nat → Prop} (h : Rep w b σ S) {c : Nat} (hc : ¬ S c) (i : Nat) (u : Value) : Rep (w.setCell ⟨c, i, none⟩ u) b σ S :=
  h.same (fun k hk => Below.heap_setCell _ _ _ _ (fun e => hc (by rw [← show k = c from e]; exact hk))) (by simp [World.setCell])
theorem grow_set {S : Nat → Prop} {w w' : World} {p : Addr} {u : Value} : grow S w (w'.setCell p u) = grow S w w' := by unfold grow; simp [World.setCell]


set_option maxRecDepth 100000 in
set_option maxHeartbeats 1000000 in
theorem refused_any (w : World) (c b q n : Nat) (br : Bool) (h : WalAt w c b q n br) (E : Int) (HE : Hid (E = if br then 7 else 0)) :
    Calls Tryz.prog 53 #[.pointer (some ⟨c, 0, none⟩)] w fun e w' => e = .returned (.int .i64 E) ∧ w' = w := by
  obtain ⟨c0, c1, c2, c3, _, _, _, cl⟩ := h.cells
  clear h
  cases br with
  | true =>
    have HF : Hid (E = 7) := HE.out
    clear HE
    go_enter Tryz.func53, Tryz.ntmps53
    go_wp2_with (fail)
    go_ret
    exact ⟨by rw [HF.out]; rfl, rfl⟩
  | false =>
    have HF : Hid (E = 0) := HE.out
    clear HE
    go_enter Tryz.func53, Tryz.ntmps53
    go_wp2_with (fail)
    go_ret
    exact ⟨by rw [HF.out]; rfl, rfl⟩

theorem noted_ok (w : World) (v : Value) (E : Int) (h : E ≠ 7) : Calls Tryz.prog 51 #[v, .int .i64 E] w fun e w' => e = .returned (.int .i64 E) ∧ w' = w := by
  have i1 : (E == 7) = false := by simpa using h
  go_enter Tryz.func51, Tryz.ntmps51
  go_wp2_with (fail)
  go_ret
  exact ⟨rfl, rfl⟩
theorem noted_off (w : World) (c b q n : Nat) (br : Bool) (h : WalAt w c b q n br) : Calls Tryz.prog 51 #[.pointer (some ⟨c, 0, none⟩), .int .i64 7] w fun e w' => e = .returned (.int .i64 7) ∧ w' = w.setCell ⟨c, 3, none⟩ (.bool true) := by
  obtain ⟨c0, c1, c2, c3, f1, f2, f3, cl⟩ := h.cells
  clear h
  go_enter Tryz.func51, Tryz.ntmps51
  go_wp2_with (fail)
  go_ret
  exact ⟨rfl, rfl⟩

set_option maxRecDepth 100000 in
set_option maxHeartbeats 1000000 in
theorem ready_ok (w : World) (c b q n : Nat) (σ : Vf.St) (S : Nat → Prop) (hr : Rep w b σ S) (h : WalAt w c b q n false) (hon : σ.on = true) : Calls Tryz.prog 48 #[.pointer (some ⟨c, 0, none⟩)] w fun e w' => e = .returned (.int .i64 0) ∧ w' = w := by
  have RF := refused_any w c b q n false h 0 rfl
  have ON := on_any w b σ S hr
  rw [hon] at ON
  obtain ⟨c0, c1, c2, c3, f1, f2, f3, cl⟩ := h.cells
  clear h hr hon
  go_enter Tryz.func48, Tryz.ntmps48
  go_wp2_with (first
    | (go_at_call 53; refine RF.mono ?_; rintro e w1 ⟨rfl, rfl⟩)
    | (go_at_call 86; refine ON.mono ?_; rintro e w1 ⟨rfl, rfl⟩))
  go_ret
  exact ⟨rfl, rfl⟩
theorem ready_broken (w : World) (c b q n : Nat) (h : WalAt w c b q n true) : Calls Tryz.prog 48 #[.pointer (some ⟨c, 0, none⟩)] w fun e w' => e = .returned (.int .i64 7) ∧ w' = w := by
  have RF := refused_any w c b q n true h 7 rfl
  clear h
  go_enter Tryz.func48, Tryz.ntmps48
  go_wp2_with (first
    | (go_at_call 53; refine RF.mono ?_; rintro e w1 ⟨rfl, rfl⟩))
  go_ret
  exact ⟨rfl, rfl⟩

def putE (σ : Vf.St) (n : Nat) (l : Vf.Bs) : Int := if Vf.appendE σ (Wl.seg n) l = 0 then Vf.syncE (Vf.append σ (Wl.seg n) l) (Wl.seg n) else Vf.appendE σ (Wl.seg n) l
def putS (σ : Vf.St) (n : Nat) (l : Vf.Bs) : Vf.St := if Vf.appendE σ (Wl.seg n) l = 0 then Vf.sync (Vf.append σ (Wl.seg n) l) (Wl.seg n) else Vf.append σ (Wl.seg n) l

set_option maxRecDepth 100000 in
set_option maxHeartbeats 2000000 in
theorem put_any (w : World) (c b q n : Nat) (br : Bool) (σ : Vf.St) (S : Nat → Prop) (hr : Rep w b σ S) (hi : Vf.Inv σ) (h : WalAt w c b q n br) (hc : ¬ S c) (h1 : 1 ≤ n) (h2 : n < 100) (g m cap : Nat) (l : Vf.Bs) (hm : m = l.length) (hs : σ.steps + l.length ≤ 80000000) (ho : w.ownsRow 0 5 1 (.slice (some ⟨g, 0, none⟩) m cap) m (bc l)) (hg : ¬ S g) :
    Calls Tryz.prog 52 #[.pointer (some ⟨c, 0, none⟩), .slice (some ⟨g, 0, none⟩) m cap] w fun e w' => e = .returned (.int .i64 (putE σ n l)) ∧ Rep w' b (putS σ n l) (grow S w w') ∧ Moved S w w' := by
  have NM := name_any w n h1 h2
  have AP : Hid (∀ wx, Below w.heap.size w wx → Calls Tryz.prog 89 #[.pointer (some ⟨b, 0, none⟩), str (Wl.seg n), .slice (some ⟨g, 0, none⟩) m cap] wx fun e w' => e = .returned (.int .i64 (Vf.appendE σ (Wl.seg n) l)) ∧ Hid (Rep w' b (Vf.append σ (Wl.seg n) l) (grow S w w')) ∧ Moved S w w') := fun wx hw => by
    subst hm
    have ho' := own_after ho hw
    refine (append_any wx b σ S (hr.later hw) hi (Wl.seg n) (by rw [Wl.seg_length]; decide) _ l (by omega) ⟨bytes_of_own ho' (by omega), fun a k d e _ hS => ?_, fun a k d e _ => ?_⟩).mono ?_
    · cases e; exact hg hS
    · cases e
      rcases ho.2 with ⟨e, _⟩ | ⟨g', cap', cur, e, _, _, hnc, _⟩
      · cases e
      · cases e; exact hnc
    · rintro e w' ⟨rfl, h3, h4⟩
      exact ⟨rfl, h3.later0 hw.size, (Moved.below hw).trans h4 (fun i _ hs => hs)⟩
  have hst := (hi.append (Wl.seg n) l).2
  have SY : Hid (∀ wx, Rep wx b (Vf.append σ (Wl.seg n) l) (grow S w wx) → Calls Tryz.prog 90 #[.pointer (some ⟨b, 0, none⟩), str (Wl.seg n)] wx fun e w' => e = .returned (.int .i64 (Vf.syncE (Vf.append σ (Wl.seg n) l) (Wl.seg n))) ∧ Hid (Rep w' b (Vf.sync (Vf.append σ (Wl.seg n) l) (Wl.seg n)) (grow (grow S w wx) wx w')) ∧ Moved (grow S w wx) wx w') := fun wx hw => sync_any wx b _ _ hw (ready (hi.append _ _).1 (by omega)) _ (by rw [Wl.seg_length]; decide) _ rfl
  have HC : Hid (∀ wx, Moved S w wx → WalAt wx c b q n br) := fun wx hm => h.moved hm hc
  obtain ⟨c0, c1, c2, c3, f1, f2, f3, cl⟩ := h.cells
  clear h ho hm hs
  by_cases hE : Vf.appendE σ (Wl.seg n) l = 0
  · have HB : Hid (putE σ n l = Vf.syncE (Vf.append σ (Wl.seg n) l) (Wl.seg n)) := if_pos hE
    have HT : Hid (putS σ n l = Vf.sync (Vf.append σ (Wl.seg n) l) (Wl.seg n)) := if_pos hE
    rw [hE] at AP
    rw [HB.out, HT.out]
    generalize Wl.seg n = k at NM AP SY
    generalize Vf.append σ k l = σ1 at AP SY
    generalize Vf.syncE σ1 k = E2 at SY
    clear hE HB HT hr hst
    go_enter Tryz.func52, Tryz.ntmps52
    go_wp2_with (first
      | (go_at_call 10; refine NM.mono ?_; rintro e w1 ⟨rfl, b1⟩; have c0 := keepC b1 c0; clear NM)
      | (go_at_call 89; refine (AP.out _ b1).mono ?_; rintro e w2 ⟨rfl, r2, m2⟩; obtain ⟨c0, _, _, _, _, _, _, _⟩ := (HC.out _ m2).cells; clear AP)
      | (go_at_call 90; refine (SY.out _ r2.out).mono ?_; rintro e w3 ⟨rfl, r3, m3⟩; clear SY))
    go_ret
    exact ⟨rfl, r3.out.grow2 m2.size m3.size, m2.grow m3⟩
  · have HB : Hid (putE σ n l = Vf.appendE σ (Wl.seg n) l) := if_neg hE
    have HT : Hid (putS σ n l = Vf.append σ (Wl.seg n) l) := if_neg hE
    rw [HB.out, HT.out]
    have hE' : (Vf.appendE σ (Wl.seg n) l != 0) = true := by simpa using hE
    generalize Vf.appendE σ (Wl.seg n) l = E1 at AP hE'
    generalize Wl.seg n = k at NM AP
    clear hE HB HT hr hst SY
    go_enter Tryz.func52, Tryz.ntmps52
    go_wp2_with (first
      | (go_at_call 10; refine NM.mono ?_; rintro e w1 ⟨rfl, b1⟩; have c0 := keepC b1 c0; clear NM)
      | (go_at_call 89; refine (AP.out _ b1).mono ?_; rintro e w2 ⟨rfl, r2, m2⟩; clear AP))
    go_ret
    exact ⟨rfl, r2.out, m2⟩
end Go.Proofs.YtppfkhpofbbnbaaGreatDoor
namespace Go.Proofs.YtppfkhpofbbnbaaGreatDoor
open Go.RowKit Go.Maps Go.Sort

/-- The frame of a batch. -/
def frB (q : Nat) (l : List Wl.Wr) : List UInt8 := frm (Wl.record q l)

section
variable (w : World) (c b q n : Nat) (σ : Vf.St) (S : Nat → Prop) (hr : Rep w b σ S) (hi : Vf.Inv σ) (h : WalAt w c b q n false) (hc : ¬ S c) (hon : σ.on = true) (a : Option Addr) (m cap : Nat) (l : List Wl.Wr) (hl : WrsAt w (.slice a m cap) l) (hm : m = l.length) (hk : ∀ x ∈ l, x.key.length ≤ 1000000 ∧ x.value.length ≤ 1000000)
include hr h hon hl hm hk

set_option maxRecDepth 100000 in
set_option maxHeartbeats 2000000 in
theorem walAppend_bad (hm2 : m ≤ 140737488355328) (E : Int) (HE : Hid (E = Wl.checkE l)) (hE : E ≠ 0) :
    Calls Tryz.prog 16 #[.pointer (some ⟨c, 0, none⟩), .slice a m cap] w fun e w' => e = .returned (.tuple #[.int .i64 0, .int .i64 E]) ∧ Below w.heap.size w w' := by
  have RY := ready_ok w c b q n σ S hr h hon
  have CK := check_any w a cap m l hl hm hm2 hk E HE
  have hE' : (E != 0) = true := by simpa using hE
  clear hr h hon hl hm hk HE hE
  go_enter Tryz.func16, Tryz.ntmps16
  go_wp2_with (first
    | (go_at_call 48; refine RY.mono ?_; rintro e w1 ⟨rfl, rfl⟩; clear RY)
    | (go_at_call 11; refine CK.mono ?_; rintro e w2 ⟨rfl, b2⟩; clear CK))
  go_ret2
  exact ⟨rfl, b2⟩

include hi hc
set_option maxRecDepth 100000 in
set_option maxHeartbeats 4000000 in
theorem walAppend_put (h1 : 1 ≤ n) (h2 : n < 100) (hck : Wl.checkE l = 0) (hq : q < 1073741824) (hs : σ.steps ≤ 70000000) :
    Hid (((frB (q + 1) l).length : Int) > Vf.left σ ∧ Calls Tryz.prog 16 #[.pointer (some ⟨c, 0, none⟩), .slice a m cap] w (fun e w' => e = .returned (.tuple #[.int .i64 0, .int .i64 8]) ∧ Below w.heap.size w w')) ∨
    Hid (((frB (q + 1) l).length : Int) ≤ Vf.left σ ∧ (putE σ n (frB (q + 1) l) = 0 → Calls Tryz.prog 16 #[.pointer (some ⟨c, 0, none⟩), .slice a m cap] w (fun e w' => e = .returned (.tuple #[.int .i64 ((q : Int) + 1), .int .i64 0]) ∧ Rep w' b (putS σ n (frB (q + 1) l)) (grow S w w') ∧ WalAt w' c b (q + 1) n false ∧ Moved (with1 S c) w w')) ∧
      (putE σ n (frB (q + 1) l) = 7 → Calls Tryz.prog 16 #[.pointer (some ⟨c, 0, none⟩), .slice a m cap] w (fun e w' => e = .returned (.tuple #[.int .i64 0, .int .i64 7]) ∧ Rep w' b (putS σ n (frB (q + 1) l)) (grow S w w') ∧ WalAt w' c b q n true ∧ Moved (with1 S c) w w'))) := by
  have hrl := Wl.record_len (q + 1) l (by omega) hck
  have hlow := hr.low
  have RY := ready_ok w c b q n σ S hr h hon
  have CK := check_any w a cap m l hl hm (by have := (Wl.checkE_ok hck).2.1; omega) hk 0 hck.symm
  have RC : Hid (∀ wx, Below w.heap.size w wx → Calls Tryz.prog 39 #[.int .i64 ((q : Int) + 1), .slice a m cap] wx fun e w' => ∃ g k, e = .returned (.slice (some ⟨g, 0, none⟩) (Wl.record (q + 1) l).length k) ∧ Hid (w'.ownsRow wx.heap.size 5 1 (.slice (some ⟨g, 0, none⟩) (Wl.record (q + 1) l).length k) (Wl.record (q + 1) l).length (bc (Wl.record (q + 1) l))) ∧ Below wx.heap.size wx w') := fun wx hw => by
    subst hm
    have := record_any wx a cap (q + 1) l (hl.later hw) (by omega) hck
    rw [Int.natCast_add] at this
    exact this
  have FA : Hid (∀ wx g k, wx.ownsRow w.heap.size 5 1 (.slice (some ⟨g, 0, none⟩) (Wl.record (q + 1) l).length k) (Wl.record (q + 1) l).length (bc (Wl.record (q + 1) l)) → Calls Tryz.prog 49 #[.slice none 0 0, .slice (some ⟨g, 0, none⟩) (Wl.record (q + 1) l).length k] wx fun e w' => ∃ g' k', e = .returned (.tuple #[.slice (some ⟨g', 0, none⟩) (frB (q + 1) l).length k', .int .i64 0]) ∧ Hid (w'.ownsRow wx.heap.size 5 1 (.slice (some ⟨g', 0, none⟩) (frB (q + 1) l).length k') (frB (q + 1) l).length (bc (frB (q + 1) l))) ∧ Below wx.heap.size wx w') := fun wx g k ho => by
    have := fappend_any wx none (some ⟨g, 0, none⟩) 0 k [] (Wl.record (q + 1) l) ⟨⟨none, 0, rfl, fun h => absurd rfl h⟩, by simp⟩ (bytes_of_own ho (by omega)) (fun _ => rfl) (by omega) (by simp; omega)
    have el : ([] : List UInt8).length + (Wl.record (q + 1) l).length + 12 = (frB (q + 1) l).length := by unfold frB; rw [frm_length]; simp
    rw [el, List.nil_append] at this
    refine this.mono ?_
    rintro e w' ⟨g', k', rfl, hx⟩
    exact ⟨g', k', rfl, hx.own, hx.below (Nat.le_refl _) (by simp [Value.ownBlock])⟩
  have hfl : (frB (q + 1) l).length ≤ 302012 := by unfold frB; rw [frm_length]; omega
  have LF : Hid (∀ wx, Below w.heap.size w wx → Calls Tryz.prog 50 #[.pointer (some ⟨b, 0, none⟩)] wx fun e w' => e = .returned (.int .i64 (Vf.left σ)) ∧ Below wx.heap.size wx w') := fun wx hw => left_any wx b σ S (hr.later hw) (ready hi (by omega)).used hi.room _ rfl
  have HW : Hid (∀ wx, Below w.heap.size w wx → WalAt wx c b q n false) := fun wx hw => h.later hw
  have PU : Hid (∀ wx g k, Below w.heap.size w wx → w.heap.size ≤ g → wx.ownsRow 0 5 1 (.slice (some ⟨g, 0, none⟩) (frB (q + 1) l).length k) (frB (q + 1) l).length (bc (frB (q + 1) l)) → Calls Tryz.prog 52 #[.pointer (some ⟨c, 0, none⟩), .slice (some ⟨g, 0, none⟩) (frB (q + 1) l).length k] wx fun e w' => e = .returned (.int .i64 (putE σ n (frB (q + 1) l))) ∧ Hid (Rep w' b (putS σ n (frB (q + 1) l)) (grow S wx w')) ∧ Moved S wx w') := fun wx g k hw hg ho => put_any wx c b q n false σ S (hr.later hw) hi (h.later hw) hc h1 h2 g _ k _ rfl (by omega) ho (fun hS => by have := hlow g hS; omega)
  have HLOW := hide hlow
  have HC := hide hc
  clear hr hi hon hl hk hlow hs hm hck hc
  obtain ⟨c0, c1, c2, c3, f1, f2, f3, cl⟩ := h.cells
  generalize hF : frB (q + 1) l = F at FA PU hfl
  generalize Wl.record (q + 1) l = R at RC FA hrl
  obtain ⟨RL, hRL⟩ : ∃ x, x = R.length := ⟨_, rfl⟩
  obtain ⟨FL, hFL⟩ : ∃ x, x = F.length := ⟨_, rfl⟩
  have HRL := hide hRL
  have HFL := hide hFL
  rw [← hRL, ← hFL] at FA
  rw [← hRL] at RC
  rw [← hFL] at PU hfl
  have i0 : ((q : Int) == 1073741824) = false := by simp; omega
  generalize Vf.left σ = LL at LF
  clear hF hRL hrl h
  by_cases hfit : (FL : Int) > LL
  · refine .inl ⟨by rw [← hFL]; exact hfit, ?_⟩
    clear PU hFL
    go_enter Tryz.func16, Tryz.ntmps16
    go_wp2_with (first
      | (go_at_call 48; refine RY.mono ?_; rintro e w1 ⟨rfl, rfl⟩; clear RY)
      | (go_at_call 11; refine CK.mono ?_; rintro e w2 ⟨rfl, b2⟩; obtain ⟨c0, c1, _, _, _, _, _, _⟩ := (HW.out _ b2).cells; clear CK)
      | (go_at_call 39; refine (RC.out _ b2).mono ?_; rintro e w3 ⟨g3, k3, rfl, o3, b3⟩; have d3 := b2.trans (b3.mono b2.size); clear RC)
      | (go_at_call 49; refine (FA.out _ _ _ (own_mono o3.out b2.size)).mono ?_; rintro e w4 ⟨g4, k4, rfl, o4, b4⟩; have d4 := d3.trans (b4.mono d3.size); obtain ⟨c0, _, _, _, _, _, _, _⟩ := (HW.out _ d4).cells; clear FA)
      | (go_at_call 50; refine (LF.out _ d4).mono ?_; rintro e w5 ⟨rfl, b5⟩; have d5 := d4.trans (b5.mono d4.size); have o5 := hide (own_after o4.out b5); clear LF))
    go_ret2
    exact ⟨rfl, d5⟩
  · refine .inr ⟨by rw [← hFL]; omega, fun hE => ?_, fun hE => ?_⟩
    · rw [hE] at PU
      have NO : Hid (∀ wx : World, Calls Tryz.prog 51 #[.pointer (some ⟨c, 0, none⟩), .int .i64 0] wx fun e w' => e = .returned (.int .i64 0) ∧ w' = wx) := fun wx => noted_ok wx _ 0 (by decide)
      generalize putS σ n F = σ' at PU
      clear hE hFL
      go_enter Tryz.func16, Tryz.ntmps16
      go_wp2_with (first
        | (go_at_call 48; refine RY.mono ?_; rintro e w1 ⟨rfl, rfl⟩; clear RY)
        | (go_at_call 11; refine CK.mono ?_; rintro e w2 ⟨rfl, b2⟩; obtain ⟨c0, c1, _, _, _, _, _, _⟩ := (HW.out _ b2).cells; clear CK)
        | (go_at_call 39; refine (RC.out _ b2).mono ?_; rintro e w3 ⟨g3, k3, rfl, o3, b3⟩; have d3 := b2.trans (b3.mono b2.size); clear RC)
        | (go_at_call 49; refine (FA.out _ _ _ (own_mono o3.out b2.size)).mono ?_; rintro e w4 ⟨g4, k4, rfl, o4, b4⟩; have d4 := d3.trans (b4.mono d3.size); obtain ⟨c0, _, _, _, _, _, _, _⟩ := (HW.out _ d4).cells; clear FA)
        | (go_at_call 50; refine (LF.out _ d4).mono ?_; rintro e w5 ⟨rfl, b5⟩; have d5 := d4.trans (b5.mono d4.size); have o5 := hide (own_after o4.out b5); clear LF)
        | (go_at_call 52; refine (PU.out _ _ _ d5 (Nat.le_trans d3.size (o4.out.lt g4 rfl).1) (own_mono o5.out (Nat.zero_le _))).mono ?_; rintro e w6 ⟨rfl, r6, m6⟩; have W6 := (HW.out _ d5).moved m6 HC.out; clear PU)
        | (go_at_call 51; refine (NO.out _).mono ?_; rintro e w7 ⟨rfl, rfl⟩; obtain ⟨c0, c1, _, _, f1, _, _, _⟩ := W6.cells; clear NO))
      go_ret2
      have ngc : ¬ grow S w1 w7 c := fun hg => by
        rcases hg with hg | hg
        · exact HC.out hg
        · omega
      refine ⟨rfl, ?_, ?_, ?_⟩
      · rw [grow_set]
        exact (r6.out.later0 d5.size).set1 ngc 1 _
      · have := W6.seq (q + 1)
        rw [Int.natCast_add] at this
        exact this
      · exact ((Moved.below d5).trans m6 (fun i _ hs => hs)).setOne c 1 _
    · rw [hE] at PU
      have NO : Hid (∀ wx : World, WalAt wx c b q n false → Calls Tryz.prog 51 #[.pointer (some ⟨c, 0, none⟩), .int .i64 7] wx fun e w' => e = .returned (.int .i64 7) ∧ w' = wx.setCell ⟨c, 3, none⟩ (.bool true)) := fun wx hw => noted_off wx c b q n false hw
      generalize putS σ n F = σ' at PU
      clear hE hFL
      go_enter Tryz.func16, Tryz.ntmps16
      go_wp2_with (first
        | (go_at_call 48; refine RY.mono ?_; rintro e w1 ⟨rfl, rfl⟩; clear RY)
        | (go_at_call 11; refine CK.mono ?_; rintro e w2 ⟨rfl, b2⟩; obtain ⟨c0, c1, _, _, _, _, _, _⟩ := (HW.out _ b2).cells; clear CK)
        | (go_at_call 39; refine (RC.out _ b2).mono ?_; rintro e w3 ⟨g3, k3, rfl, o3, b3⟩; have d3 := b2.trans (b3.mono b2.size); clear RC)
        | (go_at_call 49; refine (FA.out _ _ _ (own_mono o3.out b2.size)).mono ?_; rintro e w4 ⟨g4, k4, rfl, o4, b4⟩; have d4 := d3.trans (b4.mono d3.size); obtain ⟨c0, _, _, _, _, _, _, _⟩ := (HW.out _ d4).cells; clear FA)
        | (go_at_call 50; refine (LF.out _ d4).mono ?_; rintro e w5 ⟨rfl, b5⟩; have d5 := d4.trans (b5.mono d4.size); have o5 := hide (own_after o4.out b5); clear LF)
        | (go_at_call 52; refine (PU.out _ _ _ d5 (Nat.le_trans d3.size (o4.out.lt g4 rfl).1) (own_mono o5.out (Nat.zero_le _))).mono ?_; rintro e w6 ⟨rfl, r6, m6⟩; have W6 := (HW.out _ d5).moved m6 HC.out; clear PU)
        | (go_at_call 51; refine (NO.out _ W6).mono ?_; rintro e w7 ⟨rfl, HW7⟩; have E7 := hide HW7; clear NO HW7))
      go_ret2
      have ngc : ¬ grow S w1 w6 c := fun hg => by
        rcases hg with hg | hg
        · exact HC.out hg
        · omega
      rw [E7.out]
      refine ⟨rfl, ?_, W6.broke, ?_⟩
      · rw [grow_set]
        exact (r6.out.later0 d5.size).set1 ngc 3 _
      · exact ((Moved.below d5).trans m6 (fun i _ hs => hs)).setOne c 3 _
end
end Go.Proofs.YtppfkhpofbbnbaaGreatDoor
namespace Go.Proofs.YtppfkhpofbbnbaaGreatDoor
open Go.RowKit Go.Maps Go.Sort

theorem beginS_inv {σ : Vf.St} (h : Vf.Inv σ) (n : Nat) : Vf.Inv (beginS σ n) := by
  unfold beginS
  split
  · exact (h.create _).syncNames
  · exact h.create _
theorem putS_inv {σ : Vf.St} (h : Vf.Inv σ) (n : Nat) (l : Vf.Bs) : Vf.Inv (putS σ n l) := by
  unfold putS
  split
  · exact (h.append _ _).1.sync _
  · exact (h.append _ _).1

namespace Lv
def k : Wl.Bs := [97]
def l1 : List Wl.Wr := [⟨[97], [49], false⟩]
def l2 : List Wl.Wr := [⟨[97], [], true⟩]
def s0 : Vf.St := Vf.new 10000
def s1 : Vf.St := beginS s0 1
def s2 : Vf.St := putS s1 1 (frB 1 l1)
def s3 : Vf.St := putS s2 1 (frB 2 l2)
theorem n0 : namesOf s0 = [] := by decide +kernel
theorem e0 : beginE s0 1 = 0 := by decide +kernel
theorem on1 : s1.on = true := by decide +kernel
theorem on2 : s2.on = true := by decide +kernel
theorem t1 : s1.steps ≤ 1000 := by decide +kernel
theorem t2 : s2.steps ≤ 1000 := by decide +kernel
theorem c1 : Wl.checkE l1 = 0 := by decide +kernel
theorem c2 : Wl.checkE l2 = 0 := by decide +kernel
theorem f1 : ((frB 1 l1).length : Int) ≤ Vf.left s1 := by decide +kernel
theorem f2 : ((frB 2 l2).length : Int) ≤ Vf.left s2 := by decide +kernel
theorem p1 : putE s1 1 (frB 1 l1) = 0 := by decide +kernel
theorem p2 : putE s2 1 (frB 2 l2) = 0 := by decide +kernel
end Lv

/-- A log and its file system that a call made for itself. -/
structure WlIn (base : Nat) (w : World) (c b q n : Nat) (σ : Vf.St) : Prop where
  rep : ∃ S, Rep w b σ S ∧ (∀ i, S i → base ≤ i) ∧ ¬ S c
  wal : WalAt w c b q n false
  new : base ≤ c
  low : base ≤ w.heap.size

theorem WlIn.later {base : Nat} {w w' : World} {c b q n : Nat} {σ : Vf.St} (h : WlIn base w c b q n σ) (hb : Below w.heap.size w w') : WlIn base w' c b q n σ := by
  obtain ⟨S, h1, h2, h3⟩ := h.rep
  exact ⟨⟨S, h1.later hb, h2, h3⟩, h.wal.later hb, h.new, Nat.le_trans h.low hb.size⟩

theorem wseq_any (w : World) (c b q n : Nat) (h : WalAt w c b q n false) : Calls Tryz.prog 18 #[.pointer (some ⟨c, 0, none⟩)] w fun e w' => e = .returned (.int .i64 (q : Int)) ∧ w' = w := by
  have RF := hide (refused_any w c b q n false h 0 rfl)
  obtain ⟨_, c1, _, _, _, _, _, cl⟩ := h.cells
  clear h
  go_enter Tryz.func18, Tryz.ntmps18
  go_wp2_with (go_at_call 53; refine still RF.out ?_)
  go_ret
  exact ⟨rfl, rfl⟩
theorem wsegment_any (w : World) (c b q n : Nat) (h : WalAt w c b q n false) : Calls Tryz.prog 17 #[.pointer (some ⟨c, 0, none⟩)] w fun e w' => e = .returned (.int .i64 (n : Int)) ∧ w' = w := by
  have RF := hide (refused_any w c b q n false h 0 rfl)
  obtain ⟨_, _, c2, _, _, _, _, cl⟩ := h.cells
  clear h
  go_enter Tryz.func17, Tryz.ntmps17
  go_wp2_with (go_at_call 53; refine still RF.out ?_)
  go_ret
  exact ⟨rfl, rfl⟩

theorem lput_any (w : World) (k v : ByteArray) : Calls Tryz.prog 9 #[.string k, .string v] w fun e w' => e = .returned (.slice (some ⟨w.heap.size, 0, none⟩) 1 1) ∧ w' = w.alloc (.cells #[.string k, .string v, .bool false] 34) := by
  go_enter Tryz.func9, Tryz.ntmps9
  go_wp2_with (fail)
  go_ret
  exact ⟨rfl, rfl⟩

/-- One write, in a block of its own. -/
theorem one_write (w : World) (k v : Wl.Bs) (d : Bool) : WrsAt (w.alloc (.cells #[str k, str v, .bool d] 34)) (.slice (some ⟨w.heap.size, 0, none⟩) 1 1) [⟨k, v, d⟩] := by
  refine ⟨⟨_, 1, rfl, fun _ => ⟨_, 0, rfl, fun j hj => ?_⟩⟩⟩
  have : j = 0 := by simpa using hj
  subst this
  have e := World.alloc_heap_new w (.cells #[str k, str v, .bool d] 34)
  refine ⟨?_, ?_, ?_⟩ <;> (simp only [World.cell?]; rw [e]; rfl)

theorem append_ok {base : Nat} {w : World} {c b q n : Nat} {σ : Vf.St} (h : WlIn base w c b q n σ) (hi : Vf.Inv σ) (hon : σ.on = true) (a : Option Addr) (m cap : Nat) (l : List Wl.Wr) (hl : WrsAt w (.slice a m cap) l) (hm : m = l.length) (hk : ∀ x ∈ l, x.key.length ≤ 1000000 ∧ x.value.length ≤ 1000000)
    (h1 : 1 ≤ n) (h2 : n < 100) (hck : Wl.checkE l = 0) (hq : q < 1073741824) (hs : σ.steps ≤ 70000000) (hf : ((frB (q + 1) l).length : Int) ≤ Vf.left σ) (hp : putE σ n (frB (q + 1) l) = 0) :
    Calls Tryz.prog 16 #[.pointer (some ⟨c, 0, none⟩), .slice a m cap] w fun e w' => e = .returned (.tuple #[.int .i64 ((q : Int) + 1), .int .i64 0]) ∧ WlIn base w' c b (q + 1) n (putS σ n (frB (q + 1) l)) ∧ Below base w w' := by
  obtain ⟨S, hr, hS, hc⟩ := h.rep
  have hlow := h.low
  rcases walAppend_put w c b q n σ S hr hi h.wal hc hon a m cap l hl hm hk h1 h2 hck hq hs with hx | hx
  · exact absurd hx.out.1 (by omega)
  · refine (hx.out.2.1 hp).mono ?_
    rintro e w' ⟨rfl, r, hw, hm⟩
    refine ⟨rfl, ⟨⟨_, r, fun i hi => ?_, fun hg => ?_⟩, hw, h.new, Nat.le_trans h.low hm.size⟩, hm.under h.low fun i hi => ?_⟩
    · rcases hi with hi | hi
      · exact hS i hi
      · omega
    · rcases hg with hg | hg
      · exact hc hg
      · have := (Array.getElem?_eq_some_iff.1 h.wal).1
        omega
    · rcases hi with hi | hi
      · exact hS i hi
      · subst hi; exact h.new

set_option maxRecDepth 100000 in
theorem lopen (w : World) (base b : Nat) (h : FsIn base w.heap.size w b Lv.s0) : Calls Tryz.prog 15 #[.pointer (some ⟨b, 0, none⟩), .int .i64 1, .int .i64 0] w fun e w' => ∃ c a k, e = .returned (.tuple #[.pointer (some ⟨c, 0, none⟩), .slice a 0 k, .int .i64 0]) ∧ WlIn base w' c b 0 1 Lv.s1 ∧ Below base w w' := by
  obtain ⟨S, hr, hS⟩ := h.rep
  refine (open_ok w b Lv.s0 S hr h.inv (by decide) rfl [] (by simp) (by simp) (by rw [Lv.n0]; rfl) (by simp) (by simp) 1 0 (by decide) (by decide) (by decide) [] 1 rfl (by simp) (by simp) rfl (by decide) (by decide) Lv.e0 0 rfl).mono ?_
  rintro e w' ⟨c, v, rfl, ho⟩
  obtain ⟨S', vs, r, hs, hc, hB, _, _⟩ := ho.all
  obtain ⟨a, k, rfl, _⟩ := hB.shape
  have hlow := h.low
  refine ⟨c, a, k, rfl, ⟨⟨S', r, fun i hi => ?_, hc⟩, ho.wal, Nat.le_trans hlow ho.new, Nat.le_trans hlow ho.moved.size⟩, ho.moved.under hlow fun i hi => (hS i hi).1⟩
  rcases hs i hi with h' | h'
  · exact (hS i h').1
  · omega

set_option maxRecDepth 100000 in
set_option maxHeartbeats 4000000 in
theorem wlives_any (w : World) : Calls Tryz.prog 12 #[] w fun e w' => e = .returned (.bool true) ∧ Below w.heap.size w w' := by
  have NW : Hid (Calls Tryz.prog 14 #[.int .i64 10000] w fun e w' => ∃ b, e = .returned (.tuple #[.pointer (some ⟨b, 0, none⟩), .int .i64 0]) ∧ FsIn w.heap.size w'.heap.size w' b Lv.s0 ∧ Below w.heap.size w w') := new_fs w 10000 (by decide)
  have OP : Hid (∀ wx b, FsIn w.heap.size wx.heap.size wx b Lv.s0 → Calls Tryz.prog 15 #[.pointer (some ⟨b, 0, none⟩), .int .i64 1, .int .i64 0] wx fun e w' => ∃ c a k, e = .returned (.tuple #[.pointer (some ⟨c, 0, none⟩), .slice a 0 k, .int .i64 0]) ∧ WlIn w.heap.size w' c b 0 1 Lv.s1 ∧ Below w.heap.size wx w') := fun wx b h => lopen wx _ b h
  have PT : Hid (∀ wx : World, Calls Tryz.prog 9 #[.string ⟨#[97]⟩, .string ⟨#[49]⟩] wx fun e w' => e = .returned (.slice (some ⟨wx.heap.size, 0, none⟩) 1 1) ∧ w' = wx.alloc (.cells #[.string ⟨#[97]⟩, .string ⟨#[49]⟩, .bool false] 34)) := fun wx => lput_any wx _ _
  have i0 : Vf.Inv Lv.s0 := Vf.Inv.new (by decide)
  have i1 : Vf.Inv Lv.s1 := beginS_inv i0 1
  have i2 : Vf.Inv Lv.s2 := putS_inv i1 1 _
  have A1 : Hid (∀ wx c b, WlIn w.heap.size wx c b 0 1 Lv.s1 → Calls Tryz.prog 16 #[.pointer (some ⟨c, 0, none⟩), .slice (some ⟨wx.heap.size, 0, none⟩) 1 1] (wx.alloc (.cells #[.string ⟨#[97]⟩, .string ⟨#[49]⟩, .bool false] 34)) fun e w' => e = .returned (.tuple #[.int .i64 1, .int .i64 0]) ∧ WlIn w.heap.size w' c b 1 1 Lv.s2 ∧ Below w.heap.size wx w') := fun wx c b h => by
    have hb : Below wx.heap.size wx (wx.alloc (.cells #[.string ⟨#[97]⟩, .string ⟨#[49]⟩, .bool false] 34)) := (Below.refl _ _).alloc (Nat.le_refl _) _
    refine (append_ok (h.later hb) i1 Lv.on1 _ _ _ Lv.l1 (one_write wx [97] [49] false) rfl (by decide) (by decide) (by decide) Lv.c1 (by decide) (by have := Lv.t1; omega) Lv.f1 Lv.p1).mono ?_
    rintro e w' ⟨rfl, h1, h2⟩
    exact ⟨rfl, h1, (hb.mono h.low).trans h2⟩
  have A2 : Hid (∀ wx c b, WlIn w.heap.size wx c b 1 1 Lv.s2 → Calls Tryz.prog 16 #[.pointer (some ⟨c, 0, none⟩), .slice (some ⟨wx.heap.size, 0, none⟩) 1 1] (wx.alloc (.cells #[.string ⟨#[97]⟩, .string ⟨#[]⟩, .bool true] 34)) fun e w' => e = .returned (.tuple #[.int .i64 2, .int .i64 0]) ∧ WlIn w.heap.size w' c b 2 1 Lv.s3 ∧ Below w.heap.size wx w') := fun wx c b h => by
    have hb : Below wx.heap.size wx (wx.alloc (.cells #[.string ⟨#[97]⟩, .string ⟨#[]⟩, .bool true] 34)) := (Below.refl _ _).alloc (Nat.le_refl _) _
    refine (append_ok (h.later hb) i2 Lv.on2 _ _ _ Lv.l2 (one_write wx [97] [] true) rfl (by decide) (by decide) (by decide) Lv.c2 (by decide) (by have := Lv.t2; omega) Lv.f2 Lv.p2).mono ?_
    rintro e w' ⟨rfl, h1, h2⟩
    exact ⟨rfl, h1, (hb.mono h.low).trans h2⟩
  have SQ : Hid (∀ wx c b, WlIn w.heap.size wx c b 2 1 Lv.s3 → Calls Tryz.prog 18 #[.pointer (some ⟨c, 0, none⟩)] wx fun e w' => e = .returned (.int .i64 2) ∧ w' = wx) := fun wx c b h => wseq_any wx c b 2 1 h.wal
  have SG : Hid (∀ wx c b, WlIn w.heap.size wx c b 2 1 Lv.s3 → Calls Tryz.prog 17 #[.pointer (some ⟨c, 0, none⟩)] wx fun e w' => e = .returned (.int .i64 1) ∧ w' = wx) := fun wx c b h => wsegment_any wx c b 2 1 h.wal
  clear i0 i1 i2
  go_enter Tryz.func12, Tryz.ntmps12
  go_wp2_with (first
    | (go_at_call 14; refine NW.out.mono ?_; rintro e w1 ⟨b, rfl, f1, b1⟩; clear NW)
    | (go_at_call 15; refine (OP.out _ _ f1).mono ?_; rintro e w2 ⟨c, a, k, rfl, f2, b2⟩; have B2 := b1.trans b2; clear OP f1 b2)
    | (go_at_call 9; refine still2 (PT.out _) ?_; clear PT)
    | (go_at_call 16; have tok := f2; refine (A1.out _ _ _ f2).mono ?_; rintro e w3 ⟨rfl, f3, b3⟩; have B3 := B2.trans b3; clear A1 f2 b3 tok)
    | (go_at_call 16; have tok := f3; refine (A2.out _ _ _ f3).mono ?_; rintro e w4 ⟨rfl, f4, b4⟩; have B4 := B3.trans b4; clear A2 f3 b4 tok)
    | (go_at_call 18; refine still (SQ.out _ _ _ f4) ?_; clear SQ)
    | (go_at_call 17; refine still (SG.out _ _ _ f4) ?_; clear SG))
  go_ret
  exact ⟨rfl, B4⟩
end Go.Proofs.YtppfkhpofbbnbaaGreatDoor
namespace Go.Proofs.YtppfkhpofbbnbaaGreatDoor
open Go.RowKit Go.Maps Go.Sort

/-- No log. -/
def NoWal (w : World) (r : Value) : Prop := r = .pointer none ∨ ∃ b, r = .pointer (some ⟨b, 0, none⟩) ∧ w.cell? ⟨b, 0, none⟩ = some (.pointer none)
theorem NoWal.later {w w' : World} {r : Value} (h : NoWal w r) (hb : Below w.heap.size w w') : NoWal w' r := by
  rcases h with h | ⟨b, h, hc⟩
  · exact .inl h
  · exact .inr ⟨b, h, keepC hb hc⟩
theorem wrefused_nil (w : World) : Calls Tryz.prog 53 #[.pointer none] w fun e w' => e = .returned (.int .i64 1) ∧ w' = w := by
  go_enter Tryz.func53, Tryz.ntmps53
  go_wp2_with (fail)
  go_ret
  exact ⟨rfl, rfl⟩
theorem wrefused_zero (w : World) (b : Nat) (hc : w.cell? ⟨b, 0, none⟩ = some (.pointer none)) : Calls Tryz.prog 53 #[.pointer (some ⟨b, 0, none⟩)] w fun e w' => e = .returned (.int .i64 1) ∧ w' = w := by
  go_enter Tryz.func53, Tryz.ntmps53
  go_wp2_with (fail)
  go_ret
  exact ⟨rfl, rfl⟩
section
variable {w : World} {r : Value}
theorem wno_refused (h : NoWal w r) : Calls Tryz.prog 53 #[r] w fun e w' => e = .returned (.int .i64 1) ∧ w' = w := by
  rcases h with rfl | ⟨b, rfl, hc⟩
  · exact wrefused_nil w
  · exact wrefused_zero w b hc
theorem wno_ready (h : NoWal w r) : Calls Tryz.prog 48 #[r] w fun e w' => e = .returned (.int .i64 1) ∧ w' = w := by
  have q := wno_refused h
  clear h
  go_enter Tryz.func48, Tryz.ntmps48
  go_wp2_with (go_at_call 53; refine still q ?_)
  go_ret
  exact ⟨rfl, rfl⟩
theorem wno_append (h : NoWal w r) (v : Value) : Calls Tryz.prog 16 #[r, v] w fun e w' => e = .returned (.tuple #[.int .i64 0, .int .i64 1]) ∧ w' = w := by
  have q := wno_ready h
  clear h
  go_enter Tryz.func16, Tryz.ntmps16
  go_wp2_with (go_at_call 48; refine still q ?_)
  go_ret2
  exact ⟨rfl, rfl⟩
theorem wno_roll (h : NoWal w r) : Calls Tryz.prog 30 #[r] w fun e w' => e = .returned (.int .i64 1) ∧ w' = w := by
  have q := wno_ready h
  clear h
  go_enter Tryz.func30, Tryz.ntmps30
  go_wp2_with (go_at_call 48; refine still q ?_)
  go_ret
  exact ⟨rfl, rfl⟩
theorem wno_seq (h : NoWal w r) : Calls Tryz.prog 18 #[r] w fun e w' => e = .returned (.int .i64 0) ∧ w' = w := by
  have q := wno_refused h
  clear h
  go_enter Tryz.func18, Tryz.ntmps18
  go_wp2_with (go_at_call 53; refine still q ?_)
  go_ret
  exact ⟨rfl, rfl⟩
theorem wno_segment (h : NoWal w r) : Calls Tryz.prog 17 #[r] w fun e w' => e = .returned (.int .i64 0) ∧ w' = w := by
  have q := wno_refused h
  clear h
  go_enter Tryz.func17, Tryz.ntmps17
  go_wp2_with (go_at_call 53; refine still q ?_)
  go_ret
  exact ⟨rfl, rfl⟩
set_option maxHeartbeats 1600000 in
theorem wno_drop_ptr (p : Option Addr) (h : NoWal w (.pointer p)) (n : Int) : Calls Tryz.prog 31 #[.pointer p, .int .i64 n] w fun e w' => e = .returned (.int .i64 1) ∧ Below w.heap.size w w' := by
  have B0 : Below w.heap.size w (((w.alloc (.cells #[.pointer p] 40)).alloc (.cells #[.int .i64 n] 3)).alloc (.cells #[.int .i64 0] 23)) := (((Below.refl _ _).alloc (Nat.le_refl _) _).alloc (by simp) _).alloc (by simp; omega) _
  have q := wno_ready (h.later B0)
  clear h
  refine (callsIn_wide (n := 5)).1 ?_
  refine callsIn_of_wp_marks Tryz.func31 rfl trivial ?_ rfl
  simp only [Tryz.ntmps31, List.size_toArray, List.length_cons, List.length_nil, Nat.reduceAdd, Nat.reduceSub, Array.replicate_succ, Array.replicate_zero, List.push_toArray, List.append_toArray, List.nil_append, List.cons_append]
  rw [wpIn_wide]
  go_wp2_with (first
    | (go_at_call 48; refine still q ?_))
  have XE := Boxed.new ((w.alloc (.cells #[.pointer p] 40)).alloc (.cells #[.int .i64 n] 3)) 23 (.int .i64 1)
  rw [World.size_alloc, World.size_alloc] at XE
  have ce := XE.cell
  exact ⟨.int .i64 1, (by simp [results, Tryz.results31, go_sem, ce]), rfl, (((Below.refl _ _).alloc (Nat.le_refl _) _).alloc (by simp) _).alloc (by simp; omega) _⟩
theorem wno_drop (h : NoWal w r) (n : Int) : Calls Tryz.prog 31 #[r, .int .i64 n] w fun e w' => e = .returned (.int .i64 1) ∧ Below w.heap.size w w' := by
  have h' := h
  rcases h' with rfl | ⟨b, rfl, _⟩
  · exact wno_drop_ptr none h n
  · exact wno_drop_ptr _ h n
theorem wno_open (h : NoFs w r) (n t : Int) : Calls Tryz.prog 15 #[r, .int .i64 n, .int .i64 t] w fun e w' => e = .returned (.tuple #[.pointer none, .slice none 0 0, .int .i64 1]) ∧ Below w.heap.size w w' := by
  have q := no_read h ⟨#[]⟩
  clear h
  go_enter Tryz.func15, Tryz.ntmps15
  go_wp2_with (go_at_call 35; refine q.mono ?_; rintro e w1 ⟨rfl, b1⟩; clear q)
  go_ret3
  exact ⟨rfl, b1⟩
end
end Go.Proofs.YtppfkhpofbbnbaaGreatDoor
