/-
  Proved: for all bytes b, every sum, every place at and all bits the call CrcCalls(b, sum, at, bits) returns true and leaves its arguments as they were: sums, seals and bursts are what the document says, what is handed in stays, and what is told is new memory.
  Conditions: none beyond the form's own reach.
-/
import Derived.Test.YtgfncfpcobkebaaCFrame
import Derived.Test.YtgfncfpcobkebaaKApart
import Derived.Test.YtgfncfpcobkebaaRBurst
import Derived.Test.YtgfncfpcobkebaaROpened
namespace Go.Proofs.Ytgfncfpcobkebaa.crcCalls
open Go.ChangeShapes Go.WideShapes Go.ChangeAt Go.RowKit
open Go.Proofs.Ytgfncfpcobkebaa

/-- A list that the call owns, as a row. -/
def rowOf (v : Value) (l : List UInt8) : Row :=
  match v with
  | .slice (some a) _ cap => ⟨some a.block, cap, l⟩
  | .slice none _ cap => ⟨none, cap, l⟩
  | _ => ⟨none, 0, l⟩
theorem rowOf_bs (v : Value) (l : List UInt8) : (rowOf v l).bs = l := by
  unfold rowOf
  split <;> rfl
theorem rowOf_val {w : World} {base : Nat} {v : Value} {l : List UInt8} (h : w.ownsRow base 5 1 v l.length (bc l)) : (rowOf v l).val = v := by
  rcases h.2 with ⟨rfl, h0⟩ | ⟨g, cap, cur, rfl, _⟩
  · show Value.slice none l.length 0 = _
    rw [h0]
  · rfl
theorem rowOf_g {w : World} {base : Nat} {v : Value} {l : List UInt8} (h : w.ownsRow base 5 1 v l.length (bc l)) : (rowOf v l).g = v.ownBlock := by
  rcases h.2 with ⟨rfl, h0⟩ | ⟨g, cap, cur, rfl, _⟩ <;> rfl

/-- Where a list lies: in none of the blocks but those from one number on and below another. -/
def Lies (v : Value) (lo hi : Nat) : Prop := ∀ g, v.ownBlock = some g → lo ≤ g ∧ g < hi

theorem apart_five (w : World) (base : Nat) (v0 v1 v2 v3 v4 : Value) (l0 l1 l2 l3 l4 : List UInt8) (h0 : w.ownsRow base 5 1 v0 l0.length (bc l0)) (h1 : w.ownsRow base 5 1 v1 l1.length (bc l1)) (h2 : w.ownsRow base 5 1 v2 l2.length (bc l2)) (h3 : w.ownsRow base 5 1 v3 l3.length (bc l3)) (h4 : w.ownsRow base 5 1 v4 l4.length (bc l4))
    (z0 : l0.length ≤ 140737488355328) (z1 : l1.length ≤ 140737488355328) (z2 : l2.length ≤ 140737488355328) (z3 : l3.length ≤ 140737488355328) (z4 : l4.length ≤ 140737488355328)
    (A0 A1 A2 A3 A4 A5 : Nat) (d4 : Lies v4 A0 A1) (d0 : Lies v0 A1 A2) (d1 : Lies v1 A2 A3) (d2 : Lies v2 A3 A4) (d3 : Lies v3 A4 A5) (m1 : A1 ≤ A2) (m2 : A2 ≤ A3) (m3 : A3 ≤ A4) (m4 : A4 ≤ A5) (m5 : A5 ≤ w.heap.size) (hbase : base ≤ w.heap.size) :
    Calls Try.prog 23 #[.slice (some ⟨w.heap.size, 0, none⟩) 5 5] (w.alloc (.cells #[v0, v1, v2, v3, v4] 22)) fun e w' => e = .returned (.bool true) ∧ Below base w w' := by
  have cs : ∀ k, k < 5 → k = 0 ∨ k = 1 ∨ k = 2 ∨ k = 3 ∨ k = 4 := fun k hk => by omega
  obtain ⟨r, hr⟩ : ∃ r : Nat → Row, r = fun k => if k = 0 then rowOf v0 l0 else if k = 1 then rowOf v1 l1 else if k = 2 then rowOf v2 l2 else if k = 3 then rowOf v3 l3 else rowOf v4 l4 := ⟨_, rfl⟩
  have e0 : r 0 = rowOf v0 l0 := by rw [hr]; rfl
  have e1 : r 1 = rowOf v1 l1 := by rw [hr]; rfl
  have e2 : r 2 = rowOf v2 l2 := by rw [hr]; rfl
  have e3 : r 3 = rowOf v3 l3 := by rw [hr]; rfl
  have e4 : r 4 = rowOf v4 l4 := by rw [hr]; rfl
  clear hr
  have q0 : ∀ g, (r 0).g = some g → A1 ≤ g ∧ g < A2 := fun g h => d0 g (by rw [← rowOf_g h0, ← e0]; exact h)
  have q1 : ∀ g, (r 1).g = some g → A2 ≤ g ∧ g < A3 := fun g h => d1 g (by rw [← rowOf_g h1, ← e1]; exact h)
  have q2 : ∀ g, (r 2).g = some g → A3 ≤ g ∧ g < A4 := fun g h => d2 g (by rw [← rowOf_g h2, ← e2]; exact h)
  have q3 : ∀ g, (r 3).g = some g → A4 ≤ g ∧ g < A5 := fun g h => d3 g (by rw [← rowOf_g h3, ← e3]; exact h)
  have q4 : ∀ g, (r 4).g = some g → A0 ≤ g ∧ g < A1 := fun g h => d4 g (by rw [← rowOf_g h4, ← e4]; exact h)
  refine (apart_any 5 (by decide) _ base w.heap.size r ?_ ?_ ?_ ?_ ?_ (by simp; omega)).mono ?_
  · intro k hk
    rcases cs k hk with rfl | rfl | rfl | rfl | rfl
    · rw [e0, rowOf_val h0]; simp
    · rw [e1, rowOf_val h1]; simp
    · rw [e2, rowOf_val h2]; simp
    · rw [e3, rowOf_val h3]; simp
    · rw [e4, rowOf_val h4]; simp
  · intro k hk
    rcases cs k hk with rfl | rfl | rfl | rfl | rfl
    · rw [e0, rowOf_val h0, rowOf_bs]; exact h0.alloc _
    · rw [e1, rowOf_val h1, rowOf_bs]; exact h1.alloc _
    · rw [e2, rowOf_val h2, rowOf_bs]; exact h2.alloc _
    · rw [e3, rowOf_val h3, rowOf_bs]; exact h3.alloc _
    · rw [e4, rowOf_val h4, rowOf_bs]; exact h4.alloc _
  · intro k hk
    rcases cs k hk with rfl | rfl | rfl | rfl | rfl
    · rw [e0, rowOf_bs]; exact z0
    · rw [e1, rowOf_bs]; exact z1
    · rw [e2, rowOf_bs]; exact z2
    · rw [e3, rowOf_bs]; exact z3
    · rw [e4, rowOf_bs]; exact z4
  · intro i k hi hk hne hn he
    obtain ⟨g, hg⟩ : ∃ g, (r i).g = some g := by
      cases h : (r i).g with
      | none => exact absurd h hn
      | some g => exact ⟨g, rfl⟩
    have hg' := he.symm.trans hg
    rcases cs i hi with rfl | rfl | rfl | rfl | rfl <;> rcases cs k hk with rfl | rfl | rfl | rfl | rfl <;>
      first
        | exact absurd rfl hne
        | (have a := q0 g (by assumption); first | (have b := q1 g (by assumption); omega) | (have b := q2 g (by assumption); omega) | (have b := q3 g (by assumption); omega) | (have b := q4 g (by assumption); omega))
        | (have a := q1 g (by assumption); first | (have b := q2 g (by assumption); omega) | (have b := q3 g (by assumption); omega) | (have b := q4 g (by assumption); omega))
        | (have a := q2 g (by assumption); first | (have b := q3 g (by assumption); omega) | (have b := q4 g (by assumption); omega))
        | (have a := q3 g (by assumption); have b := q4 g (by assumption); omega)
  · intro k hk he
    rcases cs k hk with rfl | rfl | rfl | rfl | rfl
    · have := q0 _ he; omega
    · have := q1 _ he; omega
    · have := q2 _ he; omega
    · have := q3 _ he; omega
    · have := q4 _ he; omega
  · rintro e w' ⟨rfl, hb⟩
    exact ⟨rfl, ((Below.refl _ _).alloc hbase _).trans hb⟩

theorem ext_lies {a b : World} {v : Value} {l : List UInt8} (h : Ext a.heap.size a (.slice none 0 0) b v l) : Lies v a.heap.size b.heap.size := fun g hg => h.own.lt g hg

theorem opnL_length (l : List UInt8) : (opnL l).length ≤ l.length := by
  unfold opnL
  split
  · rw [List.length_take]; omega
  · simp
theorem burL_length (l : List UInt8) (at' : Int) (b : Nat) : (burL l at' b).length ≤ l.length := by
  unfold burL
  split
  · rw [Crc.burst_length]; omega
  · simp

set_option maxHeartbeats 4000000 in
theorem walk (w : World) (a0 : Option Addr) (c0 : Nat) (l : List UInt8) (sum : Nat) (at' : Int) (b : Nat) (hb : BytesIn w (.slice a0 l.length c0) l) (n0 : a0 = none → c0 = 0) (hl : l.length ≤ 140737488351232) (hc : l.length ≤ c0) (hs : sum < 4294967296) (ha : at' ≤ 9223372036854775807) (hbt : b < 4294967296) :
    Calls Try.prog 4 #[.slice a0 l.length c0, .int .u32 (sum : Int), .int .i64 at', .int .u32 (b : Int)] w fun e w' => e = .returned (.bool true) ∧ Below w.heap.size w w' := by
  obtain ⟨F, hF⟩ : ∃ F, F = lentB l := ⟨_, rfl⟩
  obtain ⟨S, hS⟩ : ∃ S, S = sealB l := ⟨_, rfl⟩
  obtain ⟨OB, hOB⟩ : ∃ B, B = opnB l := ⟨_, rfl⟩
  obtain ⟨OL, hOL⟩ : ∃ B, B = opnL l := ⟨_, rfl⟩
  obtain ⟨BE, hBE⟩ : ∃ B, B = burE l at' b := ⟨_, rfl⟩
  obtain ⟨BL, hBL⟩ : ∃ B, B = burL l at' b := ⟨_, rfl⟩
  obtain ⟨sm, hsm⟩ : ∃ B, B = Crc.sum l := ⟨_, rfl⟩
  obtain ⟨mm, hmm⟩ : ∃ B, B = Crc.more sum l := ⟨_, rfl⟩
  have lF : F.length = l.length + 3 := by rw [hF]; exact lentB_length l
  have lS : S.length = l.length + 4 := by rw [hS]; exact sealB_length l
  have ZS : Hid (S.length ≤ 140737488355328) := by show _ ≤ _; omega
  have ZF : Hid (F.length ≤ 140737488355328) := by show _ ≤ _; omega
  have ZO : Hid (OL.length ≤ 140737488355328) := by show _ ≤ _; have := opnL_length l; rw [← hOL] at this; omega
  have ZB : Hid (BL.length ≤ 140737488355328) := by show _ ≤ _; have := burL_length l at' b; rw [← hBL] at this; omega
  have LN : Hid (Calls Try.prog 16 #[.slice a0 l.length c0] w fun e w' => ∃ g cap, e = .returned (.slice (some ⟨g, 0, none⟩) F.length cap) ∧ Ext w.heap.size w (.slice none 0 0) w' (.slice (some ⟨g, 0, none⟩) F.length cap) F) := by
    rw [lF, hF]; exact lentBytes_any w a0 c0 l hb n0 hl
  have TK : Hid (∀ (wx : World) base g cap, wx.ownsRow base 5 1 (.slice (some ⟨g, 0, none⟩) F.length cap) F.length (bc F) → BytesIn wx (.slice (some ⟨g, 0, none⟩) l.length cap) l ∧ l.length ≤ cap) := fun wx base g cap h => by
    have h' := own_cap h
    rw [hF] at h
    exact ⟨bytes_of_own (own_shrink (xs := l) (ys := [201, 202, 203]) h rfl (by rw [lentB_length]; omega)) (by omega), by omega⟩
  have SE : Hid (∀ wx g cap, BytesIn wx (.slice (some ⟨g, 0, none⟩) l.length cap) l → Calls Try.prog 15 #[.slice (some ⟨g, 0, none⟩) l.length cap] wx fun e w' => ∃ g' c', e = .returned (.slice (some ⟨g', 0, none⟩) (l.length + 4) c') ∧ Ext wx.heap.size wx (.slice none 0 0) w' (.slice (some ⟨g', 0, none⟩) (l.length + 4) c') S) := fun wx g cap h => by
    refine (sealed_any wx _ cap l h hl).mono ?_
    rintro e w' ⟨rfl, hx⟩
    rw [hS]
    exact ⟨_, _, rfl, hx⟩
  have OP : Hid (∀ wx g cap, BytesIn wx (.slice (some ⟨g, 0, none⟩) l.length cap) l → l.length ≤ cap → Calls Try.prog 9 #[.slice (some ⟨g, 0, none⟩) l.length cap] wx fun e w' => ∃ ad cp, e = .returned (.tuple #[.slice ad OL.length cp, .bool OB]) ∧ Ext wx.heap.size wx (.slice none 0 0) w' (.slice ad OL.length cp) OL) := fun wx g cap h hc => by
    rw [hOB, hOL]
    refine (opened_any wx _ cap l h hc).mono ?_
    rintro e w' ⟨v, rfl, hx⟩
    obtain ⟨ad, cp, rfl⟩ := hx.shape
    exact ⟨ad, cp, rfl, hx⟩
  have RO : Hid (∀ wx, Below w.heap.size w wx → Calls Try.prog 17 #[.slice a0 l.length c0] wx fun e w' => ∃ v, e = .returned (.tuple #[v, .bool OB]) ∧ Below wx.heap.size wx w' ∧ BytesIn w' v OL) := fun wx hw => by
    refine (refOpened_any wx a0 c0 l (hb.later hw) hc (by omega)).mono ?_
    rintro e w' ⟨v, rfl, hx⟩
    rw [← hOB]
    rw [← hOL] at hx
    exact ⟨v, rfl, hx.below (Nat.le_refl _) (by simp [Value.ownBlock]), bytes_of_own hx.own ZO.out⟩
  have BU : Hid (∀ wx g cap, BytesIn wx (.slice (some ⟨g, 0, none⟩) l.length cap) l → Calls Try.prog 10 #[.slice (some ⟨g, 0, none⟩) l.length cap, .int .i64 at', .int .u32 (b : Int)] wx fun e w' => ∃ ad cp, e = .returned (.tuple #[.slice ad BL.length cp, .int .i64 BE]) ∧ Ext wx.heap.size wx (.slice none 0 0) w' (.slice ad BL.length cp) BL) := fun wx g cap h => by
    rw [hBE, hBL]
    refine (burst_any wx _ cap l at' b h ha hbt).mono ?_
    rintro e w' ⟨v, rfl, hx⟩
    obtain ⟨ad, cp, rfl⟩ := hx.shape
    exact ⟨ad, cp, rfl, hx⟩
  have RB : Hid (∀ wx, Below w.heap.size w wx → Calls Try.prog 18 #[.slice a0 l.length c0, .int .i64 at', .int .u32 (b : Int)] wx fun e w' => ∃ v, e = .returned (.tuple #[v, .int .i64 BE]) ∧ Below wx.heap.size wx w' ∧ BytesIn w' v BL) := fun wx hw => by
    refine (refBurst_any wx a0 c0 l at' b (hb.later hw) n0 ha hbt).mono ?_
    rintro e w' ⟨v, rfl, hx⟩
    rw [← hBE]
    rw [← hBL] at hx
    exact ⟨v, rfl, hx.below (Nat.le_refl _) (by simp [Value.ownBlock]), bytes_of_own hx.own ZB.out⟩
  have SU : Hid (∀ wx v, BytesIn wx v l → Calls Try.prog 11 #[v] wx fun e w' => e = .returned (.int .u32 (sm : Int)) ∧ w' = wx) := fun wx v h => by rw [hsm]; exact sum_any wx v l h
  have RS : Hid (∀ wx, Below w.heap.size w wx → Calls Try.prog 19 #[.slice a0 l.length c0] wx fun e w' => e = .returned (.int .u32 (sm : Int)) ∧ Below wx.heap.size wx w') := fun wx hw => by rw [hsm]; exact refSum_any wx _ l (hb.later hw)
  have MO : Hid (∀ wx v, BytesIn wx v l → Calls Try.prog 12 #[.int .u32 (sum : Int), v] wx fun e w' => e = .returned (.int .u32 (mm : Int)) ∧ w' = wx) := fun wx v h => by rw [hmm]; exact more_any wx sum hs v l h
  have RM : Hid (∀ wx, Below w.heap.size w wx → Calls Try.prog 20 #[.int .u32 (sum : Int), .slice a0 l.length c0] wx fun e w' => e = .returned (.int .u32 (mm : Int)) ∧ Below wx.heap.size wx w') := fun wx hw => by rw [hmm]; exact refMore_any wx sum hs _ l (hb.later hw)
  have RZ : Hid (∀ wx, Below w.heap.size w wx → Calls Try.prog 21 #[.slice a0 l.length c0] wx fun e w' => ∃ v, e = .returned v ∧ Below wx.heap.size wx w' ∧ BytesIn w' v S) := fun wx hw => by
    refine (refSealed_any wx a0 c0 l (hb.later hw) n0 hl).mono ?_
    rintro e w' ⟨g, cap, rfl, hx⟩
    rw [← hS] at hx
    exact ⟨_, rfl, hx.below (Nat.le_refl _) (by simp [Value.ownBlock]), bytes_of_own hx.own ZS.out⟩
  have SB : Hid (∀ m wx v u, BytesIn wx v m → BytesIn wx u m → Calls Try.prog 14 #[v, u] wx fun e w' => e = .returned (.bool true) ∧ Below wx.heap.size wx w') := fun m wx v u hv hu => by
    have := same_any wx v u _ _ hv hu
    rwa [decide_eq_true rfl] at this
  have KB : Hid (∀ wx v, BytesIn wx v F → Below w.heap.size w wx → Calls Try.prog 22 #[v, .slice a0 l.length c0] wx fun e w' => e = .returned (.bool true) ∧ Below wx.heap.size wx w') := fun wx v hv hw => keptBytes_any wx v l (by rw [← hF]; exact hv) a0 c0 (hb.later hw) n0 hl
  have LS : Hid (S.length = l.length + 4) := lS
  have lf2 : (l.length : Int) ≤ (F.length : Int) := by omega
  clear hF hS hOB hOL hBE hBL hsm hmm lF lS hb n0 hc
  go_enter Try.func4, Try.ntmps4
  go_wp2_with (first
    | (go_at_call 16; refine LN.out.mono ?_; rintro e w1 ⟨g1, cap1, rfl, x1⟩; have B1 : Below w.heap.size w w1 := x1.below (Nat.le_refl _) (by simp [Value.ownBlock]); have V1 := (TK.out _ _ _ _ x1.own).1; have y1 := (TK.out _ _ _ _ x1.own).2; have i1 : (l.length : Int) ≤ (cap1 : Int) := (by omega); have Y1 : Hid (l.length ≤ cap1) := y1; clear LN TK y1)
    | (go_at_call 15; have g := SE.out _ _ _ V1; refine g.mono ?_; rintro e w2 ⟨g2, k2, rfl, x2⟩; have b2 : Below w1.heap.size w1 w2 := x2.below (Nat.le_refl _) (by simp [Value.ownBlock]); have V2 := V1.later b2; clear V1 g)
    | (go_at_call 15; have g := SE.out _ _ _ V2; refine g.mono ?_; rintro e w3 ⟨g3, k3, rfl, x3⟩; have b3 : Below w2.heap.size w2 w3 := x3.below (Nat.le_refl _) (by simp [Value.ownBlock]); have V3 := V2.later b3; clear V2 g SE)
    | (go_at_call 9; refine (OP.out _ _ _ V3 Y1.out).mono ?_; rintro e w4 ⟨a4, k4, rfl, x4⟩; have b4 : Below w3.heap.size w3 w4 := x4.below (Nat.le_refl _) (by simp [Value.ownBlock]); have V4 := V3.later b4; have B4 := ((B1.trans (b2.mono B1.size)).trans (b3.mono (Nat.le_trans B1.size b2.size))).trans (b4.mono (Nat.le_trans (Nat.le_trans B1.size b2.size) b3.size)); clear V3 OP)
    | (go_at_call 17; refine (RO.out _ B4).mono ?_; rintro e w5 ⟨v5, rfl, b5, U5⟩; have V5 := V4.later b5; clear V4 RO)
    | (go_at_call 10; refine (BU.out _ _ _ V5).mono ?_; rintro e w6 ⟨a6, k6, rfl, x6⟩; have b6 : Below w5.heap.size w5 w6 := x6.below (Nat.le_refl _) (by simp [Value.ownBlock]); have V6 := V5.later b6; have B6 := (B4.trans (b5.mono B4.size)).trans (b6.mono (Nat.le_trans B4.size b5.size)); have U6 := U5.later b6; clear V5 BU U5)
    | (go_at_call 18; refine (RB.out _ B6).mono ?_; rintro e w7 ⟨v7, rfl, b7, U7⟩; have V7 := V6.later b7; have W7 := U6.later b7; have B7 := B6.trans (b7.mono B6.size);
        have PF : Hid (w7.ownsRow w.heap.size 5 1 (.slice (some ⟨g1, 0, none⟩) F.length cap1) F.length (bc F)) := own_later (own_later (own_later (own_later (own_later (own_later x1.own b2) b3) b4) b5) b6) b7;
        have PS : Hid (w7.ownsRow w.heap.size 5 1 (.slice (some ⟨g2, 0, none⟩) (l.length + 4) k2) S.length (bc S)) := own_base (own_later (own_later (own_later (own_later (own_later x2.own b3) b4) b5) b6) b7) B1.size;
        have PT : Hid (w7.ownsRow w.heap.size 5 1 (.slice (some ⟨g3, 0, none⟩) (l.length + 4) k3) S.length (bc S)) := own_base (own_later (own_later (own_later (own_later x3.own b4) b5) b6) b7) (Nat.le_trans B1.size b2.size);
        have PX : Hid (w7.ownsRow w.heap.size 5 1 (.slice a4 OL.length k4) OL.length (bc OL)) := own_base (own_later (own_later (own_later x4.own b5) b6) b7) (Nat.le_trans B1.size (Nat.le_trans b2.size b3.size));
        have PC : Hid (w7.ownsRow w.heap.size 5 1 (.slice a6 BL.length k6) BL.length (bc BL)) := own_base (own_later x6.own b7) (Nat.le_trans B4.size b5.size);
        have DD : Hid (Lies (.slice (some ⟨g1, 0, none⟩) F.length cap1) w.heap.size w1.heap.size ∧ Lies (.slice (some ⟨g2, 0, none⟩) (l.length + 4) k2) w1.heap.size w2.heap.size ∧ Lies (.slice (some ⟨g3, 0, none⟩) (l.length + 4) k3) w2.heap.size w3.heap.size ∧ Lies (.slice a4 OL.length k4) w3.heap.size w5.heap.size ∧ Lies (.slice a6 BL.length k6) w5.heap.size w6.heap.size) := ⟨ext_lies x1, ext_lies x2, ext_lies x3, (fun g hg => ⟨(ext_lies x4 g hg).1, Nat.lt_of_lt_of_le (ext_lies x4 g hg).2 b5.size⟩), ext_lies x6⟩;
        have DM : Hid (w1.heap.size ≤ w2.heap.size ∧ w2.heap.size ≤ w3.heap.size ∧ w3.heap.size ≤ w5.heap.size ∧ w5.heap.size ≤ w6.heap.size ∧ w6.heap.size ≤ w7.heap.size) := ⟨b2.size, b3.size, Nat.le_trans b4.size b5.size, b6.size, b7.size⟩;
        have KL := Below.refl w7.heap.size w7; clear V6 U6 RB x1 x2 x3 x4 x6 b2 b3 b4 b5 b6 b7 B1 B4 B6)
    | (go_at_call 13; refine (lives_any _).mono ?_; rintro e w8 ⟨rfl, b8⟩; have KL := KL.trans (b8.mono KL.size); have V8 := V7.later b8; have B8 := B7.trans (b8.mono B7.size); clear b8)
    | (go_at_call 11; refine (SU.out _ _ V8).mono ?_; rintro e y ⟨rfl, rfl⟩; clear SU)
    | (go_at_call 19; refine (RS.out _ B8).mono ?_; rintro e w9 ⟨rfl, b9⟩; have KL := KL.trans (b9.mono KL.size); have V9 := V8.later b9; have B9 := B8.trans (b9.mono B8.size); clear RS b9)
    | (go_at_call 12; refine (MO.out _ _ V9).mono ?_; rintro e y ⟨rfl, rfl⟩; clear MO)
    | (go_at_call 20; refine (RM.out _ B9).mono ?_; rintro e w10 ⟨rfl, b10⟩; have KL := KL.trans (b10.mono KL.size); have B10 := B9.trans (b10.mono B9.size); clear RM b10)
    | (go_at_call 21; refine (RZ.out _ B10).mono ?_; rintro e w11 ⟨v11, rfl, b11, U11⟩; have KL := KL.trans (b11.mono KL.size); have B11 := B10.trans (b11.mono B10.size); have Z1 := bytes_of_own (own_later PS.out KL) ZS.out; have T1 := SB; clear RZ b11)
    | (go_at_call 14; have g := T1.out S _ _ _ Z1 U11; refine g.mono ?_; rintro e w12 ⟨rfl, b12⟩; have KL := KL.trans (b12.mono KL.size); have B12 := B11.trans (b12.mono B11.size); have Z2 := bytes_of_own (own_later PX.out KL) ZO.out; have Y2 := W7.later KL; have T2 := SB; clear b12 T1 g Z1 U11 W7)
    | (go_at_call 14; have g := T2.out OL _ _ _ Z2 Y2; refine g.mono ?_; rintro e w13 ⟨rfl, b13⟩; have KL := KL.trans (b13.mono KL.size); have B13 := B12.trans (b13.mono B12.size); have Z3 := bytes_of_own (own_later PC.out KL) ZB.out; have Y3 := U7.later KL; have T3 := SB; clear b13 T2 g Z2 Y2 U7)
    | (go_at_call 14; have g := T3.out BL _ _ _ Z3 Y3; refine g.mono ?_; rintro e w14 ⟨rfl, b14⟩; have KL := KL.trans (b14.mono KL.size); have B14 := B13.trans (b14.mono B13.size); have Z4 := bytes_of_own (own_later PF.out KL) ZF.out; clear b14 T3 g Z3 Y3)
    | (go_at_call 22; refine (KB.out _ _ Z4 B14).mono ?_; rintro e w15 ⟨rfl, b15⟩; have KL := KL.trans (b15.mono KL.size); have B15 := B14.trans (b15.mono B14.size); clear b15 KB Z4))
  refine (apart_five w15 w.heap.size _ _ _ _ _ S S OL BL F (own_later PS.out KL) (own_later PT.out KL) (own_later PX.out KL) (own_later PC.out KL) (own_later PF.out KL) ZS.out ZS.out ZO.out ZB.out ZF.out w.heap.size w1.heap.size w2.heap.size w3.heap.size w5.heap.size w6.heap.size DD.out.1 DD.out.2.1 DD.out.2.2.1 DD.out.2.2.2.1 DD.out.2.2.2.2 DM.out.1 DM.out.2.1 DM.out.2.2.1 DM.out.2.2.2.1 (Nat.le_trans DM.out.2.2.2.2 KL.size) B15.size).mono ?_
  rintro e w16 ⟨rfl, b16⟩
  have B16 := B15.trans b16
  clear PF PS PT PX PC DD DM KL
  go_wp2_with (fail)
  go_ret
  exact ⟨rfl, B16⟩

set_option maxRecDepth 100000 in
theorem lifted (os : Os) (started : os.Started) (H : Type) (enc : TypeId × Value → H) :
    ReturnsInHanded {} Try.checked os 4 .any (Rows.crcCallsSpec.pre6 enc Try.prog Try.f4 Rows.crcCallsRow.domain false) (Rows.crcCallsSpec.post enc Try.prog Try.f4 false true false false) := by
  refine returnsInHanded_of_change_sized (C := Try.checked) own started (by kernel_rfl) Try.func4
    (ChangeSpec.witness6 (enc := enc) (C := Try.checked) false ⟨#[], #[.slice none 0 0, .int .u32 0, .int .i64 0, .int .u32 0], []⟩ 8 (by kernel_rfl) (by kernel_rfl) (by kernel_rfl) (by kernel_rfl)) ?_
  intro W base args ds gs before hval0 hW hcnd hsz0 _
  have hsz : (DataW.weightsEach Try.prog (Try.f4.params.toList ++ Rows.crcCallsSpec.plain.varTypes Try.prog) (ds ++ gs)).all (· ≤ reachBytes) = true := hsz0
  have hval : ∀ (j : Nat) t v, Try.f4.params[j]? = some t → args[j]? = some v → Value.okWide Try.prog W .any base t v := hval0
  have hW' := hW
  obtain ⟨p, q, hA0, hV, rfl, hfz, hnd⟩ := hW
  have hA : DataW.TrodAll enc Try.prog W 0 (fun _ => true) true Try.f4.params.toList args.toList ds p := hA0
  rw [Try.params4] at hA hval hsz
  obtain ⟨v0, vs0, d0, ds0, p0, q0, hargs, rfl, rfl, h0, r0⟩ := trodAll_cons hA
  obtain ⟨v1, vs1, d1, ds1, p1, q1, rfl, rfl, rfl, h1, r1⟩ := trodAll_cons r0
  obtain ⟨v2, vs2, d2, ds2, p2, q2, rfl, rfl, rfl, h2, r2⟩ := trodAll_cons r1
  obtain ⟨v3, vs3, d3, ds3, p3, q3, rfl, rfl, rfl, h3, r3⟩ := trodAll_cons r2
  obtain ⟨rfl, rfl, rfl⟩ := trodAll_nil r3
  obtain rfl : args = #[v0, v1, v2, v3] := by cases args; simp_all
  obtain ⟨rfl, rfl⟩ := trodVars_none hV
  have k0 := h0
  have lt0 : ∀ x ∈ p0, x.block < W.heap.size := by obtain ⟨m, hm⟩ := k0; exact DataW.trod_lt m _ _ _ hm
  obtain ⟨a0, len0, cap0, rfl⟩ := okWide_slice Try.underlying22 (hval 0 22 v0 rfl rfl)
  obtain ⟨Y, rfl, rfl, rfl, w1⟩ := open_int Try.underlying28 (hval 1 28 v1 rfl rfl) h1
  obtain ⟨at', rfl, rfl, rfl, w2⟩ := open_int Try.underlying3 (hval 2 3 v2 rfl rfl) h2
  obtain ⟨X, rfl, rfl, rfl, w3⟩ := open_int Try.underlying28 (hval 3 28 v3 rfl rfl) h3
  have bY := bounds_u32 w1
  have bM := bounds_i64 w2
  have bX := bounds_u32 w3
  obtain ⟨b, rfl⟩ : ∃ x : Nat, X = x := ⟨X.toNat, by omega⟩
  obtain ⟨sm, rfl⟩ : ∃ x : Nat, Y = x := ⟨Y.toNat, by omega⟩
  obtain ⟨l, rfl, hb, hl, n0, hc⟩ := bytes_in h0 (fun elems spr e => by
    have := sized_slice hsz (j := 0) (t := 22) (e := 5) (elems := elems) (spare := spr) rfl (by rw [e]; rfl) Try.underlying22
    rwa [bytesT8] at this) rfl rfl
  clear hA0 hval0
  refine (walk W a0 cap0 l sm at' b hb n0 hl hc (by omega) (by omega) (by omega)).mono fun e W' ⟨he, bel⟩ => ?_
  subst he
  exact ⟨_, rfl, _, _, _, [], _, [], hW', trodAll_mk1 (shut_bool Try.underlying4 _), (trodAll_cons_mk (Below.trod laidOut (by kernel_rfl) (of_decide_eq_true (by kernel_rfl)) k0 bel lt0) (trodAll_cons_mk (shut_int Try.underlying28 w1) (trodAll_cons_mk (shut_int Try.underlying3 w2) (trodAll_cons_mk (shut_int Try.underlying28 w3) trodAll_mk0)))), rfl, bel.frame _, fun h => by cases h⟩

theorem over : Rows.crcCallsRow.holds Try.pinned (OpenSpec.ofChange Rows.crcCallsSpec) :=
  OpenClaim.holds_of_wide 4 Try.f4 rfl rfl rfl rfl rfl rfl rfl ⟨rfl, rfl, rfl, rfl, rfl⟩ rfl rfl rfl rfl rfl (by kernel_rfl) Try.func4 (by kernel_rfl)
    (of_decide_eq_true (by kernel_rfl)) (by unfold Func.isWrapper; first | (rw [if_pos (by decide +kernel)]; kernel_rfl) | (rw [if_neg (by decide +kernel)]; exact ⟨rfl, rfl⟩))
    (fun os started H enc _ => lifted os started H enc)
end Go.Proofs.Ytgfncfpcobkebaa.crcCalls

namespace Go.Proofs.Ytgfncfpcobkebaa
/-- THE STATEMENT. -/
theorem crcCalls_holds : Rows.CrcCallsSaid := crcCalls.over
#print axioms crcCalls_holds
end Go.Proofs.Ytgfncfpcobkebaa
