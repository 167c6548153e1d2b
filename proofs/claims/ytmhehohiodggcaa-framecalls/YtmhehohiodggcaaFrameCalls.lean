/-
  Proved: for all bytes b and every record the call FrameCalls(b, record) returns true and leaves its arguments as they were: frames are written and read as the document says, what is handed in stays, and what is told is new memory.
  Conditions: none beyond the form's own reach.
-/
import Derived.Test.YtmhehohiodggcaaKFrame
import Derived.Test.YtmhehohiodggcaaFLives
import Derived.Test.YtmhehohiodggcaaKApart
import Derived.Test.YtmhehohiodggcaaRFrame
import Derived.Test.YtmhehohiodggcaaRRead
namespace Go.Proofs.Ytmhehohiodggcaa.frameCalls
open Go.ChangeShapes Go.WideShapes Go.ChangeAt Go.RowKit
open Go.Proofs.Ytmhehohiodggcaa

theorem apart_four (w : World) (base : Nat) (v0 v1 v2 v3 : Value) (l0 l1 l2 l3 : List UInt8) (h0 : w.ownsRow base 5 1 v0 l0.length (bc l0)) (h1 : w.ownsRow base 5 1 v1 l1.length (bc l1)) (h2 : w.ownsRow base 5 1 v2 l2.length (bc l2)) (h3 : w.ownsRow base 5 1 v3 l3.length (bc l3))
    (z0 : l0.length ≤ 140737488355328) (z1 : l1.length ≤ 140737488355328) (z2 : l2.length ≤ 140737488355328) (z3 : l3.length ≤ 140737488355328)
    (A0 A1 A2 A3 A4 A5 : Nat) (d2 : Lies v2 A0 A1) (d3 : Lies v3 A1 A2) (d0 : Lies v0 A2 A3) (d1 : Lies v1 A4 A5) (_m0 : A0 ≤ A1) (m1 : A1 ≤ A2) (m2 : A2 ≤ A3) (m3 : A3 ≤ A4) (m4 : A4 ≤ A5) (m5 : A5 ≤ w.heap.size) (hbase : base ≤ w.heap.size) :
    Calls Try.prog 19 #[.slice (some ⟨w.heap.size, 0, none⟩) 4 4] (w.alloc (.cells #[v0, v1, v2, v3] 22)) fun e w' => e = .returned (.bool true) ∧ Below base w w' := by
  have cs : ∀ k, k < 4 → k = 0 ∨ k = 1 ∨ k = 2 ∨ k = 3 := fun k hk => by omega
  refine (apart_vals _ base w.heap.size 4 [(v0, l0), (v1, l1), (v2, l2), (v3, l3)] (by simp) ?_ ?_ ?_ ?_ ?_ (by simp; omega)).mono ?_
  · intro k hk
    rcases cs k hk with rfl | rfl | rfl | rfl <;> simp
  · intro k hk
    rcases cs k hk with rfl | rfl | rfl | rfl
    · exact h0.alloc _
    · exact h1.alloc _
    · exact h2.alloc _
    · exact h3.alloc _
  · intro k hk
    rcases cs k hk with rfl | rfl | rfl | rfl
    · exact z0
    · exact z1
    · exact z2
    · exact z3
  · intro i k hi hk hlt hn he
    have q : ∀ v : Value, v.ownBlock ≠ none → ∃ g, v.ownBlock = some g := fun v h => by
      cases e : v.ownBlock with
      | none => exact absurd e h
      | some g => exact ⟨g, rfl⟩
    obtain ⟨g, hg⟩ := q _ hn
    have hg' := he.symm.trans hg
    rcases cs i hi with rfl | rfl | rfl | rfl <;> rcases cs k hk with rfl | rfl | rfl | rfl <;> (try omega)
    · have := d0 g hg; have := d1 g hg'; omega
    · have := d0 g hg; have := d2 g hg'; omega
    · have := d0 g hg; have := d3 g hg'; omega
    · have := d1 g hg; have := d2 g hg'; omega
    · have := d1 g hg; have := d3 g hg'; omega
    · have := d2 g hg; have := d3 g hg'; omega
  · intro k hk he
    rcases cs k hk with rfl | rfl | rfl | rfl
    · have := d0 _ he; omega
    · have := d1 _ he; omega
    · have := d2 _ he; omega
    · have := d3 _ he; omega
  · rintro e w' ⟨rfl, hb⟩
    exact ⟨rfl, ((Below.refl _ _).alloc hbase _).trans hb⟩

theorem rdR_length (l : List UInt8) : (rdR l).length ≤ l.length := by
  unfold rdR
  split
  · rename_i h
    have := rdE_good h
    unfold opnL
    split
    · rw [List.length_take, List.length_take, List.length_drop]; omega
    · simp
  · simp

theorem walk_mid (w : World) (v : Value) (a1 : Option Addr) (c1 n : Nat) (h1 : 4000 < n) (h2 : n ≤ 1048576) :
    Calls Try.prog 4 #[v, .slice a1 n c1] w fun e w' => e = .returned (.bool true) ∧ Below w.heap.size w w' := by
  have i1 : (n : Int) > 4000 := by omega
  have i2 : (n : Int) ≤ 1048576 := by omega
  go_enter Try.func4, Try.ntmps4
  go_wp2_with (go_at_call 13; refine (lives_any _).mono ?_; rintro e w1 ⟨rfl, B1⟩)
  go_ret
  exact ⟨rfl, B1⟩

set_option maxHeartbeats 4000000 in
theorem walk_on (w : World) (a0 a1 : Option Addr) (c0 c1 : Nat) (l r : List UInt8) (hb : BytesIn w (.slice a0 l.length c0) l) (hb1 : BytesIn w (.slice a1 r.length c1) r) (n0 : a0 = none → c0 = 0) (n1 : a1 = none → c1 = 0) (hl : l.length ≤ 140737488351232) (hl1 : r.length ≤ 140737488351232) (hc : l.length ≤ c0) (hr : r.length ≤ 4000 ∨ 1048576 < r.length) :
    Calls Try.prog 4 #[.slice a0 l.length c0, .slice a1 r.length c1] w fun e w' => e = .returned (.bool true) ∧ Below w.heap.size w w' := by
  obtain ⟨F, hF⟩ : ∃ F, F = lentB l := ⟨_, rfl⟩
  obtain ⟨O, hO⟩ : ∃ O, O = lentB r := ⟨_, rfl⟩
  have lF : F.length = l.length + 3 := by rw [hF, lentB_length]
  have lO : O.length = r.length + 3 := by rw [hO, lentB_length]
  have tF : F.take l.length = l := by rw [hF]; unfold lentB; exact List.take_left' rfl
  have tO : O.take r.length = r := by rw [hO]; unfold lentB; exact List.take_left' rfl
  obtain ⟨RE, hRE⟩ : ∃ x, x = rdE l := ⟨_, rfl⟩
  obtain ⟨RN, hRN⟩ : ∃ x, x = rdN l := ⟨_, rfl⟩
  obtain ⟨RR, hRR⟩ : ∃ x, x = rdR l := ⟨_, rfl⟩
  obtain ⟨A, AE, hA1, hA2, ZA⟩ : ∃ (A : List UInt8) (AE : Int), (∀ wx g cap g' cap', BytesIn wx (.slice (some ⟨g, 0, none⟩) l.length cap) l → BytesIn wx (.slice (some ⟨g', 0, none⟩) r.length cap') r → Calls Try.prog 11 #[.slice (some ⟨g, 0, none⟩) l.length cap, .slice (some ⟨g', 0, none⟩) r.length cap'] wx fun e w' => ∃ ad cp, e = .returned (.tuple #[.slice ad A.length cp, .int .i64 AE]) ∧ Ext wx.heap.size wx (.slice none 0 0) w' (.slice ad A.length cp) A) ∧
      (∀ wx, Below w.heap.size w wx → Calls Try.prog 15 #[.slice a0 l.length c0, .slice a1 r.length c1] wx fun e w' => ∃ v, e = .returned (.tuple #[v, .int .i64 AE]) ∧ Below wx.heap.size wx w' ∧ BytesIn w' v A) ∧ A.length ≤ 140737488355328 := by
    rcases hr with hr | hr
    · have e12 : (l ++ frm r).length = l.length + r.length + 12 := by rw [List.length_append, frm_length]; omega
      refine ⟨l ++ frm r, 0, fun wx g cap g' cap' h h' => ?_, fun wx hw => ?_, by omega⟩
      · refine (fappend_any wx (some ⟨g, 0, none⟩) (some ⟨g', 0, none⟩) cap cap' l r h h' (fun e => by cases e) (by omega) (by omega)).mono ?_
        rintro e w' ⟨g2, cap2, rfl, hx⟩
        rw [← e12] at hx ⊢
        exact ⟨_, _, rfl, hx⟩
      · refine (refAppend_any wx a0 a1 c0 c1 l r (hb.later hw) (hb1.later hw) n0 n1 (by omega) (by omega)).mono ?_
        rintro e w' ⟨g2, cap2, rfl, hx⟩
        exact ⟨_, rfl, hx.below (Nat.le_refl _) (by simp [Value.ownBlock]), bytes_of_own hx.own (by omega)⟩
    · refine ⟨[], 3, fun wx g cap g' cap' _ _ => ?_, fun wx hw => ?_, by decide⟩
      · refine (fappend_long wx _ _ cap' r.length hr).mono ?_
        rintro e w' ⟨rfl, rfl⟩
        exact ⟨none, 0, rfl, Ext.nil _ _⟩
      · refine (refAppend_long wx _ a1 c1 r.length hr).mono ?_
        rintro e w' ⟨rfl, rfl⟩
        exact ⟨_, rfl, Below.refl _ _, nil_bytes _⟩
  have AP : Hid (∀ wx g cap g' cap', BytesIn wx (.slice (some ⟨g, 0, none⟩) l.length cap) l → BytesIn wx (.slice (some ⟨g', 0, none⟩) r.length cap') r → Calls Try.prog 11 #[.slice (some ⟨g, 0, none⟩) l.length cap, .slice (some ⟨g', 0, none⟩) r.length cap'] wx fun e w' => ∃ ad cp, e = .returned (.tuple #[.slice ad A.length cp, .int .i64 AE]) ∧ Ext wx.heap.size wx (.slice none 0 0) w' (.slice ad A.length cp) A) := hA1
  have RA : Hid (∀ wx, Below w.heap.size w wx → Calls Try.prog 15 #[.slice a0 l.length c0, .slice a1 r.length c1] wx fun e w' => ∃ v, e = .returned (.tuple #[v, .int .i64 AE]) ∧ Below wx.heap.size wx w' ∧ BytesIn w' v A) := hA2
  have ZA' : Hid (A.length ≤ 140737488355328) := ZA
  have ZF : Hid (F.length ≤ 140737488355328) := by show _ ≤ _; omega
  have ZO : Hid (O.length ≤ 140737488355328) := by show _ ≤ _; omega
  have ZR : Hid (RR.length ≤ 140737488355328) := by show _ ≤ _; have := rdR_length l; rw [← hRR] at this; omega
  have LN : Hid (∀ wx, Below w.heap.size w wx → Calls Try.prog 14 #[.slice a0 l.length c0] wx fun e w' => ∃ g cap, e = .returned (.slice (some ⟨g, 0, none⟩) F.length cap) ∧ Ext wx.heap.size wx (.slice none 0 0) w' (.slice (some ⟨g, 0, none⟩) F.length cap) F ∧ BytesIn w' (.slice (some ⟨g, 0, none⟩) l.length cap) l ∧ l.length ≤ cap) := fun wx hw => by
    refine (lentBytes_any wx a0 c0 l (hb.later hw) n0 hl).mono ?_
    rintro e w' ⟨g, cap, rfl, hx⟩
    rw [← hF, ← lF] at hx
    rw [← lF]
    have := (bytes_of_own hx.own ZF.out).cut l.length (by omega) cap
    rw [tF] at this
    exact ⟨g, cap, rfl, hx, this, by have := (own_cap hx.own).1; omega⟩
  have LM : Hid (∀ wx, Below w.heap.size w wx → Calls Try.prog 14 #[.slice a1 r.length c1] wx fun e w' => ∃ g cap, e = .returned (.slice (some ⟨g, 0, none⟩) O.length cap) ∧ Ext wx.heap.size wx (.slice none 0 0) w' (.slice (some ⟨g, 0, none⟩) O.length cap) O ∧ BytesIn w' (.slice (some ⟨g, 0, none⟩) r.length cap) r ∧ r.length ≤ cap) := fun wx hw => by
    refine (lentBytes_any wx a1 c1 r (hb1.later hw) n1 hl1).mono ?_
    rintro e w' ⟨g, cap, rfl, hx⟩
    rw [← hO, ← lO] at hx
    rw [← lO]
    have := (bytes_of_own hx.own ZO.out).cut r.length (by omega) cap
    rw [tO] at this
    exact ⟨g, cap, rfl, hx, this, by have := (own_cap hx.own).1; omega⟩
  have RD : Hid (∀ wx g cap, BytesIn wx (.slice (some ⟨g, 0, none⟩) l.length cap) l → l.length ≤ cap → Calls Try.prog 10 #[.slice (some ⟨g, 0, none⟩) l.length cap] wx fun e w' => ∃ ad cp, e = .returned (.tuple #[.slice ad RR.length cp, .int .i64 (RN : Int), .int .i64 RE]) ∧ Ext wx.heap.size wx (.slice none 0 0) w' (.slice ad RR.length cp) RR) := fun wx g cap h hc => by
    rw [hRR, hRN, hRE]
    refine (fread_any wx _ cap l h hc).mono ?_
    rintro e w' ⟨v, rfl, hx⟩
    obtain ⟨ad, cp, rfl⟩ := hx.shape
    exact ⟨ad, cp, rfl, hx⟩
  have RF : Hid (∀ wx, Below w.heap.size w wx → Calls Try.prog 16 #[.slice a0 l.length c0] wx fun e w' => ∃ v, e = .returned (.tuple #[v, .int .i64 (RN : Int), .int .i64 RE]) ∧ Below wx.heap.size wx w' ∧ BytesIn w' v RR) := fun wx hw => by
    refine (refRead_any wx a0 c0 l (hb.later hw) hc).mono ?_
    rintro e w' ⟨v, rfl, hx⟩
    rw [← hRR] at hx
    rw [hRN, hRE]
    exact ⟨v, rfl, hx.below (Nat.le_refl _) (by simp [Value.ownBlock]), bytes_of_own hx.own ZR.out⟩
  have SB : Hid (∀ m wx v u, BytesIn wx v m → BytesIn wx u m → Calls Try.prog 17 #[v, u] wx fun e w' => e = .returned (.bool true) ∧ Below wx.heap.size wx w') := fun m wx v u hv hu => by
    have := same_any wx v u _ _ hv hu
    rwa [decide_eq_true rfl] at this
  have KB : Hid (∀ wx v, BytesIn wx v F → Below w.heap.size w wx → Calls Try.prog 18 #[v, .slice a0 l.length c0] wx fun e w' => e = .returned (.bool true) ∧ Below wx.heap.size wx w') := fun wx v hv hw => keptBytes_any wx v l (by rw [← hF]; exact hv) a0 c0 (hb.later hw) n0 hl
  have KC : Hid (∀ wx v, BytesIn wx v O → Below w.heap.size w wx → Calls Try.prog 18 #[v, .slice a1 r.length c1] wx fun e w' => e = .returned (.bool true) ∧ Below wx.heap.size wx w') := fun wx v hv hw => keptBytes_any wx v r (by rw [← hO]; exact hv) a1 c1 (hb1.later hw) n1 hl1
  clear hF hO hRE hRN hRR hA1 hA2 ZA hb hb1 n0 n1 hc lF lO tF tO
  have goal : ∀ (i1 : (r.length : Int) ≤ 4000 ∨ ¬ (r.length : Int) ≤ 1048576), Calls Try.prog 4 #[.slice a0 l.length c0, .slice a1 r.length c1] w fun e w' => e = .returned (.bool true) ∧ Below w.heap.size w w' := by
    intro i1
    rcases i1 with i1 | i1
    all_goals
      go_enter Try.func4, Try.ntmps4
      go_wp2_with (first
        | (go_at_call 13; refine (lives_any _).mono ?_; rintro e w0 ⟨rfl, B0⟩)
        | (go_at_call 14; have tok := LN; refine (LN.out _ B0).mono ?_; rintro e w1 ⟨g1, cap1, rfl, x1, V1, y1⟩; have b1 : Below w0.heap.size w0 w1 := x1.below (Nat.le_refl _) (by simp [Value.ownBlock]); have B1 := B0.trans (b1.mono B0.size); have Y1 : Hid (l.length ≤ cap1) := y1; have j1 : (l.length : Int) ≤ (cap1 : Int) := (by omega); clear tok LN y1)
        | (go_at_call 14; refine (LM.out _ B1).mono ?_; rintro e w2 ⟨g2, cap2, rfl, x2, V2, y2⟩; have b2 : Below w1.heap.size w1 w2 := x2.below (Nat.le_refl _) (by simp [Value.ownBlock]); have B2 := B1.trans (b2.mono B1.size); have j2 : (r.length : Int) ≤ (cap2 : Int) := (by omega); have U2 := V1.later b2; clear LM y2 V1))
      have AQ : Hid (∀ wx, Below w2.heap.size w2 wx → Calls Try.prog 11 #[.slice (some ⟨g1, 0, none⟩) l.length cap1, .slice (some ⟨g2, 0, none⟩) r.length cap2] wx fun e w' => ∃ ad cp, e = .returned (.tuple #[.slice ad A.length cp, .int .i64 AE]) ∧ Ext w2.heap.size w2 (.slice none 0 0) w' (.slice ad A.length cp) A) := fun wx hw => by
        refine (AP.out wx _ _ _ _ (U2.later hw) (V2.later hw)).mono ?_
        rintro e w' ⟨ad, cp, rfl, hx⟩
        exact ⟨ad, cp, rfl, ext_after hw hx⟩
      clear AP V2
      go_region_held3 (fun _ => True) (trivial)
        (first | (go_at_call 11; (first | refine (AQ.out _ (Below.refl _ _)).mono ?_ | refine (AQ.out _ (Below.refl _ _).drew).mono ?_); rintro e w3 ⟨a3, k3, rfl, x3⟩))
      have b3 : Below w2.heap.size w2 w3 := x3.below (Nat.le_refl _) (by simp [Value.ownBlock])
      have B3 := B2.trans (b3.mono B2.size)
      have U3 := U2.later b3
      clear AQ U2
      go_wp2_with (first
        | (go_at_call 15; refine (RA.out _ B3).mono ?_; rintro e w4 ⟨v4, rfl, b4, V4⟩; have B4 := B3.trans (b4.mono B3.size); have U4 := U3.later b4; clear RA U3)
        | (go_at_call 10; refine (RD.out _ _ _ U4 Y1.out).mono ?_; rintro e w5 ⟨a5, k5, rfl, x5⟩; have b5 : Below w4.heap.size w4 w5 := x5.below (Nat.le_refl _) (by simp [Value.ownBlock]); have B5 := B4.trans (b5.mono B4.size); have V5 := V4.later b5; clear RD U4 V4)
        | (go_at_call 16; refine (RF.out _ B5).mono ?_; rintro e w6 ⟨v6, rfl, b6, V6⟩; have B6 := B5.trans (b6.mono B5.size); have U6 := V5.later b6;
            have PF : Hid (w6.ownsRow w.heap.size 5 1 (.slice (some ⟨g1, 0, none⟩) F.length cap1) F.length (bc F)) := own_base (own_later (own_later (own_later (own_later (own_later x1.own b2) b3) b4) b5) b6) B0.size;
            have PO : Hid (w6.ownsRow w.heap.size 5 1 (.slice (some ⟨g2, 0, none⟩) O.length cap2) O.length (bc O)) := own_base (own_later (own_later (own_later (own_later x2.own b3) b4) b5) b6) B1.size;
            have PA : Hid (w6.ownsRow w.heap.size 5 1 (.slice a3 A.length k3) A.length (bc A)) := own_base (own_later (own_later (own_later x3.own b4) b5) b6) B2.size;
            have PR : Hid (w6.ownsRow w.heap.size 5 1 (.slice a5 RR.length k5) RR.length (bc RR)) := own_base (own_later x5.own b6) B4.size;
            have DD : Hid (Lies (.slice (some ⟨g1, 0, none⟩) F.length cap1) w0.heap.size w1.heap.size ∧ Lies (.slice (some ⟨g2, 0, none⟩) O.length cap2) w1.heap.size w2.heap.size ∧ Lies (.slice a3 A.length k3) w2.heap.size w3.heap.size ∧ Lies (.slice a5 RR.length k5) w4.heap.size w5.heap.size) := ⟨ext_lies x1, ext_lies x2, ext_lies x3, ext_lies x5⟩;
            have DM : Hid (w0.heap.size ≤ w1.heap.size ∧ w1.heap.size ≤ w2.heap.size ∧ w2.heap.size ≤ w3.heap.size ∧ w3.heap.size ≤ w4.heap.size ∧ w4.heap.size ≤ w5.heap.size ∧ w5.heap.size ≤ w6.heap.size) := ⟨b1.size, b2.size, b3.size, b4.size, b5.size, b6.size⟩;
            have KL := Below.refl w6.heap.size w6; have Z1 := bytes_of_own PA.out ZA'.out; have T1 := SB; clear RF V5 x1 x2 x3 x5 b1 b2 b3 b4 b5 b6 B0 B1 B2 B3 B4 B5)
        | (go_at_call 17; have g := T1.out A _ _ _ Z1 U6; refine g.mono ?_; rintro e w7 ⟨rfl, b7⟩; have KL := KL.trans (b7.mono KL.size); have B7 := B6.trans (b7.mono B6.size); have Z2 := bytes_of_own (own_later PR.out KL) ZR.out; have Y2 := V6.later KL; have T2 := SB; clear b7 T1 g Z1 U6 V6)
        | (go_at_call 17; have g := T2.out RR _ _ _ Z2 Y2; refine g.mono ?_; rintro e w8 ⟨rfl, b8⟩; have KL := KL.trans (b8.mono KL.size); have B8 := B7.trans (b8.mono B7.size); have Z3 := bytes_of_own (own_later PF.out KL) ZF.out; clear b8 T2 g Z2 Y2)
        | (go_at_call 18; have g := KB.out _ _ Z3 B8; refine g.mono ?_; rintro e w9 ⟨rfl, b9⟩; have KL := KL.trans (b9.mono KL.size); have B9 := B8.trans (b9.mono B8.size); have Z4 := bytes_of_own (own_later PO.out KL) ZO.out; clear b9 KB g Z3)
        | (go_at_call 18; have g := KC.out _ _ Z4 B9; refine g.mono ?_; rintro e w10 ⟨rfl, b10⟩; have KL := KL.trans (b10.mono KL.size); have B10 := B9.trans (b10.mono B9.size); clear b10 KC g Z4))
      refine (apart_four w10 w.heap.size _ _ _ _ A RR F O (own_later PA.out KL) (own_later PR.out KL) (own_later PF.out KL) (own_later PO.out KL) ZA'.out ZR.out ZF.out ZO.out w0.heap.size w1.heap.size w2.heap.size w3.heap.size w4.heap.size w5.heap.size DD.out.1 DD.out.2.1 DD.out.2.2.1 DD.out.2.2.2 DM.out.1 DM.out.2.1 DM.out.2.2.1 DM.out.2.2.2.1 DM.out.2.2.2.2.1 (Nat.le_trans DM.out.2.2.2.2.2 KL.size) B10.size).mono ?_
      rintro e w11 ⟨rfl, b11⟩
      have B11 := B10.trans b11
      clear PF PO PA PR DD DM KL
      go_wp2_with (fail)
      go_ret
      exact ⟨rfl, B11⟩
  exact goal (by omega)
theorem walk (w : World) (a0 a1 : Option Addr) (c0 c1 : Nat) (l r : List UInt8) (hb : BytesIn w (.slice a0 l.length c0) l) (hb1 : BytesIn w (.slice a1 r.length c1) r) (n0 : a0 = none → c0 = 0) (n1 : a1 = none → c1 = 0) (hl : l.length ≤ 140737488351232) (hl1 : r.length ≤ 140737488351232) (hc : l.length ≤ c0) :
    Calls Try.prog 4 #[.slice a0 l.length c0, .slice a1 r.length c1] w fun e w' => e = .returned (.bool true) ∧ Below w.heap.size w w' := by
  by_cases hm : 4000 < r.length ∧ r.length ≤ 1048576
  · exact walk_mid w _ a1 c1 r.length hm.1 hm.2
  · exact walk_on w a0 a1 c0 c1 l r hb hb1 n0 n1 hl hl1 hc (by omega)

set_option maxRecDepth 100000 in
theorem lifted (os : Os) (started : os.Started) (H : Type) (enc : TypeId × Value → H) :
    ReturnsInHanded {} Try.checked os 4 .any (Rows.frameCallsSpec.pre6 enc Try.prog Try.f4 Rows.frameCallsRow.domain false) (Rows.frameCallsSpec.post enc Try.prog Try.f4 false true false false) := by
  refine returnsInHanded_of_change_sized (C := Try.checked) own started (by kernel_rfl) Try.func4
    (ChangeSpec.witness6 (enc := enc) (C := Try.checked) false ⟨#[], #[.slice none 0 0, .slice none 0 0], []⟩ 8 (by kernel_rfl) (by kernel_rfl) (by kernel_rfl) (by kernel_rfl)) ?_
  intro W base args ds gs before hval0 hW hcnd hsz0 _
  have hsz : (DataW.weightsEach Try.prog (Try.f4.params.toList ++ Rows.frameCallsSpec.plain.varTypes Try.prog) (ds ++ gs)).all (· ≤ reachBytes) = true := hsz0
  have hval : ∀ (j : Nat) t v, Try.f4.params[j]? = some t → args[j]? = some v → Value.okWide Try.prog W .any base t v := hval0
  have hW' := hW
  obtain ⟨p, q, hA0, hV, rfl, hfz, hnd⟩ := hW
  have hA : DataW.TrodAll enc Try.prog W 0 (fun _ => true) true Try.f4.params.toList args.toList ds p := hA0
  rw [Try.params4] at hA hval hsz
  obtain ⟨v0, vs0, d0, ds0, p0, q0, hargs, rfl, rfl, h0, r0⟩ := trodAll_cons hA
  obtain ⟨v1, vs1, d1, ds1, p1, q1, rfl, rfl, rfl, h1, r1⟩ := trodAll_cons r0
  obtain ⟨rfl, rfl, rfl⟩ := trodAll_nil r1
  obtain rfl : args = #[v0, v1] := by cases args; simp_all
  obtain ⟨rfl, rfl⟩ := trodVars_none hV
  have k0 := h0
  have lt0 : ∀ x ∈ p0, x.block < W.heap.size := by obtain ⟨m, hm⟩ := k0; exact DataW.trod_lt m _ _ _ hm
  have k1 := h1
  have lt1 : ∀ x ∈ p1, x.block < W.heap.size := by obtain ⟨m, hm⟩ := k1; exact DataW.trod_lt m _ _ _ hm
  obtain ⟨a0, len0, cap0, rfl⟩ := okWide_slice Try.underlying22 (hval 0 22 v0 rfl rfl)
  obtain ⟨a1, len1, cap1, rfl⟩ := okWide_slice Try.underlying22 (hval 1 22 v1 rfl rfl)
  obtain ⟨l0, rfl, hb0, hl0, nn0, hc0⟩ := bytes_in h0 (fun elems spr e => by
    have := sized_slice hsz (j := 0) (t := 22) (e := 5) (elems := elems) (spare := spr) rfl (by rw [e]; rfl) Try.underlying22
    rwa [bytesT8] at this) rfl rfl
  obtain ⟨l1, rfl, hb1, hl1, nn1, hc1⟩ := bytes_in h1 (fun elems spr e => by
    have := sized_slice hsz (j := 1) (t := 22) (e := 5) (elems := elems) (spare := spr) rfl (by rw [e]; rfl) Try.underlying22
    rwa [bytesT8] at this) rfl rfl
  clear hA0 hval0
  refine (walk W a0 a1 cap0 cap1 l0 l1 hb0 hb1 nn0 nn1 hl0 hl1 hc0).mono fun e W' ⟨he, bel⟩ => ?_
  subst he
  exact ⟨_, rfl, _, _, _, [], _, [], hW', trodAll_mk1 (shut_bool Try.underlying4 _), (trodAll_cons_mk (Below.trod laidOut (by kernel_rfl) (of_decide_eq_true (by kernel_rfl)) k0 bel lt0) (trodAll_cons_mk (Below.trod laidOut (by kernel_rfl) (of_decide_eq_true (by kernel_rfl)) k1 bel lt1) trodAll_mk0)), rfl, bel.frame _, fun h => by cases h⟩

theorem over : Rows.frameCallsRow.holds Try.pinned (OpenSpec.ofChange Rows.frameCallsSpec) :=
  OpenClaim.holds_of_wide 4 Try.f4 rfl rfl rfl rfl rfl rfl rfl ⟨rfl, rfl, rfl, rfl, rfl⟩ rfl rfl rfl rfl rfl (by kernel_rfl) Try.func4 (by kernel_rfl)
    (of_decide_eq_true (by kernel_rfl)) (by unfold Func.isWrapper; first | (rw [if_pos (by decide +kernel)]; kernel_rfl) | (rw [if_neg (by decide +kernel)]; exact ⟨rfl, rfl⟩))
    (fun os started H enc _ => lifted os started H enc)
end Go.Proofs.Ytmhehohiodggcaa.frameCalls

namespace Go.Proofs.Ytmhehohiodggcaa
/-- THE STATEMENT. -/
theorem frameCalls_holds : Rows.FrameCallsSaid := frameCalls.over
#print axioms frameCalls_holds
end Go.Proofs.Ytmhehohiodggcaa
