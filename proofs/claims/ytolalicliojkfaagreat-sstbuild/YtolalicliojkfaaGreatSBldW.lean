/-
  The walk of SstBuild.
-/
import Derived.Test.YtolalicliojkfaaGreatSR9B
import Derived.Test.YtolalicliojkfaaGreatSBuild
import Derived.Test.YtolalicliojkfaaGreatSLives
import Derived.Test.YtolalicliojkfaaGreatSSmall
import Derived.Test.YtolalicliojkfaaGreatBLent
import Derived.Test.YtolalicliojkfaaGreatJKApart
import Derived.Test.YtolalicliojkfaaGreatSI
namespace Go.Proofs.YtolalicliojkfaaGreat.sstBuild
open Go.RowKit
open Go.Proofs.YtolalicliojkfaaGreat

/-- The bytes that Build answers: none with an error. -/
def ansB (l : List Mm.Ent) (per bits : Int) : List UInt8 := if Ss.checkE l per bits = 0 then Ss.buildB l per.toNat bits.toNat else []
theorem buildB_len {l : List Mm.Ent} {p d : Nat} (h : Ss.checkE l p d = 0) (hl : l.length ≤ 1000) : (Ss.buildB l p d).length ≤ 1000000000 := by
  obtain ⟨⟨hp1, hp2, hd1, hd2⟩, hn1, hn2, _, _⟩ := Ss.check_parts h
  have hN1 : Ss.cnt l p ≤ 1000 := by
    have h1 : Ss.cnt l p ≤ l.length := by
      unfold Ss.cnt
      rw [Nat.div_le_iff_le_mul_add_pred (by omega)]
      have := Nat.mul_le_mul_right l.length (show 1 ≤ p by omega)
      omega
    omega
  have h1 := Ss.outB_len h _ (Nat.le_refl _)
  have h2 := Ss.idxB_len h _ (Nat.le_refl _)
  have h3 := Bm.filt_length (Ss.keysB l) d
  have hkl : (Ss.keysB l).length = l.length := by unfold Ss.keysB; rw [List.length_map]
  rw [hkl] at h3
  unfold Bm.bytes at h3
  have hpr : l.length * d ≤ 1000 * 16 := Nat.mul_le_mul hl (by omega)
  have h4 : (Ss.outB l p (Ss.cnt l p)).length ≤ 330012000 := by have := Nat.mul_le_mul_right 330012 hN1; omega
  have h5 : (Ss.idxB l p (Ss.cnt l p)).length ≤ 600000 := by have := Nat.mul_le_mul_right 542 hN1; omega
  unfold Ss.buildB Ss.b3 Ss.b2 Ss.b1
  simp only [List.length_append, frm_length, rec3_length]
  omega
theorem ansB_len {l : List Mm.Ent} {per bits : Int} (hl : l.length ≤ 1000) : (ansB l per bits).length ≤ 1000000000 := by
  unfold ansB
  by_cases hc : Ss.checkE l per bits = 0
  · rw [if_pos hc]
    obtain ⟨⟨hp1, hp2, hd1, hd2⟩, _⟩ := Ss.check_parts hc
    obtain ⟨p, rfl⟩ := Int.eq_ofNat_of_zero_le (show 0 ≤ per by omega)
    obtain ⟨d, rfl⟩ := Int.eq_ofNat_of_zero_le (show 0 ≤ bits by omega)
    exact buildB_len hc hl
  · rw [if_neg hc]
    simp
theorem sbuild_all (w : World) (a : Option Addr) (c n : Nat) (l : List Mm.Ent) (h : EntsAt w (.slice a n c) l) (hn : n = l.length) (hcap : n ≤ c) (hl : n ≤ 1000) (hk : ∀ x ∈ l, x.key.length ≤ 1000000 ∧ x.value.length ≤ 1000000) (per bits : Int) :
    Calls Tryz.prog 7 #[.slice a n c, .int .i64 per, .int .i64 bits] w fun e w' => ∃ v, e = .returned (.tuple #[v, .int .i64 (Ss.checkE l per bits)]) ∧ w'.ownsRow w.heap.size 5 1 v (ansB l per bits).length (bc (ansB l per bits)) ∧ Below w.heap.size w w' := by
  by_cases hc : Ss.checkE l per bits = 0
  · obtain ⟨⟨hp1, hp2, hd1, hd2⟩, _⟩ := Ss.check_parts hc
    obtain ⟨p, rfl⟩ := Int.eq_ofNat_of_zero_le (show 0 ≤ per by omega)
    obtain ⟨d, rfl⟩ := Int.eq_ofNat_of_zero_le (show 0 ≤ bits by omega)
    unfold ansB
    rw [if_pos hc, hc]
    exact sbuild_ok w a c n l h hn hcap hl hk p d hc
  · refine (sbuild_bad w a c n l h hn (by omega) hk per bits hc).mono ?_
    rintro e w' ⟨rfl, b⟩
    refine ⟨_, rfl, ?_, b⟩
    unfold ansB
    rw [if_neg hc]
    exact World.ownsRow_nil _ _ _ _
theorem rsbuild_all (w : World) (a : Option Addr) (c n : Nat) (l : List Mm.Ent) (h : EntsAt w (.slice a n c) l) (hn : n = l.length) (hcap : n ≤ c) (hl : n ≤ 1000) (per bits : Int) :
    Calls Tryz.prog 8 #[.slice a n c, .int .i64 per, .int .i64 bits] w fun e w' => ∃ v, e = .returned (.tuple #[v, .int .i64 (Ss.checkE l per bits)]) ∧ w'.ownsRow w.heap.size 5 1 v (ansB l per bits).length (bc (ansB l per bits)) ∧ Below w.heap.size w w' := by
  by_cases hc : Ss.checkE l per bits = 0
  · obtain ⟨⟨hp1, hp2, hd1, hd2⟩, _⟩ := Ss.check_parts hc
    obtain ⟨p, rfl⟩ := Int.eq_ofNat_of_zero_le (show 0 ≤ per by omega)
    obtain ⟨d, rfl⟩ := Int.eq_ofNat_of_zero_le (show 0 ≤ bits by omega)
    unfold ansB
    rw [if_pos hc, hc]
    exact rsbuild_ok w a c n l h hn hcap hl p d hc
  · have hA : ansB l per bits = [] := by unfold ansB; rw [if_neg hc]
    by_cases hs : Ss.shapeOk l per bits = false
    · have h2 : Ss.checkE l per bits = 2 := by unfold Ss.checkE; rw [if_pos hs]
      refine (rsbuild_shape w a c n l hn per bits hs).mono ?_
      rintro e w' ⟨rfl, rfl⟩
      rw [hA, h2]
      exact ⟨_, rfl, World.ownsRow_nil _ _ _ _, Below.refl _ _⟩
    · refine (rsbuild_bad w a c n l h hn (by omega) per bits (by simpa using hs) hc).mono ?_
      rintro e w' ⟨rfl, b⟩
      rw [hA]
      exact ⟨_, rfl, World.ownsRow_nil _ _ _ _, b⟩
theorem ents_front {w : World} {ad : Addr} {n k c : Nat} {l m : List Mm.Ent} (h : EntsAt w (.slice (some ad) k c) (l ++ m)) (hn : n = l.length) (c' : Nat) : EntsAt w (.slice (some ad) n c') l := by
  obtain ⟨⟨a0, cap, e, hf⟩⟩ := h
  simp only [Value.slice.injEq] at e
  obtain ⟨rfl, _, rfl⟩ := e
  subst hn
  refine ⟨⟨some ad, c', rfl, fun h0 => ?_⟩⟩
  obtain ⟨b, off, e, hc⟩ := hf (by intro e; exact h0 (List.append_eq_nil_iff.1 e).1)
  refine ⟨b, off, e, fun j hj => ?_⟩
  have := hc j (by rw [List.length_append]; omega)
  rwa [List.getElem_append_left hj] at this
theorem two (w W : World) (base : Nat) (v0 v1 : Value) (l : List UInt8) (h0 : w.ownsRow base 5 1 v0 l.length (bc l)) (h1 : w.ownsRow base 5 1 v1 l.length (bc l))
    (z0 : l.length ≤ 140737488355328) (A0 A1 A2 : Nat) (d0 : Lies v0 A0 A1) (d1 : Lies v1 A1 A2) (m2 : A2 ≤ w.heap.size) (m1 : A1 ≤ A2) (hbase : base ≤ w.heap.size) (hW : Below base W w) :
    Calls Tryz.prog 11 #[.slice (some ⟨w.heap.size, 0, none⟩) 2 2] (w.alloc (.cells #[v0, v1] 26)) fun e w' => e = .returned (.bool true) ∧ Below base W w' := by
  have c2 : ∀ k, k < 2 → k = 0 ∨ k = 1 := fun k hk => by omega
  refine (apart_vals (w.alloc (.cells #[v0, v1] 26)) base w.heap.size 2 [(v0, l), (v1, l)] (by simp) ?_ ?_ ?_ ?_ ?_ (by simp; omega)).mono ?_
  · intro k hk
    rcases c2 k hk with rfl | rfl
    · exact Joins.cell_of_block (World.alloc_heap_new w _) 0
    · exact Joins.cell_of_block (World.alloc_heap_new w _) 1
  · intro k hk
    rcases c2 k hk with rfl | rfl
    · exact h0.alloc _
    · exact h1.alloc _
  · intro k hk
    rcases c2 k hk with rfl | rfl
    · exact z0
    · exact z0
  · intro i k hi hk hik hne e
    rcases c2 i hi with rfl | rfl
    · rcases c2 k hk with rfl | rfl
      · omega
      · obtain ⟨g, hg⟩ := Option.ne_none_iff_exists'.mp hne
        have hg2 := e.symm.trans hg
        simp only [List.getElem_cons_zero, List.getElem_cons_succ] at hg hg2
        have := d0 g hg
        have := d1 g hg2
        omega
    · have := c2 k hk
      omega
  · intro k hk e
    rcases c2 k hk with rfl | rfl
    · have := d0 _ e
      omega
    · have := d1 _ e
      omega
  · rintro e w' ⟨rfl, b⟩
    exact ⟨rfl, (hW.alloc hbase _).trans b⟩

set_option maxRecDepth 100000 in
set_option maxHeartbeats 4000000 in
theorem walk (w : World) (a : Option Addr) (c n : Nat) (l : List Mm.Ent) (hat : EntsAt w (.slice a n c) l) (hn : n = l.length) (hlen : n ≤ maxLen) (hcap : n ≤ c) (hno : a = none → c = 0) (hok : ∀ x ∈ l, x.key.length ≤ maxLen ∧ x.value.length ≤ maxLen)
    (per bits : Int) :
    Calls Tryz.prog 3 #[.slice a n c, .int .i64 per, .int .i64 bits] w fun e w' => e = .returned (.bool true) ∧ Below w.heap.size w w' := by
  have LV : Hid (Calls Tryz.prog 4 #[] w fun e w' => e = .returned (.bool true) ∧ Below w.heap.size w w') := slives_any w
  have SM : Hid (∀ wx, Below w.heap.size w wx → Calls Tryz.prog 5 #[.slice a n c] wx fun e w' => e = .returned (.bool (small9B l)) ∧ Below wx.heap.size wx w') := fun wx hx => small9_any wx a c n l (hat.later hx) hn hlen hok _ rfl
  by_cases hs0 : small9B l = false
  · rw [hs0] at SM
    clear hs0 hat hok hn
    go_enter Tryz.func3, Tryz.ntmps3
    go_wp2_with (first
      | (go_at_call 4; refine LV.out.mono ?_; rintro e w1 ⟨rfl, b1⟩; clear LV)
      | (go_at_call 5; refine (SM.out _ b1).mono ?_; rintro e w2 ⟨rfl, b2⟩; clear SM))
    go_ret
    exact ⟨rfl, b1.trans (b2.mono b1.size)⟩
  have hs : small9B l = true := by simpa using hs0
  rw [hs] at SM
  obtain ⟨hn150, hk600⟩ := small9_facts hs
  have hn1 : n ≤ 1000 := by omega
  obtain ⟨E, hE⟩ : ∃ E, E = Ss.checkE l per bits := ⟨_, rfl⟩
  obtain ⟨B, hB⟩ : ∃ B, B = ansB l per bits := ⟨_, rfl⟩
  have BL : Hid (B.length ≤ 140737488355328) := by show _ ≤ _; rw [hB]; have := ansB_len (l := l) (per := per) (bits := bits) (by omega); omega
  have LE : Hid (∀ wx, Below w.heap.size w wx → Calls Tryz.prog 6 #[.slice a n c] wx fun e w' => ∃ g cap, e = .returned (.slice (some ⟨g, 0, none⟩) (n + 3) cap) ∧ Hid (EntsAt w' (.slice (some ⟨g, 0, none⟩) (n + 3) cap) (lentE l 3)) ∧ n + 3 ≤ cap ∧ Below wx.heap.size wx w') := fun wx hx => by
    refine (lentEntries_any wx a c n l (hat.later hx) hn hno (by omega)).mono ?_
    rintro e w' ⟨g, cap, rfl, ho, hb⟩
    refine ⟨g, cap, rfl, ?_, ?_, hb⟩
    · have hll : n + 3 = (lentE l 3).length := by rw [lentE_len, hn]
      have ho' := ho
      rw [hll] at ho' ⊢
      exact EntsAt.own ho'
    · rcases ho.2 with ⟨e, _⟩ | ⟨g', cap', cur, e, _, _, hnc, _⟩
      · cases e
      · simp only [Value.slice.injEq, Option.some.injEq, Addr.mk.injEq, and_true, true_and] at e
        omega
  have SB : Hid (∀ wx g cap k c', EntsAt wx (.slice (some ⟨g, 0, none⟩) k c') (lentE l 3) → n ≤ cap → Calls Tryz.prog 7 #[.slice (some ⟨g, 0, none⟩) n cap, .int .i64 per, .int .i64 bits] wx fun e w' => ∃ v, e = .returned (.tuple #[v, .int .i64 E]) ∧ Hid (w'.ownsRow wx.heap.size 5 1 v B.length (bc B)) ∧ Below wx.heap.size wx w') := fun wx g cap k c' hx hcp => by
    rw [hE, hB]
    exact sbuild_all wx (some ⟨g, 0, none⟩) cap n l (ents_front hx hn cap) hn hcp hn1 (fun x hx => by have := hk600 x hx; omega) per bits
  have RB : Hid (∀ wx, Below w.heap.size w wx → Calls Tryz.prog 8 #[.slice a n c, .int .i64 per, .int .i64 bits] wx fun e w' => ∃ v, e = .returned (.tuple #[v, .int .i64 E]) ∧ Hid (w'.ownsRow wx.heap.size 5 1 v B.length (bc B)) ∧ Below wx.heap.size wx w') := fun wx hx => by
    rw [hE, hB]
    exact rsbuild_all wx a c n l (hat.later hx) hn hcap hn1 per bits
  have SS : Hid (∀ wx v v2, BytesIn wx v B → BytesIn wx v2 B → Calls Tryz.prog 9 #[v, v2] wx fun e w' => e = .returned (.bool true) ∧ Below wx.heap.size wx w') := fun wx v v2 h1 h2 => by
    have := same_any wx v v2 B B h1 h2
    rwa [decide_eq_true rfl] at this
  have KE : Hid (∀ wx v, Below w.heap.size w wx → EntsAt wx v (lentE l 3) → Calls Tryz.prog 10 #[v, .slice a n c] wx fun e w' => e = .returned (.bool true) ∧ Below wx.heap.size wx w') := fun wx v hx hv => keptEntries_any wx a c n l (hat.later hx) hn hno (by omega) v hv
  clear hat hok hn hs hs0 hk600 hn150 hE hB hno
  go_enter Tryz.func3, Tryz.ntmps3
  go_wp2_with (first
    | (go_at_call 4; refine LV.out.mono ?_; rintro e w1 ⟨rfl, b1⟩; clear LV)
    | (go_at_call 5; refine (SM.out _ b1).mono ?_; rintro e w2 ⟨rfl, b2⟩; clear SM)
    | (go_at_call 6; refine (LE.out _ (b1.trans (b2.mono b1.size))).mono ?_; rintro e w3 ⟨g3, c3, rfl, L3, hc3, b3⟩; have B3 := hide ((b1.trans (b2.mono b1.size)).trans (b3.mono (b1.trans (b2.mono b1.size)).size)); clear LE b1 b2 b3; have y0 : (0 : Int) ≤ (n : Int) := (by omega); have y1 : (n : Int) ≤ (c3 : Int) := (by omega))
    | (go_at_call 7; have ta := L4.out; refine (SB.out _ _ _ _ _ L4.out (by omega)).mono ?_; rintro e w5 ⟨v5, rfl, o5, b5⟩; have o4b := hide (own_after o4.out b5); have L5 := hide (L4.out.later b5); have B5 := hide (B4.out.trans (b5.mono B4.out.size)); clear L4 ta B4)
    | (go_at_call 7; have ta := B3.out; refine (SB.out _ _ _ _ _ L3.out (by omega)).mono ?_; rintro e w4 ⟨v4, rfl, o4, b4⟩; have L4 := hide (L3.out.later b4); have B4 := hide (B3.out.trans (b4.mono B3.out.size)); have zz4 := b4.size; have z3 := hide B3.out.size; clear L3 ta B3))
  obtain ⟨a4, c4, hv4⟩ := row_shape o4.out
  obtain ⟨a5, c5, hv5⟩ := row_shape o5.out
  subst hv4 hv5
  have D4 : Hid (Lies (.slice a4 B.length c4) w3.heap.size w4.heap.size) := fun g hg => o4.out.lt g hg
  have D5 : Hid (Lies (.slice a5 B.length c5) w4.heap.size w5.heap.size) := fun g hg => o5.out.lt g hg
  have ZZ : Hid (w.heap.size ≤ w3.heap.size ∧ w3.heap.size ≤ w4.heap.size ∧ w4.heap.size ≤ w5.heap.size) := ⟨z3.out, zz4, b5.size⟩
  clear o4 zz4 b5 z3 b4 SB
  go_wp2_with (first
    | (go_at_call 8; refine (RB.out _ B5.out).mono ?_; rintro e w6 ⟨v6, rfl, o6, b6⟩; have o4c := hide (own_after o4b.out b6); have o5b := hide (own_after o5.out b6); have L6 := hide (L5.out.later b6); have B6 := hide (B5.out.trans (b6.mono B5.out.size)); have z6 := hide b6.size; clear RB B5 L5 o4b o5 b6)
    | (go_at_call 9; refine (SS.out _ _ _ (bytes_of_own o4c.out BL.out) (bytes_of_own o6.out BL.out)).mono ?_; rintro e w7 ⟨rfl, b7⟩; have o4d := hide (own_after o4c.out b7); have o5c := hide (own_after o5b.out b7); have L7 := hide (L6.out.later b7); have B7 := hide (B6.out.trans (b7.mono B6.out.size)); have z7 := hide b7.size; clear SS B6 L6 o4c o5b b7 o6)
    | (go_at_call 10; refine (KE.out _ _ B7.out L7.out).mono ?_; rintro e w8 ⟨rfl, b8⟩; have o4e := hide (own_after o4d.out b8); have o5d := hide (own_after o5c.out b8); have B8 := hide (B7.out.trans (b8.mono B7.out.size)); have z8 := hide b8.size; clear KE L7 o4d o5c b8)
    | (go_at_call 11; refine (two w8 w w.heap.size (.slice a4 B.length c4) (.slice a5 B.length c5) B (own_base o4e.out ZZ.out.1) (own_base o5d.out (Nat.le_trans ZZ.out.1 ZZ.out.2.1)) BL.out w3.heap.size w4.heap.size w5.heap.size D4.out D5.out (Nat.le_trans z6.out (Nat.le_trans z7.out z8.out)) ZZ.out.2.2 B8.out.size B8.out).mono ?_; rintro e w9 ⟨rfl, b9⟩))
  go_ret
  exact ⟨rfl, b9⟩
end Go.Proofs.YtolalicliojkfaaGreat.sstBuild
