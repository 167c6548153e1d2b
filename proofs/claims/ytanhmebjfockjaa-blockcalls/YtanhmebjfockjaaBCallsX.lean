/-
  The walk of BlockCalls, its calls one behind the other.
-/
import Derived.Test.YtanhmebjfockjaaBCallsW
namespace Go.Proofs.Ytanhmebjfockjaa.blockCalls
open Go.RowKit
open Go.Proofs.Ytanhmebjfockjaa

theorem apartE_all (wx : World) (base B DL : Nat) (a8 a10 : Option Addr) (c8 c10 : Nat) (D : List Mm.Ent) (hDL : DL = D.length) (hD : DL ≤ 64) (hk : ∀ x ∈ D, x.key.length ≤ 1000000)
    (o8 : wx.ownsRow base 38 4 (.slice a8 DL c8) DL (ecs D)) (o10 : wx.ownsRow base 38 4 (.slice a10 DL c10) DL (ecs D)) (n8 : D = [] → a8 = none ∧ c8 = 0) (n10 : D = [] → a10 = none ∧ c10 = 0)
    (hB : wx.cell? ⟨B, 0, none⟩ = some (.slice a10 DL c10)) (h1 : (Value.slice a8 DL c8).ownBlock ≠ some B) (h2 : ∀ g, (Value.slice a10 DL c10).ownBlock = some g → (Value.slice a8 DL c8).ownBlock ≠ some g) (hbase : base ≤ wx.heap.size) :
    Calls Try.prog 24 #[.slice a8 DL c8, .slice (some ⟨B, 0, none⟩) 1 1] wx fun e w' => e = .returned (.bool true) ∧ Below base wx w' := by
  by_cases h0 : D = []
  · obtain ⟨rfl, rfl⟩ := n8 h0
    obtain ⟨rfl, rfl⟩ := n10 h0
    have hz : DL = 0 := by rw [hDL, h0]; rfl
    subst hz
    refine (apartE_nil wx B hB).mono ?_
    rintro e w' ⟨rfl, b⟩
    exact ⟨rfl, b.mono hbase⟩
  · have hz : DL ≠ 0 := by rw [hDL]; intro e; exact h0 (List.eq_nil_of_length_eq_zero e)
    obtain ⟨g, cap, hg⟩ := own_someE o10 (by omega)
    have e1 : a10 = some ⟨g, 0, none⟩ := by simp only [Value.slice.injEq] at hg; exact hg.1
    subst e1
    have o10' := o10
    rw [hDL] at o10'
    have EA : EntsAt wx (.slice (some ⟨g, 0, none⟩) DL c10) D := by rw [hDL]; exact EntsAt.own o10'
    exact apartE_one wx base B g DL c10 DL _ D D o8 hDL hB EA hDL (by omega) (by omega) h1 (h2 g rfl) hk hbase

set_option maxRecDepth 100000 in
set_option maxHeartbeats 8000000 in
theorem walk (w : World) (a : Option Addr) (c n : Nat) (l : List Mm.Ent) (hat : EntsAt w (.slice a n c) l) (hn : n = l.length) (hlen : n ≤ maxLen) (hno : a = none → c = 0) (hok : ∀ x ∈ l, x.key.length ≤ maxLen ∧ x.value.length ≤ maxLen)
    (a1 : Option Addr) (c1 m : Nat) (b : List UInt8) (hb : BytesIn w (.slice a1 m c1) b) (hm : m = b.length) (hcb : m ≤ c1) (hnob : a1 = none → c1 = 0) :
    Calls Try.prog 4 #[.slice a n c, .slice a1 m c1] w fun e w' => e = .returned (.bool true) ∧ Below w.heap.size w w' := by
  have LV : Hid (Calls Try.prog 25 #[] w fun e w' => e = .returned (.bool true) ∧ Below w.heap.size w w') := blives_any w
  have SM : Hid (∀ wx, Below w.heap.size w wx → Calls Try.prog 26 #[.slice a n c] wx fun e w' => e = .returned (.bool (smallB l)) ∧ Below wx.heap.size wx w') := fun wx hx => small_any wx a c n l (hat.later hx) hn hlen hok _ rfl
  by_cases hs0 : smallB l = false
  · rw [hs0] at SM
    clear hs0 hat hok hn hb hm
    go_enter Try.func4, Try.ntmps4
    go_wp2_with (first
      | (go_at_call 25; refine LV.out.mono ?_; rintro e w1 ⟨rfl, b1⟩; clear LV)
      | (go_at_call 26; refine (SM.out _ b1).mono ?_; rintro e w2 ⟨rfl, b2⟩; clear SM))
    go_ret
    exact ⟨rfl, b1.trans (b2.mono b1.size)⟩
  have hs : smallB l = true := by simpa using hs0
  rw [hs] at SM
  by_cases hm8 : m > 8000
  · have g8 : (m : Int) > 8000 := by omega
    clear hs hs0 hat hok hn hb hm hm8
    go_enter Try.func4, Try.ntmps4
    go_wp2_with (first
      | (go_at_call 25; refine LV.out.mono ?_; rintro e w1 ⟨rfl, b1⟩; clear LV)
      | (go_at_call 26; refine (SM.out _ b1).mono ?_; rintro e w2 ⟨rfl, b2⟩; clear SM))
    go_ret
    exact ⟨rfl, b1.trans (b2.mono b1.size)⟩
  have g8 : ¬ (m : Int) > 8000 := by omega
  have hsm : n ≤ 70 ∧ ∀ x ∈ l, x.key.length ≤ 1000000 ∧ x.value.length ≤ 1000000 := by
    unfold smallB at hs
    rw [Bool.and_eq_true, decide_eq_true_eq] at hs
    refine ⟨by omega, fun x hx => ?_⟩
    have := List.all_eq_true.1 hs.1 x hx
    unfold shortE at this
    simp only [Bool.and_eq_true, decide_eq_true_eq] at this
    omega
  obtain ⟨hn70, hkk⟩ := hsm
  obtain ⟨E, hE⟩ : ∃ E, E = Bk.checkE l := ⟨_, rfl⟩
  obtain ⟨B, hBd⟩ : ∃ B, B = encA l := ⟨_, rfl⟩
  obtain ⟨D, hD⟩ : ∃ D, D = decL b := ⟨_, rfl⟩
  obtain ⟨DE, hDE⟩ : ∃ DE, DE = decE b := ⟨_, rfl⟩
  have hBl := encA_len l
  rw [← hBd] at hBl
  obtain ⟨hDl, hDk⟩ := decL_facts b
  rw [← hD] at hDl hDk
  have LE : Hid (∀ wx, Below w.heap.size w wx → Calls Try.prog 27 #[.slice a n c] wx fun e w' => ∃ g cap, e = .returned (.slice (some ⟨g, 0, none⟩) (n + 3) cap) ∧ Hid (EntsAt w' (.slice (some ⟨g, 0, none⟩) (n + 3) cap) (lentE l 3)) ∧ n + 3 ≤ cap ∧ Below wx.heap.size wx w') := fun wx hx => by
    refine (lentEntries_any wx a c n l (hat.later hx) hn hno (by omega)).mono ?_
    rintro e w' ⟨g, cap, rfl, ho, hb⟩
    refine ⟨g, cap, rfl, ?_, ?_, hb⟩
    · have hll : n + 3 = (lentE l 3).length := by rw [lentE_len, hn]
      have ho' := ho
      rw [hll] at ho' ⊢
      exact EntsAt.own ho'
    · rcases ho.2 with ⟨e, _⟩ | ⟨g', cap', cur, e, _, _, hnc, _⟩
      · cases e
      · simp only [Value.slice.injEq, Option.some.injEq, Addr.mk.injEq, and_true, true_and] at e
        omega
  have LB : Hid (∀ wx, Below w.heap.size w wx → Calls Try.prog 28 #[.slice a1 m c1] wx fun e w' => ∃ g cap, e = .returned (.slice (some ⟨g, 0, none⟩) (m + 3) cap) ∧ Hid (w'.ownsRow wx.heap.size 5 1 (.slice (some ⟨g, 0, none⟩) (m + 3) cap) (lentB b).length (bc (lentB b))) ∧ m + 3 ≤ cap ∧ Below wx.heap.size wx w') := fun wx hx => by
    have h1 := hb.later hx
    rw [hm] at h1 ⊢
    refine (lentBytes_any wx a1 c1 b h1 hnob (by omega)).mono ?_
    rintro e w' ⟨g, cap, rfl, x⟩
    refine ⟨g, cap, rfl, x.own, ?_, below_of x.grown⟩
    have ho := x.own
    rcases ho.2 with ⟨e, _⟩ | ⟨g', cap', cur, e, _, _, hnc, _⟩
    · cases e
    · simp only [Value.slice.injEq, Option.some.injEq, Addr.mk.injEq, and_true] at e
      rw [lentB_length] at hnc
      omega
  have BE : Hid (∀ wx g cap k c', EntsAt wx (.slice (some ⟨g, 0, none⟩) k c') (lentE l 3) → Calls Try.prog 29 #[.slice (some ⟨g, 0, none⟩) n cap] wx fun e w' => ∃ a c, e = .returned (.tuple #[.slice a B.length c, .int .i64 E]) ∧ Hid (w'.ownsRow wx.heap.size 5 1 (.slice a B.length c) B.length (bc B)) ∧ Below wx.heap.size wx w') := fun wx g cap k c' hx => by
    rw [hE, hBd]
    exact benc_all wx (some ⟨g, 0, none⟩) cap n l (ents_front2 hx hn cap) (by omega) hkk
  have RE : Hid (∀ wx, Below w.heap.size w wx → Calls Try.prog 30 #[.slice a n c] wx fun e w' => ∃ a c, e = .returned (.tuple #[.slice a B.length c, .int .i64 E]) ∧ Hid (w'.ownsRow wx.heap.size 5 1 (.slice a B.length c) B.length (bc B)) ∧ Below wx.heap.size wx w') := fun wx hx => by
    rw [hE, hBd]
    exact renc_all wx a c n l (hat.later hx) (by omega)
  have BD : Hid (∀ wx base g cap k c', wx.ownsRow base 5 1 (.slice (some ⟨g, 0, none⟩) k c') (lentB b).length (bc (lentB b)) → m ≤ cap → Calls Try.prog 31 #[.slice (some ⟨g, 0, none⟩) m cap] wx fun e w' => ∃ a c, e = .returned (.tuple #[.slice a D.length c, .int .i64 DE]) ∧ Hid (w'.ownsRow wx.heap.size 38 4 (.slice a D.length c) D.length (ecs D)) ∧ Hid (D = [] → a = none ∧ c = 0) ∧ Below wx.heap.size wx w') := fun wx base g cap k c' ho hcap => by
    rw [hD, hDE]
    have hb0 : BytesIn wx (.slice (some ⟨g, 0, none⟩) k c') (lentB b) := bytes_of_own ho (by rw [lentB_length]; omega)
    have h1 := bytes_front (n := m) (l := b) (m := [201, 202, 203]) hb0 hm cap
    rw [hm] at h1 hcap ⊢
    refine (bdecode_any wx (some ⟨g, 0, none⟩) cap b h1 hcap (fun e => by cases e) (by omega)).mono ?_
    rintro e w' ⟨v, E, rfl, hx, hbl⟩
    obtain ⟨a, c, rfl, rfl, o, h0⟩ := dec_shape hx.out
    exact ⟨a, c, rfl, o, h0, hbl⟩
  have RD : Hid (∀ wx, Below w.heap.size w wx → Calls Try.prog 32 #[.slice a1 m c1] wx fun e w' => ∃ a c, e = .returned (.tuple #[.slice a D.length c, .int .i64 DE]) ∧ Hid (w'.ownsRow wx.heap.size 38 4 (.slice a D.length c) D.length (ecs D)) ∧ Below wx.heap.size wx w') := fun wx hx => by
    rw [hD, hDE]
    refine (rdecode_any wx a1 c1 m b (hb.later hx) hm hcb (by omega)).mono ?_
    rintro e w' ⟨v, E, rfl, hx, hbl⟩
    obtain ⟨a, c, rfl, rfl, o, h0⟩ := dec_shape hx.out
    exact ⟨a, c, rfl, o, hbl⟩
  have BC : Hid (∀ wx g cap k c', EntsAt wx (.slice (some ⟨g, 0, none⟩) k c') (lentE l 3) → Calls Try.prog 33 #[.slice (some ⟨g, 0, none⟩) n cap] wx fun e w' => e = .returned (.int .i64 E) ∧ Below wx.heap.size wx w') := fun wx g cap k c' hx => bcheck_any wx _ cap n l (ents_front2 hx hn cap) hn (by omega) hkk E hE
  have RC : Hid (∀ wx, Below w.heap.size w wx → Calls Try.prog 34 #[.slice a n c] wx fun e w' => e = .returned (.int .i64 E) ∧ Below wx.heap.size wx w') := fun wx hx => rbcheck_any wx a c n l (hat.later hx) hn (by omega) E hE
  have SB : Hid (∀ wx v v2, BytesIn wx v B → BytesIn wx v2 B → Calls Try.prog 35 #[v, v2] wx fun e w' => e = .returned (.bool true) ∧ Below wx.heap.size wx w') := fun wx v v2 h1 h2 => by
    have := same_any wx v v2 B B h1 h2
    rwa [decide_eq_true rfl] at this
  have SE : Hid (∀ wx v v2, EntsAt wx v D → EntsAt wx v2 D → Calls Try.prog 21 #[v, v2] wx fun e w' => e = .returned (.bool true) ∧ Below wx.heap.size wx w') := fun wx v v2 h1 h2 => samee_any wx v v2 D h1 h2 (by omega)
  have KE : Hid (∀ wx v, Below w.heap.size w wx → EntsAt wx v (lentE l 3) → Calls Try.prog 36 #[v, .slice a n c] wx fun e w' => e = .returned (.bool true) ∧ Below wx.heap.size wx w') := fun wx v hx hv => keptEntries_any wx a c n l (hat.later hx) hn hno (by omega) v hv
  have KB : Hid (∀ wx v, Below w.heap.size w wx → BytesIn wx v (lentB b) → Calls Try.prog 37 #[v, .slice a1 m c1] wx fun e w' => e = .returned (.bool true) ∧ Below wx.heap.size wx w') := fun wx v hx hv => by
    have h1 := hb.later hx
    rw [hm] at h1 ⊢
    exact keptBytes_any wx v b hv a1 c1 h1 hnob (by omega)
  have ZB : Hid (B.length ≤ 140737488355328) := by show _ ≤ _; omega
  have ZL : Hid ((lentB b).length ≤ 140737488355328) := by show _ ≤ _; rw [lentB_length]; omega
  have ZD : Hid (D.length ≤ 64) := hDl
  have HDK := hide hDk
  clear hat hok hn hs hs0 hkk hE hBd hD hDE hno hb hm hnob hcb hBl hDl hDk
  go_enter Try.func4, Try.ntmps4
  go_wp2_with (first
    | (go_at_call 25; refine LV.out.mono ?_; rintro e w1 ⟨rfl, b1⟩; clear LV)
    | (go_at_call 26; refine (SM.out _ b1).mono ?_; rintro e w2 ⟨rfl, b2⟩; have B2 := hide (b1.trans (b2.mono b1.size)); clear SM b1 b2)
    | (go_at_call 27; refine (LE.out _ B2.out).mono ?_; rintro e w3 ⟨g3, c3, rfl, L3, hc3, b3⟩; have B3 := hide (B2.out.trans (b3.mono B2.out.size)); clear LE B2 b3; have y0 : (0 : Int) ≤ (n : Int) := (by omega); have y1 : (n : Int) ≤ (c3 : Int) := (by omega))
    | (go_at_call 28; refine (LB.out _ B3.out).mono ?_; rintro e w4 ⟨g4, c4, rfl, o4, hc4, b4⟩; have H4 : Hid (Hv w w4 (.slice (some ⟨g3, 0, none⟩) (n + 3) c3) (lentE l 3) [(.slice (some ⟨g4, 0, none⟩) (m + 3) c4, w3.heap.size, lentB b)] []) := (⟨L3.out, (fun x hx => by cases hx), (fun x hx => by cases hx), B3.out⟩ : Hv w w3 _ _ [] []).row b4 o4.out; have D4 : Hid (Lies (.slice (some ⟨g4, 0, none⟩) (m + 3) c4) w3.heap.size w4.heap.size) := (fun g hg => o4.out.lt g hg); have z3 := hide B3.out.size; have z4 := hide b4.size; clear LB L3 o4 b4 B3; have y2 : (0 : Int) ≤ (m : Int) := (by omega); have y3 : (m : Int) ≤ (c4 : Int) := (by omega)))
  -- <<<
  go_wp2_with (first
    | (go_at_call 37; have ta := H15.out; refine (KB.out _ _ H15.out.bel (bytes_of_own (H15.out.rs _ (.tail _ (.tail _ (.tail _ (.head _))))) ZL.out)).mono ?_; rintro e w16 ⟨rfl, b16⟩; have H16 := hide (H15.out.later b16); have z16 := hide b16.size; clear b16 KB; clear H15 ta)
    | (go_at_call 36; have ta := H14.out; refine (KE.out _ _ H14.out.bel H14.out.full).mono ?_; rintro e w15 ⟨rfl, b15⟩; have H15 := hide (H14.out.later b15); have z15 := hide b15.size; clear b15 KE; clear H14 ta)
    | (go_at_call 21; have ta := H13.out; refine (SE.out _ _ _ (EntsAt.own (H13.out.es _ (.tail _ (.tail _ (.head _))))) (EntsAt.own (H13.out.es _ (.tail _ (.head _))))).mono ?_; rintro e w14 ⟨rfl, b14⟩; have H14 := hide (H13.out.later b14); have z14 := hide b14.size; clear b14 SE; clear H13 ta)
    | (go_at_call 35; have ta := H12.out; refine (SB.out _ _ _ (bytes_of_own (H12.out.rs _ (.tail _ (.tail _ (.head _)))) ZB.out) (bytes_of_own (H12.out.rs _ (.head _)) ZB.out)).mono ?_; rintro e w13 ⟨rfl, b13⟩; have H13 := hide (H12.out.later b13); have z13 := hide b13.size; clear b13 SB; clear H12 ta)
    | (go_at_call 34; have ta := H11.out; refine (RC.out _ H11.out.bel).mono ?_; rintro e w12 ⟨rfl, b12⟩; have H12 := hide (H11.out.later b12); have z12 := hide b12.size; clear b12 RC; clear H11 ta)
    | (go_at_call 33; have ta := H10.out; refine (BC.out _ _ _ _ _ H10.out.full).mono ?_; rintro e w11 ⟨rfl, b11⟩; have H11 := hide (H10.out.later b11); have z11 := hide b11.size; clear b11 BC; clear H10 ta)
    | (go_at_call 31; have ta := H9.out; refine (BD.out _ _ _ _ _ _ (H9.out.rs _ (.tail _ (.tail _ (.tail _ (.head _))))) (by omega)).mono ?_; rintro e w10 ⟨a10, c10, rfl, o10, N10, b10⟩; have H10 := hide (H9.out.ent b10 o10.out); have D10 : Hid (Lies (.slice a10 D.length c10) w9.heap.size w10.heap.size) := (fun g hg => o10.out.lt g hg); have z10 := hide b10.size; clear b10 o10 BD; clear H9 ta)
    | (go_at_call 32; have ta := H8.out; refine (RD.out _ H8.out.bel).mono ?_; rintro e w9 ⟨a9, c9, rfl, o9, b9⟩; have H9 := hide (H8.out.ent b9 o9.out); have z9 := hide b9.size; clear b9 o9 RD; clear H8 ta)
    | (go_at_call 31; have ta := H7.out; refine (BD.out _ _ _ _ _ _ (H7.out.rs _ (.tail _ (.tail _ (.tail _ (.head _))))) (by omega)).mono ?_; rintro e w8 ⟨a8, c8, rfl, o8, N8, b8⟩; have H8 := hide (H7.out.ent b8 o8.out); have D8 : Hid (Lies (.slice a8 D.length c8) w7.heap.size w8.heap.size) := (fun g hg => o8.out.lt g hg); have z8 := hide b8.size; clear b8 o8; clear H7 ta)
    | (go_at_call 30; have ta := H6.out; refine (RE.out _ H6.out.bel).mono ?_; rintro e w7 ⟨a7, c7, rfl, o7, b7⟩; have H7 := hide (H6.out.row b7 o7.out); have z7 := hide b7.size; clear b7 o7 RE; clear H6 ta)
    | (go_at_call 29; have ta := H5.out; refine (BE.out _ _ _ _ _ H5.out.full).mono ?_; rintro e w6 ⟨a6, c6, rfl, o6, b6⟩; have H6 := hide (H5.out.row b6 o6.out); have D6 : Hid (Lies (.slice a6 B.length c6) w5.heap.size w6.heap.size) := (fun g hg => o6.out.lt g hg); have z6 := hide b6.size; clear b6 o6 BE; clear H5 ta)
    | (go_at_call 29; have ta := H4.out; refine (BE.out _ _ _ _ _ H4.out.full).mono ?_; rintro e w5 ⟨a5, c5, rfl, o5, b5⟩; have H5 := hide (H4.out.row b5 o5.out); have D5 : Hid (Lies (.slice a5 B.length c5) w4.heap.size w5.heap.size) := (fun g hg => o5.out.lt g hg); have z5 := hide b5.size; clear b5 o5; clear H4 ta))
  have Z6 : Hid (w6.heap.size ≤ w16.heap.size) := (Nat.le_trans (Nat.le_trans (Nat.le_trans (Nat.le_trans (Nat.le_trans (Nat.le_trans (Nat.le_trans (Nat.le_trans (Nat.le_trans z7.out z8.out) z9.out) z10.out) z11.out) z12.out) z13.out) z14.out) z15.out) z16.out)
  have Z7 : Hid (w6.heap.size ≤ w7.heap.size) := z7.out
  have Z9 : Hid (w6.heap.size ≤ w9.heap.size) := (Nat.le_trans (Nat.le_trans z7.out z8.out) z9.out)
  have Z4 : Hid (w.heap.size ≤ w4.heap.size) := Nat.le_trans z3.out z4.out
  have Z5 : Hid (w.heap.size ≤ w5.heap.size) := Nat.le_trans Z4.out z5.out
  have Y7 : Hid (w.heap.size ≤ w7.heap.size) := Nat.le_trans Z5.out (Nat.le_trans z6.out z7.out)
  have Y9 : Hid (w.heap.size ≤ w9.heap.size) := Nat.le_trans Y7.out (Nat.le_trans z8.out z9.out)
  go_wp2_with (first
    | (go_at_call 24; have ta := R10.out; refine (apartE_all _ w.heap.size w17.heap.size D.length a8 a10 c8 c10 D rfl ZD.out HDK.out ((own_lift R8.out Y7.out).alloc _) ((own_lift R10.out Y9.out).alloc _) N8.out N10.out (Joins.cell_of_block (World.alloc_heap_new w17 _) 0) (fun e => by have := (R8.out.lt _ e).2; omega) (fun g hg e => by have h1 := D8.out g e; have h2 := D10.out g hg; have h3 := z9.out; omega) (by have := B17.size; simp; omega)).mono ?_; rintro e w18 ⟨rfl, b18⟩)
    | (go_at_call 38; have ta := H16.out; refine (three w16 w (.slice a5 B.length c5) (.slice a6 B.length c6) (.slice (some ⟨g4, 0, none⟩) (m + 3) c4) B (lentB b) (own_base (H16.out.rs _ (.tail _ (.tail _ (.head _)))) Z4.out) (own_base (H16.out.rs _ (.tail _ (.head _))) Z5.out) (own_base (H16.out.rs _ (.tail _ (.tail _ (.tail _ (.head _))))) z3.out) ZB.out ZL.out w3.heap.size w4.heap.size w5.heap.size w6.heap.size D4.out D5.out D6.out z5.out z6.out Z6.out H16.out.bel).mono ?_; rintro e w17 ⟨rfl, B17, zz17, F17⟩; have R8 := hide (own_keptE (w' := w17) (H16.out.es _ (.tail _ (.tail _ (.head _)))) (fun i hi => F17 i (Nat.le_trans Z7.out ((H16.out.es _ (.tail _ (.tail _ (.head _)))).lt i hi).1) ((H16.out.es _ (.tail _ (.tail _ (.head _)))).lt i hi).2)); have R10 := hide (own_keptE (w' := w17) (H16.out.es _ (.head _)) (fun i hi => F17 i (Nat.le_trans Z9.out ((H16.out.es _ (.head _)).lt i hi).1) ((H16.out.es _ (.head _)).lt i hi).2)); clear H16 ta F17))
  go_ret
  exact ⟨rfl, (B17.alloc B17.size _).trans b18⟩
end Go.Proofs.Ytanhmebjfockjaa.blockCalls
