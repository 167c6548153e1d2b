/-
  A memtable keeps and tells what the document says: the walk.
-/
import Derived.Test.YtbdgdigpnfpnhaaMScr2
import Derived.Test.YtbdgdigpnfpnhaaMPick
import Derived.Test.YtbdgdigpnfpnhaaMSmall
import Derived.Test.YtbdgdigpnfpnhaaKM
import Derived.Test.YtbdgdigpnfpnhaaKL
namespace Go.Proofs.Ytbdgdigpnfpnhaa.Q.P
open Go.RowKit

theorem ints_p {w : World} {v : Value} {l : List Int} (h : Q.IntsAt w v l) : IntsAt w v l := ⟨h.form⟩
theorem ents_q {w : World} {v : Value} {l : List Mm.Ent} (h : EntsAt w v l) : Q.EntsAt w v l := ⟨h.form⟩
theorem lent_front {w : World} {ad : Addr} {n k c : Nat} {l m : List Int} (h : Q.IntsAt w (.slice (some ad) k c) (l ++ m)) (hn : n = l.length) (c' : Nat) : IntsAt w (.slice (some ad) n c') l := by
  obtain ⟨a0, cap, e, h0, hf⟩ := h
  simp only [Value.slice.injEq] at e
  obtain ⟨rfl, _, rfl⟩ := e
  refine ⟨some ad, c', by rw [hn], (fun e => by cases e), fun hl => ?_⟩
  obtain ⟨b, off, e, hc⟩ := hf (by intro e; exact hl (List.append_eq_nil_iff.1 e).1)
  refine ⟨b, off, e, fun j hj => ?_⟩
  have := hc j (by rw [List.length_append]; omega)
  rw [List.getElem_append_left hj] at this
  exact this
theorem ents_takeP {w : World} {g n c j : Nat} {l : List Mm.Ent} (h : EntsAt w (.slice (some ⟨g, 0, none⟩) n c) l) (hj : j ≤ l.length) (c' : Nat) : EntsAt w (.slice (some ⟨g, 0, none⟩) j c') (l.take j) := by
  have hl : (l.take j).length = j := by rw [List.length_take]; omega
  refine ⟨⟨_, c', by rw [hl], fun h0 => ?_⟩⟩
  have hpos := List.length_pos_iff.2 h0
  rw [hl] at hpos
  refine ⟨g, 0, rfl, fun i hi => ?_⟩
  have := h.cells i (by omega)
  rw [List.getElem_take]
  exact this
theorem ok_same (l : List Int) : l.all okH = l.all okR := rfl

theorem St.start {W0 w3 w4 w5 : World} {t b : Nat} {hv : Value} {H : List Int} (b3 : Below W0.heap.size W0 w3) (b4 : Below w3.heap.size w3 w4) (b5 : Below w4.heap.size w4 w5) (T : TabS (fun i => w3.heap.size ≤ i) w4 t (H.map Int.toNat) []) (hb : w4.heap.size ≤ b) (R : RtAt w4.heap.size w5 b hv (.slice none 0 0) (.slice none 0 0) H [] []) :
    St W0 (fun i => w3.heap.size ≤ i ∧ i < w4.heap.size) w4.heap.size w5 t b hv (.slice none 0 0) (.slice none 0 0) H [] := by
  have B4 : Below W0.heap.size W0 w4 := b3.trans (b4.mono b3.size)
  have B5 : Below W0.heap.size W0 w5 := B4.trans (b5.mono B4.size)
  have h1 := b3.size
  have h2 := b4.size
  have h3 := b5.size
  refine ⟨⟨(T.narrow (fun i hi h => ⟨h, hi⟩)).later b5, R, Nat.zero_le _, (fun x hx => by cases hx)⟩, (fun h => by omega), fun g hg h => ?_, (fun g hg => by cases hg), (fun g hg => by cases hg), (fun i h => by omega), (fun i h => by omega), by omega, by omega, h3, B5⟩
  have := (R.hh.lt g hg).1
  omega

theorem apart_two (w6 : World) (b1 b2 : Nat) (va vb : Option Addr) (ca cb TN : Nat) (TL : List Mm.Ent) (hTN : TN = TL.length) (h60 : TN ≤ 60) (hk : ∀ x ∈ TL, x.key.length ≤ 1000000) (oa : w6.ownsRow b1 38 4 (.slice va TN ca) TN (Q.ecs TL)) (ob : w6.ownsRow b2 38 4 (.slice vb TN cb) TN (Q.ecs TL)) (hab : ∀ g, (Value.slice va TN ca).ownBlock = some g → g < b2) (h12 : b1 ≤ w6.heap.size) :
    Calls Try.prog 23 #[.slice va TN ca, .slice (some ⟨w6.heap.size, 0, none⟩) 1 1] (w6.alloc (.cells #[.slice vb TN cb] 23)) fun e w' => e = .returned (.bool true) ∧ Below b1 (w6.alloc (.cells #[.slice vb TN cb] 23)) w' := by
  subst hTN
  have bX : Below w6.heap.size w6 (w6.alloc (.cells #[.slice vb TL.length cb] 23)) := (Below.refl _ _).alloc (Nat.le_refl _) _
  have hcb : TL.length ≤ cb ∧ cb ≤ 9223372036854775807 ∧ (vb = none → cb = 0) := by
    rcases ob.2 with ⟨e, h0⟩ | ⟨g', cap', cur, e, _, _, h3, h4, _⟩
    · simp only [Value.slice.injEq] at e; exact ⟨by omega, by omega, fun _ => e.2.2⟩
    · simp only [Value.slice.injEq] at e; unfold maxLen at h4; exact ⟨by omega, by omega, fun h => by rw [h] at e; cases e.1⟩
  have ob' := own_laterV ob bX
  have hv : LLs (w6.alloc (.cells #[.slice vb TL.length cb] 23)) [.slice vb TL.length cb] [TL] := ⟨rfl, fun k h1 h2 => by
    obtain rfl : k = 0 := by simpa using h1
    exact ⟨vb, cb, rfl, hcb.1, hcb.2.1, Q.EntsAt.own ob'⟩⟩
  refine apartE_many _ b1 w6.heap.size 1 1 TL.length _ TL [.slice vb TL.length cb] [TL] (own_laterV oa bX) rfl (fun k hk' => ?_) hv rfl (fun v hv' n c e => ?_) (fun x hx => ?_) (by omega) (by omega) (fun e => ?_) (fun g hg v hv' b off n c e => ?_) hk (Nat.le_trans h12 bX.size)
  · obtain rfl : k = 0 := by omega
    exact Joins.cell_of_block (World.alloc_heap_new w6 _) 0
  · rw [List.mem_singleton.1 hv'] at e
    simp only [Value.slice.injEq] at e
    rw [← e.2.2]
    exact hcb.2.2 e.1
  · rw [List.mem_singleton.1 hx]; omega
  · have := (oa.lt _ e).2
    omega
  · rw [List.mem_singleton.1 hv'] at e
    simp only [Value.slice.injEq] at e
    have h1 := hab g hg
    have h2 := (ob.lt b (by rw [e.1]; rfl)).1
    show b ≠ g
    omega

set_option maxRecDepth 100000 in
set_option maxHeartbeats 16000000 in
theorem script (w : World) (ha : Option Addr) (hn hc : Nat) (H : List Int) (hI : Q.IntsAt w (.slice ha hn hc) H) (hHn : hn = H.length) (hHm : hn ≤ maxLen)
    (la : Option Addr) (ln lc : Nat) (L : List Mm.Ent) (hE : EntsAt w (.slice la ln lc) L) (hLn : ln = L.length) (hLm : ln ≤ maxLen) (hLk : ∀ x ∈ L, x.key.length ≤ maxLen ∧ x.value.length ≤ maxLen)
    (aa : Option Addr) (an ac : Nat) (A : List Qu) (hA : AsksAt w (.slice aa an ac) A) (hAn : an = A.length) (hAm : an ≤ maxLen) (stop : Int) (hs1 : -9223372036854775808 ≤ stop) (hs2 : stop ≤ 9223372036854775807) :
    Calls Try.prog 3 #[.slice ha hn hc, .slice la ln lc, .slice aa an ac, .int .i64 stop] w fun e w' => e = .returned (.bool true) ∧ Below w.heap.size w w' := by
  have LV := hide (mlives_any w)
  have SM : Hid (∀ wx, Below w.heap.size w wx → Calls Try.prog 6 #[.slice la ln lc] wx fun e w' => e = .returned (.bool (smallB L)) ∧ Below wx.heap.size wx w') := fun wx hx => small_any wx la lc ln L (hE.later hx) hLn hLm hLk _ rfl
  have hHm' : hn ≤ 9223372036854775807 := by unfold maxLen at hHm; omega
  have hAm' : an ≤ 9223372036854775807 := by unfold maxLen at hAm; omega
  by_cases hs0 : smallB L = false
  · rw [hs0] at SM
    clear hI hHn hE hLn hLk hA hAn hs0 hHm hLm hAm
    go_enter Try.func3, Try.ntmps3
    go_wp2_with (first
      | (go_at_call 5; refine LV.out.mono ?_; rintro e w1 ⟨rfl, b1⟩; clear LV)
      | (go_at_call 6; refine (SM.out _ b1).mono ?_; rintro e w2 ⟨rfl, b2⟩; clear SM))
    go_ret
    exact ⟨rfl, b1.trans (b2.mono b1.size)⟩
  have hs : smallB L = true := by simpa using hs0
  rw [hs] at SM
  by_cases h60 : hn > 60
  · have g60 : (hn : Int) > 60 := by omega
    clear hI hHn hE hLn hLk hA hAn hs0 hHm hLm hAm hs h60
    go_enter Try.func3, Try.ntmps3
    go_wp2_with (first
      | (go_at_call 5; refine LV.out.mono ?_; rintro e w1 ⟨rfl, b1⟩; clear LV)
      | (go_at_call 6; refine (SM.out _ b1).mono ?_; rintro e w2 ⟨rfl, b2⟩; clear SM))
    go_ret
    exact ⟨rfl, b1.trans (b2.mono b1.size)⟩
  have g60 : ¬ (hn : Int) > 60 := by omega
  by_cases h61 : an > 60
  · have g61 : (an : Int) > 60 := by omega
    clear hI hHn hE hLn hLk hA hAn hs0 hHm hLm hAm hs h60 h61
    go_enter Try.func3, Try.ntmps3
    go_wp2_with (first
      | (go_at_call 5; refine LV.out.mono ?_; rintro e w1 ⟨rfl, b1⟩; clear LV)
      | (go_at_call 6; refine (SM.out _ b1).mono ?_; rintro e w2 ⟨rfl, b2⟩; clear SM))
    go_ret
    exact ⟨rfl, b1.trans (b2.mono b1.size)⟩
  have g61 : ¬ (an : Int) > 60 := by omega
  have hsm : ln ≤ 60 ∧ ∀ x ∈ L, x.key.length ≤ 1000000 ∧ x.value.length ≤ 1000000 := by
    unfold smallB at hs
    rw [Bool.and_eq_true, decide_eq_true_eq, List.all_eq_true] at hs
    refine ⟨by omega, fun x hx => ?_⟩
    have := hs.1 x hx
    unfold shortE at this
    simp only [Bool.and_eq_true, decide_eq_true_eq] at this
    omega
  obtain ⟨hl60, hkk⟩ := hsm
  have hn60 : hn ≤ 60 := by omega
  have han60 : an ≤ 60 := by omega
  have LI : Hid (∀ wx, Below w.heap.size w wx → Calls Try.prog 7 #[.slice ha hn hc] wx fun e w' => ∃ g cap, e = .returned (.slice (some ⟨g, 0, none⟩) (hn + 3) cap) ∧ Hid (Q.IntsAt w' (.slice (some ⟨g, 0, none⟩) (hn + 3) cap) (lentI H 3)) ∧ Hid (∃ xs, w'.ownsRow wx.heap.size 3 1 (.slice (some ⟨g, 0, none⟩) (hn + 3) cap) (hn + 3) xs) ∧ hn + 3 ≤ cap ∧ Below wx.heap.size wx w') := fun wx hx => by
    refine (lentInts_any wx ha hc hn H (hI.later hx) hHn (by omega)).mono ?_
    rintro e w' ⟨g, cap, rfl, ho, hb⟩
    have hcap : hn + 3 ≤ cap := by
      rcases ho.2 with ⟨e, _⟩ | ⟨g', cap', cur, e, _, _, h3, _⟩
      · cases e
      · simp only [Value.slice.injEq] at e; omega
    refine ⟨g, cap, rfl, ?_, ⟨_, ho⟩, hcap, hb⟩
    have hll : hn + 3 = (lentI H 3).length := by rw [lentI_len, hHn]
    have ho' := ho
    rw [hll] at ho' ⊢
    exact ints_own ho'
  have KI : Hid (∀ wx u, Below w.heap.size w wx → Q.IntsAt wx u (lentI H 3) → Calls Try.prog 10 #[u, .slice ha hn hc] wx fun e w' => e = .returned (.bool true) ∧ Below wx.heap.size wx w') := fun wx u hx hu => keptInts_any wx ha hc hn H (hI.later hx) hHn (by omega) u hu
  have h0 : (0 : Int) ≤ (hn : Int) := by omega
  by_cases hok : H.all okR = false
  · have NW : Hid (∀ wx g cap cc, Q.IntsAt wx (.slice (some ⟨g, 0, none⟩) (hn + 3) cap) (lentI H 3) → Calls Try.prog 8 #[.slice (some ⟨g, 0, none⟩) hn cc] wx fun e w' => e = .returned (.tuple #[.pointer none, .int .i64 2]) ∧ Below wx.heap.size wx w') := fun wx g cap cc h => by
      refine (new_any wx _ H (lent_front h hHn cc) (by omega)).mono ?_
      rintro e w' ⟨bb, h1⟩
      rcases h1 with ⟨h2, _⟩ | ⟨_, h2⟩
      · rw [ok_same, hok] at h2; cases h2
      · exact ⟨h2, bb⟩
    have RW : Hid (∀ wx, Below w.heap.size w wx → Calls Try.prog 9 #[.slice ha hn hc] wx fun e w' => e = .returned (.tuple #[.pointer none, .int .i64 2]) ∧ Below wx.heap.size wx w') := fun wx hx => by
      refine (rnew_any wx ha hn hc H (hI.later hx) hHn (by omega)).mono ?_
      rintro e w' ⟨h1, bb⟩
      rcases h1 with ⟨h2, _⟩ | ⟨_, h2⟩
      · rw [hok] at h2; cases h2
      · exact ⟨h2, bb⟩
    clear hI hHn hE hLn hLk hA hAn hs0 hHm hLm hAm hs h60 h61 hok hkk
    go_enter Try.func3, Try.ntmps3
    go_wp2_with (first
      | (go_at_call 5; refine LV.out.mono ?_; rintro e w1 ⟨rfl, b1⟩; clear LV)
      | (go_at_call 6; refine (SM.out _ b1).mono ?_; rintro e w2 ⟨rfl, b2⟩; have B2 := hide (b1.trans (b2.mono b1.size)); clear SM)
      | (go_at_call 7; refine (LI.out _ B2.out).mono ?_; rintro e w3 ⟨g3, c3, rfl, I3, O3, hc3, b3⟩; have B3 := hide (B2.out.trans (b3.mono B2.out.size)); have y1 : (hn : Int) ≤ (c3 : Int) := (by omega); clear LI B2 b3)
      | (go_at_call 8; refine (NW.out _ _ _ _ I3.out).mono ?_; rintro e w4 ⟨rfl, b4⟩; have B4 := hide (B3.out.trans (b4.mono B3.out.size)); have I4 := hide (I3.out.later b4); clear NW B3 I3 b4)
      | (go_at_call 9; refine (RW.out _ B4.out).mono ?_; rintro e w5 ⟨rfl, b5⟩; have B5 := hide (B4.out.trans (b5.mono B4.out.size)); have I5 := hide (I4.out.later b5); clear RW B4 I4 b5)
      | (go_at_call 10; refine (KI.out _ _ B5.out I5.out).mono ?_; rintro e w6 ⟨rfl, b6⟩; have B6 := B5.out.trans (b6.mono B5.out.size); clear KI B5 I5 b6))
    go_ret
    exact ⟨rfl, B6⟩
  have hokt : H.all okR = true := by simpa using hok
  have NW : Hid (∀ wx g cap cc, Q.IntsAt wx (.slice (some ⟨g, 0, none⟩) (hn + 3) cap) (lentI H 3) → Calls Try.prog 8 #[.slice (some ⟨g, 0, none⟩) hn cc] wx fun e w' => ∃ t, e = .returned (.tuple #[.pointer (some ⟨t, 0, none⟩), .int .i64 0]) ∧ Hid (TabS (fun i => wx.heap.size ≤ i) w' t (H.map Int.toNat) []) ∧ Below wx.heap.size wx w') := fun wx g cap cc h => by
    refine (new_s wx _ H (lent_front h hHn cc) (by omega) hokt).mono ?_
    rintro e w' ⟨bb, t, h1, h2⟩
    exact ⟨t, h1, h2, bb⟩
  have RW : Hid (∀ wx, Below w.heap.size w wx → Calls Try.prog 9 #[.slice ha hn hc] wx fun e w' => ∃ b hv, e = .returned (.tuple #[.pointer (some ⟨b, 0, none⟩), .int .i64 0]) ∧ wx.heap.size ≤ b ∧ Hid (RtAt wx.heap.size w' b hv (.slice none 0 0) (.slice none 0 0) H [] []) ∧ Below wx.heap.size wx w') := fun wx hx => by
    refine (rnew_any wx ha hn hc H (hI.later hx) hHn (by omega)).mono ?_
    rintro e w' ⟨h1, bb⟩
    rcases h1 with ⟨_, b, hv, h2, h3, h4⟩ | ⟨h2, _⟩
    · exact ⟨b, hv, h2, h3, h4, bb⟩
    · rw [hokt] at h2; cases h2
  have HOK := hide hokt
  have HHN : Hid (H.length ≤ 60) := by show _ ≤ _; omega
  have HE := hide hE
  have HLN := hide hLn
  have HKK := hide hkk
  have HA := hide hA
  have HAN := hide hAn
  have c60 : ((hn : Int) + 3) ≤ 63 := by omega
  clear hI hHn hE hLn hLk hA hAn hs0 hHm hLm hAm hs h60 h61 hok hkk hokt
  go_enter Try.func3, Try.ntmps3
  go_wp2_with (first
    | (go_at_call 5; refine LV.out.mono ?_; rintro e w1 ⟨rfl, b1⟩; clear LV)
    | (go_at_call 6; refine (SM.out _ b1).mono ?_; rintro e w2 ⟨rfl, b2⟩; have B2 := hide (b1.trans (b2.mono b1.size)); clear SM)
    | (go_at_call 7; refine (LI.out _ B2.out).mono ?_; rintro e w3 ⟨g3, c3, rfl, I3, O3, hc3, b3⟩; have B3 := hide (B2.out.trans (b3.mono B2.out.size)); have y1 : (hn : Int) ≤ (c3 : Int) := (by omega); have G3 : Hid (w.heap.size ≤ g3 ∧ g3 < w3.heap.size) := ⟨(by obtain ⟨xs, o⟩ := O3.out; have h7 := (o.lt g3 rfl).1; have h8 := B2.out.size; omega), (by obtain ⟨xs, o⟩ := O3.out; exact (o.lt g3 rfl).2)⟩; have O3' : Hid (∃ xs, w3.ownsRow w.heap.size 3 1 (.slice (some ⟨g3, 0, none⟩) (hn + 3) c3) (hn + 3) xs) := (by obtain ⟨xs, o⟩ := O3.out; exact ⟨xs, own_lift o B2.out.size⟩); clear LI B2 b3 O3)
    | (go_at_call 8; refine (NW.out _ _ _ _ I3.out).mono ?_; rintro e w4 ⟨t, rfl, T4, b4⟩; have B4 := hide (B3.out.trans (b4.mono B3.out.size)); have I4 := hide (I3.out.later b4); have C4 := hide b4; clear NW I3 b4)
    | (go_at_call 9; refine (RW.out _ B4.out).mono ?_; rintro e w5 ⟨b, hv, rfl, hb5, R5, b5⟩; have B5 := hide (B4.out.trans (b5.mono B4.out.size)); have I5 := hide (I4.out.later b5); have ST5 := hide (St.start B3.out C4.out b5 T4.out hb5 R5.out); have G5 : Hid (g3 < w4.heap.size ∧ w4.heap.size ≤ b ∧ ¬ (w3.heap.size ≤ g3 ∧ g3 < w4.heap.size)) := ⟨(by have h7 := G3.out.2; have h8 := C4.out.size; omega), hb5, (by have h7 := G3.out.2; omega)⟩; have O5 : Hid (∃ xs, w5.ownsRow w.heap.size 3 1 (.slice (some ⟨g3, 0, none⟩) (hn + 3) c3) (hn + 3) xs) := (by obtain ⟨xs, o⟩ := O3'.out; exact ⟨xs, own_laterV (own_laterV o C4.out) b5⟩); clear RW B4 I4 b5 T4 R5 C4 B3 O3' hb5)
    | (go_at_call 10; refine (KI.out _ _ B5.out I5.out).mono ?_; rintro e w6 ⟨rfl, b6⟩; have ST6 := hide (ST5.out.later b6); have O6 : Hid (∃ xs, w6.ownsRow w.heap.size 3 1 (.slice (some ⟨g3, 0, none⟩) (hn + 3) c3) (hn + 3) xs) := (by obtain ⟨xs, o⟩ := O5.out; exact ⟨xs, own_laterV o b6⟩); clear KI B5 I5 b6 ST5 O5))
  obtain ⟨SS, hSS⟩ : ∃ SS : Nat → Prop, SS = fun i => w3.heap.size ≤ i ∧ i < w4.heap.size := ⟨_, rfl⟩
  obtain ⟨base, hbase⟩ : ∃ base, base = w4.heap.size := ⟨_, rfl⟩
  have GG : Hid (w.heap.size ≤ g3 ∧ ¬ SS g3 ∧ g3 ≠ b ∧ g3 < base) := by
    rw [hSS, hbase]
    exact ⟨G3.out.1, G5.out.2.2, (by have h7 := G5.out; omega), G5.out.1⟩
  have ST6' : Hid (St w SS base w6 t b hv (.slice none 0 0) (.slice none 0 0) H []) := by rw [hSS, hbase]; exact ST6.out
  clear ST6 hSS hbase G3 G5 y1 hc3
  go_loopw [14] (fun i wr => ∃ j : Nat, j ≤ hn + 3 ∧ i = .int .i64 (j : Int) ∧ Hid (∃ xs, wr.ownsRow w.heap.size 3 1 (.slice (some ⟨g3, 0, none⟩) (hn + 3) c3) (hn + 3) xs) ∧ Hid (St w SS base wr t b hv (.slice none 0 0) (.slice none 0 0) H [])) (fun i _ => hn + 3 - (intOf i).toNat)
  case atStart => exact ⟨0, Nat.zero_le _, rfl, O6, ST6'⟩
  case round =>
    clear ST6' O6
    obtain ⟨j, hj, rfl, OX, SX⟩ := hrel
    by_cases hlt : j < hn + 3
    · obtain ⟨xs, o⟩ := OX.out
      have hxl : xs.length = hn + 3 := by have := o.1; omega
      have d0 := o.cellAt j (by omega)
      rw [List.getElem?_eq_getElem (by omega)] at d0
      have f0 := o.frozenAt j
      have NX : Hid (∀ u, (∃ xs, (wr.setCell ⟨g3, j, none⟩ u).ownsRow w.heap.size 3 1 (.slice (some ⟨g3, 0, none⟩) (hn + 3) c3) (hn + 3) xs) ∧ St w SS base (wr.setCell ⟨g3, j, none⟩ u) t b hv (.slice none 0 0) (.slice none 0 0) H []) := fun u => by
        obtain ⟨s1, s2⟩ := o.stored j u
        have m : Moved (· = g3) wr (wr.setCell ⟨g3, j, none⟩ u) := ⟨s2.os, s2.tape, s2.output, s2.size, fun k h1 h2 => s2.block k h1 (fun e => h2 (Option.some.inj e))⟩
        exact ⟨⟨_, s1⟩, SX.out.poke m GG.out.1 GG.out.2.1 GG.out.2.2.1 GG.out.2.2.2⟩
      generalize xs[j] = x0 at d0
      have j1 : (j : Int) < (hn : Int) + 3 := by omega
      have j0 : (0 : Int) ≤ (j : Int) := by omega
      clear OX SX o hxl
      go_wp2_with (fail)
      exact ⟨⟨j + 1, by omega, by go_num, (NX.out _).1, (NX.out _).2⟩, by simp [intOf]; omega⟩
    · have j1 : ¬ (j : Int) < (hn : Int) + 3 := by omega
      clear OX GG
      go_wp2_with (fail)
      go_loopw [15] (fun i wr => ∃ j : Nat, j ≤ ln ∧ i = .int .i64 (j : Int) ∧ Hid (∃ S lv tv l, St w S base wr t b hv lv tv H l ∧ l.length ≤ j)) (fun i _ => ln - (intOf i).toNat)
      case atStart => exact ⟨0, Nat.zero_le _, rfl, SS, _, _, [], SX.out, Nat.le_refl _⟩
      case round =>
        clear SX j1 hj hlt
        obtain ⟨j, hj, rfl, SX⟩ := hrel
        by_cases hlt : j < ln
        · obtain ⟨S, lv, tv, l, st, hl⟩ := SX.out
          have jl : j < L.length := by have := HLN.out; omega
          obtain ⟨eb, eo, rfl⟩ := HE.out.some (by omega)
          have XX : Hid (∀ wx, Below w.heap.size w wx → ∀ i (h : i < L.length), (wx.cell? ⟨eb, eo + i * 4, none⟩ = some (str L[i].key) ∧ wx.cell? ⟨eb, eo + i * 4 + 1, none⟩ = some (str L[i].value) ∧ wx.cell? ⟨eb, eo + i * 4 + 2, none⟩ = some (.int .i64 L[i].seq) ∧ wx.cell? ⟨eb, eo + i * 4 + 3, none⟩ = some (.bool L[i].del))) := fun wx hb i h => (HE.out.later hb).cells i h
          obtain ⟨xk, xv⟩ := HKK.out _ (List.getElem_mem jl)
          have bw : Below w.heap.size w wr := st.bel
          have AD : Hid (∀ wx, Below wr.heap.size wr wx → Calls Try.prog 15 #[.pointer (some ⟨t, 0, none⟩), entV L[j]] wx fun r w1 => r = .returned (.int .i64 (Mm.addE L[j] l)) ∧ Below w.heap.size w w1 ∧
              Hid (Calls Try.prog 16 #[.pointer (some ⟨b, 0, none⟩), entV L[j]] w1 fun r2 w2 => r2 = .returned (.int .i64 (Mm.addE L[j] l)) ∧ Below w.heap.size w w2 ∧ Hid (∃ S2 lv2 tv2, St w S2 base w2 t b hv lv2 tv2 H (Mm.addL (H.map Int.toNat) L[j] l)))) := fun wx hb => (st.later hb).adds HOK.out HHN.out (by omega) L[j] xk xv
          have LL : Hid ((Mm.addL (H.map Int.toNat) L[j] l).length ≤ j + 1) := by
            show _ ≤ _
            have := Mm.add_len (hs := H.map Int.toNat) (e := L[j]) (l := l)
            omega
          have CM : Hid (∀ wx, Calls Try.prog 11 #[entV L[j]] wx fun r w' => r = .returned (.int .i64 (Mm.checkE L[j])) ∧ Below wx.heap.size wx w') := fun wx => mcheck_any wx L[j] xk xv
          have CR : Hid (∀ wx, Calls Try.prog 12 #[entV L[j]] wx fun r w' => r = .returned (.int .i64 (Mm.checkE L[j])) ∧ Below wx.heap.size wx w') := fun wx => rmcheck_any wx L[j]
          have iC : (Mm.checkE L[j] != Mm.checkE L[j]) = false := by simp
          have iA : (Mm.addE L[j] l != Mm.addE L[j] l) = false := by simp
          have j1 : (j : Int) < (ln : Int) := by omega
          have j0 : (0 : Int) ≤ (j : Int) := by omega
          generalize Mm.checkE L[j] = CE at *
          generalize Mm.addE L[j] l = AE at *
          generalize Mm.addL (H.map Int.toNat) L[j] l = l2 at *
          clear SX st hl xk xv
          cases j with
          | zero =>
            have KX : Hid (∀ wx, Below w.heap.size w wx → (wx.cell? ⟨eb, eo, none⟩ = some (str L[0].key) ∧ wx.cell? ⟨eb, eo + 1, none⟩ = some (str L[0].value) ∧ wx.cell? ⟨eb, eo + 2, none⟩ = some (.int .i64 L[0].seq) ∧ wx.cell? ⟨eb, eo + 3, none⟩ = some (.bool L[0].del))) := fun wx hb => by
              have := XX.out wx hb 0 jl
              rw [Nat.zero_mul, Nat.add_zero] at this
              exact this
            generalize L[0] = X at *
            have P0 := KX.out wr.drew bw.drew
            have bd := (Below.refl wr.heap.size wr).drew
            clear XX jl
            go_wp2_with (fail)
            have j2 : (0 : Int) < (ln : Int) := by omega
            refine wp_region_held_drew (S := (fun wx => (wx.cell? ⟨eb, eo, none⟩ = some (str X.key) ∧ wx.cell? ⟨eb, eo + 1, none⟩ = some (str X.value) ∧ wx.cell? ⟨eb, eo + 2, none⟩ = some (.int .i64 X.seq) ∧ wx.cell? ⟨eb, eo + 3, none⟩ = some (.bool X.del)))) (by kernel_rfl) P0 (fun hHeld => ?_)
            refine takeH (oi := ?oiz1) 0 82 (.slice (some ⟨eb, eo, none⟩) ln lc) ?hiz1 ?hdz1 ?hwz1 ?hyz1 (by kernel_rfl) (by kernel_rfl) (by kernel_rfl) ?hQz1 (by assumption) ?_
            case hiz1 => simp only [List.getElem?_toArray, List.getElem?_cons_zero]; rfl
            case hdz1 => rfl
            case hwz1 => rfl
            case hyz1 => (intro w hSw; (try dsimp only at hSw); go_simp)
            case hQz1 => exact fun _ _ _ h => h
            simp only [Act.put, List.setIfInBounds_toArray, List.set_cons_zero, List.set_cons_succ]
            refine takeH (oi := ?oiz2) 1 83 (.int .i64 0) ?hiz2 ?hdz2 ?hwz2 ?hyz2 (by kernel_rfl) (by kernel_rfl) (by kernel_rfl) ?hQz2 (by assumption) ?_
            case hiz2 => simp only [List.getElem?_toArray, List.getElem?_cons_zero, List.getElem?_cons_succ]; rfl
            case hdz2 => rfl
            case hwz2 => rfl
            case hyz2 => (intro w hSw; (try dsimp only at hSw); go_simp)
            case hQz2 => exact fun _ _ _ h => h
            simp only [Act.put, List.setIfInBounds_toArray, List.set_cons_zero, List.set_cons_succ]
            refine takeH (oi := ?oiz3) 2 84 (.pointer (some ⟨eb, eo, none⟩)) ?hiz3 ?hdz3 ?hwz3 ?hyz3 (by kernel_rfl) (by kernel_rfl) (by kernel_rfl) ?hQz3 (by assumption) ?_
            case hiz3 => simp only [List.getElem?_toArray, List.getElem?_cons_zero, List.getElem?_cons_succ]; rfl
            case hdz3 => rfl
            case hwz3 => rfl
            case hyz3 => (intro w hSw; (try dsimp only at hSw); go_simp)
            case hQz3 => exact fun _ _ _ h => h
            simp only [Act.put, List.setIfInBounds_toArray, List.set_cons_zero, List.set_cons_succ]
            refine takeH (oi := ?oiz4) 3 85 (.agg #[str X.key, str X.value, .int .i64 X.seq, .bool X.del]) ?hiz4 ?hdz4 ?hwz4 ?hyz4 (by kernel_rfl) (by kernel_rfl) (by kernel_rfl) ?hQz4 (by assumption) ?_
            case hiz4 => simp only [List.getElem?_toArray, List.getElem?_cons_zero, List.getElem?_cons_succ]; rfl
            case hdz4 => rfl
            case hwz4 => rfl
            case hyz4 => (intro w hSw; (try dsimp only at hSw); go_simp)
            case hQz4 => exact fun _ _ _ h => h
            simp only [Act.put, List.setIfInBounds_toArray, List.set_cons_zero, List.set_cons_succ]
            refine takeH (oi := ?oiz5) 5 87 (.slice (some ⟨eb, eo, none⟩) ln lc) ?hiz5 ?hdz5 ?hwz5 ?hyz5 (by kernel_rfl) (by kernel_rfl) (by kernel_rfl) ?hQz5 (by assumption) ?_
            case hiz5 => simp only [List.getElem?_toArray, List.getElem?_cons_zero, List.getElem?_cons_succ]; rfl
            case hdz5 => rfl
            case hwz5 => rfl
            case hyz5 => (intro w hSw; (try dsimp only at hSw); go_simp)
            case hQz5 => exact fun _ _ _ h => h
            simp only [Act.put, List.setIfInBounds_toArray, List.set_cons_zero, List.set_cons_succ]
            refine takeH (oi := ?oiz6) 6 88 (.int .i64 0) ?hiz6 ?hdz6 ?hwz6 ?hyz6 (by kernel_rfl) (by kernel_rfl) (by kernel_rfl) ?hQz6 (by assumption) ?_
            case hiz6 => simp only [List.getElem?_toArray, List.getElem?_cons_zero, List.getElem?_cons_succ]; rfl
            case hdz6 => rfl
            case hwz6 => rfl
            case hyz6 => (intro w hSw; (try dsimp only at hSw); go_simp)
            case hQz6 => exact fun _ _ _ h => h
            simp only [Act.put, List.setIfInBounds_toArray, List.set_cons_zero, List.set_cons_succ]
            refine takeH (oi := ?oiz7) 7 89 (.pointer (some ⟨eb, eo, none⟩)) ?hiz7 ?hdz7 ?hwz7 ?hyz7 (by kernel_rfl) (by kernel_rfl) (by kernel_rfl) ?hQz7 (by assumption) ?_
            case hiz7 => simp only [List.getElem?_toArray, List.getElem?_cons_zero, List.getElem?_cons_succ]; rfl
            case hdz7 => rfl
            case hwz7 => rfl
            case hyz7 => (intro w hSw; (try dsimp only at hSw); go_simp)
            case hQz7 => exact fun _ _ _ h => h
            simp only [Act.put, List.setIfInBounds_toArray, List.set_cons_zero, List.set_cons_succ]
            refine takeH (oi := ?oiz8) 8 90 (.agg #[str X.key, str X.value, .int .i64 X.seq, .bool X.del]) ?hiz8 ?hdz8 ?hwz8 ?hyz8 (by kernel_rfl) (by kernel_rfl) (by kernel_rfl) ?hQz8 (by assumption) ?_
            case hiz8 => simp only [List.getElem?_toArray, List.getElem?_cons_zero, List.getElem?_cons_succ]; rfl
            case hdz8 => rfl
            case hwz8 => rfl
            case hyz8 => (intro w hSw; (try dsimp only at hSw); go_simp)
            case hQz8 => exact fun _ _ _ h => h
            simp only [Act.put, List.setIfInBounds_toArray, List.set_cons_zero, List.set_cons_succ]
            refine wpAnyH_ready (rs := [4]) (by kernel_rfl) (by simp) ?_
            refine AllReadyH.cons rfl (fun KK hK => ?_) AllReadyH.nil
            go_simp
            refine (CM.out _).mono ?_
            rintro e u1 ⟨rfl, b1⟩
            have D1 := bd.trans (b1.mono bd.size)
            have B1 := bw.trans (D1.mono bw.size)
            go_wp2_with (fail)
            refine hK.out _ _ (KX.out _ B1) (fun hHeld => ?_)
            clear hK KK
            refine wpAnyH_ready (rs := [9]) (by kernel_rfl) (by simp) ?_
            refine AllReadyH.cons rfl (fun KK hK => ?_) AllReadyH.nil
            go_simp
            refine (CR.out _).mono ?_
            rintro e u2 ⟨rfl, b2⟩
            have D2 := D1.trans (b2.mono D1.size)
            have B2 := bw.trans (D2.mono bw.size)
            go_wp2_with (fail)
            refine hK.out _ _ (KX.out _ B2) (fun hHeld => ?_)
            clear hK KK
            refine takeH (oi := ?oiz9) 10 92 (.bool false) ?hiz9 ?hdz9 ?hwz9 ?hyz9 (by kernel_rfl) (by kernel_rfl) (by kernel_rfl) ?hQz9 (by assumption) ?_
            case hiz9 => simp only [List.getElem?_toArray, List.getElem?_cons_zero, List.getElem?_cons_succ]; rfl
            case hdz9 => rfl
            case hwz9 => rfl
            case hyz9 => (intro w hSw; (try dsimp only at hSw); go_simp)
            case hQz9 => exact fun _ _ _ h => h
            simp only [Act.put, List.setIfInBounds_toArray, List.set_cons_zero, List.set_cons_succ]
            refine takeH (oi := ?oiz10) 11 93 (.bool false) ?hiz10 ?hdz10 ?hwz10 ?hyz10 (by kernel_rfl) (by kernel_rfl) (by kernel_rfl) ?hQz10 (by assumption) ?_
            case hiz10 => simp only [List.getElem?_toArray, List.getElem?_cons_zero, List.getElem?_cons_succ]; rfl
            case hdz10 => rfl
            case hwz10 => rfl
            case hyz10 => (intro w hSw; (try dsimp only at hSw); go_simp)
            case hQz10 => exact fun _ _ _ h => h
            simp only [Act.put, List.setIfInBounds_toArray, List.set_cons_zero, List.set_cons_succ]
            refine takeH (oi := ?oiz11) 12 94 (.int .i64 0) ?hiz11 ?hdz11 ?hwz11 ?hyz11 (by kernel_rfl) (by kernel_rfl) (by kernel_rfl) ?hQz11 (by assumption) ?_
            case hiz11 => simp only [List.getElem?_toArray, List.getElem?_cons_zero, List.getElem?_cons_succ]; rfl
            case hdz11 => rfl
            case hwz11 => rfl
            case hyz11 => (intro w hSw; (try dsimp only at hSw); go_simp)
            case hQz11 => exact fun _ _ _ h => h
            simp only [Act.put, List.setIfInBounds_toArray, List.set_cons_zero, List.set_cons_succ]
            refine takeH (oi := ?oiz12) 13 95 (.bool false) ?hiz12 ?hdz12 ?hwz12 ?hyz12 (by kernel_rfl) (by kernel_rfl) (by kernel_rfl) ?hQz12 (by assumption) ?_
            case hiz12 => simp only [List.getElem?_toArray, List.getElem?_cons_zero, List.getElem?_cons_succ]; rfl
            case hdz12 => rfl
            case hwz12 => rfl
            case hyz12 => (intro w hSw; (try dsimp only at hSw); go_simp)
            case hQz12 => exact fun _ _ _ h => h
            simp only [Act.put, List.setIfInBounds_toArray, List.set_cons_zero, List.set_cons_succ]
            refine takeH (oi := ?oiz13) 14 96 (.bool false) ?hiz13 ?hdz13 ?hwz13 ?hyz13 (by kernel_rfl) (by kernel_rfl) (by kernel_rfl) ?hQz13 (by assumption) ?_
            case hiz13 => simp only [List.getElem?_toArray, List.getElem?_cons_zero, List.getElem?_cons_succ]; rfl
            case hdz13 => rfl
            case hwz13 => rfl
            case hyz13 => (intro w hSw; (try dsimp only at hSw); go_simp)
            case hQz13 => exact fun _ _ _ h => h
            simp only [Act.put, List.setIfInBounds_toArray, List.set_cons_zero, List.set_cons_succ]
            refine skipH 15 97 ⟨_, rfl, rfl, by rfl⟩ (by kernel_rfl) (by kernel_rfl) (by kernel_rfl) (fun _ _ _ h => h) (by assumption) ?_
            simp only [Act.put, List.setIfInBounds_toArray, List.set_cons_zero, List.set_cons_succ]
            refine skipH 16 98 ⟨_, rfl, rfl, by rfl⟩ (by kernel_rfl) (by kernel_rfl) (by kernel_rfl) (fun _ _ _ h => h) (by assumption) ?_
            simp only [Act.put, List.setIfInBounds_toArray, List.set_cons_zero, List.set_cons_succ]
            refine skipH 17 99 ⟨_, rfl, rfl, by rfl⟩ (by kernel_rfl) (by kernel_rfl) (by kernel_rfl) (fun _ _ _ h => h) (by assumption) ?_
            simp only [Act.put, List.setIfInBounds_toArray, List.set_cons_zero, List.set_cons_succ]
            refine skipH 18 100 ⟨_, rfl, rfl, by rfl⟩ (by kernel_rfl) (by kernel_rfl) (by kernel_rfl) (fun _ _ _ h => h) (by assumption) ?_
            simp only [Act.put, List.setIfInBounds_toArray, List.set_cons_zero, List.set_cons_succ]
            refine skipH 19 101 ⟨_, rfl, rfl, by rfl⟩ (by kernel_rfl) (by kernel_rfl) (by kernel_rfl) (fun _ _ _ h => h) (by assumption) ?_
            simp only [Act.put, List.setIfInBounds_toArray, List.set_cons_zero, List.set_cons_succ]
            refine skipH 20 102 ⟨_, rfl, rfl, by rfl⟩ (by kernel_rfl) (by kernel_rfl) (by kernel_rfl) (fun _ _ _ h => h) (by assumption) ?_
            simp only [Act.put, List.setIfInBounds_toArray, List.set_cons_zero, List.set_cons_succ]
            refine skipH 21 103 ⟨_, rfl, rfl, by rfl⟩ (by kernel_rfl) (by kernel_rfl) (by kernel_rfl) (fun _ _ _ h => h) (by assumption) ?_
            simp only [Act.put, List.setIfInBounds_toArray, List.set_cons_zero, List.set_cons_succ]
            refine skipH 22 104 ⟨_, rfl, rfl, by rfl⟩ (by kernel_rfl) (by kernel_rfl) (by kernel_rfl) (fun _ _ _ h => h) (by assumption) ?_
            simp only [Act.put, List.setIfInBounds_toArray, List.set_cons_zero, List.set_cons_succ]
            refine skipH 23 105 ⟨_, rfl, rfl, by rfl⟩ (by kernel_rfl) (by kernel_rfl) (by kernel_rfl) (fun _ _ _ h => h) (by assumption) ?_
            simp only [Act.put, List.setIfInBounds_toArray, List.set_cons_zero, List.set_cons_succ]
            refine skipH 24 106 ⟨_, rfl, rfl, by rfl⟩ (by kernel_rfl) (by kernel_rfl) (by kernel_rfl) (fun _ _ _ h => h) (by assumption) ?_
            simp only [Act.put, List.setIfInBounds_toArray, List.set_cons_zero, List.set_cons_succ]
            refine skipH 25 107 ⟨_, rfl, rfl, by rfl⟩ (by kernel_rfl) (by kernel_rfl) (by kernel_rfl) (fun _ _ _ h => h) (by assumption) ?_
            simp only [Act.put, List.setIfInBounds_toArray, List.set_cons_zero, List.set_cons_succ]
            refine skipH 26 108 ⟨_, rfl, rfl, by rfl⟩ (by kernel_rfl) (by kernel_rfl) (by kernel_rfl) (fun _ _ _ h => h) (by assumption) ?_
            simp only [Act.put, List.setIfInBounds_toArray, List.set_cons_zero, List.set_cons_succ]
            refine skipH 27 109 ⟨_, rfl, rfl, by rfl⟩ (by kernel_rfl) (by kernel_rfl) (by kernel_rfl) (fun _ _ _ h => h) (by assumption) ?_
            simp only [Act.put, List.setIfInBounds_toArray, List.set_cons_zero, List.set_cons_succ]
            refine skipH 28 110 ⟨_, rfl, rfl, by rfl⟩ (by kernel_rfl) (by kernel_rfl) (by kernel_rfl) (fun _ _ _ h => h) (by assumption) ?_
            simp only [Act.put, List.setIfInBounds_toArray, List.set_cons_zero, List.set_cons_succ]
            refine skipH 29 111 ⟨_, rfl, rfl, by rfl⟩ (by kernel_rfl) (by kernel_rfl) (by kernel_rfl) (fun _ _ _ h => h) (by assumption) ?_
            simp only [Act.put, List.setIfInBounds_toArray, List.set_cons_zero, List.set_cons_succ]
            refine skipH 30 112 ⟨_, rfl, rfl, by rfl⟩ (by kernel_rfl) (by kernel_rfl) (by kernel_rfl) (fun _ _ _ h => h) (by assumption) ?_
            simp only [Act.put, List.setIfInBounds_toArray, List.set_cons_zero, List.set_cons_succ]
            refine skipH 31 113 ⟨_, rfl, rfl, by rfl⟩ (by kernel_rfl) (by kernel_rfl) (by kernel_rfl) (fun _ _ _ h => h) (by assumption) ?_
            simp only [Act.put, List.setIfInBounds_toArray, List.set_cons_zero, List.set_cons_succ]
            refine skipH 32 114 ⟨_, rfl, rfl, by rfl⟩ (by kernel_rfl) (by kernel_rfl) (by kernel_rfl) (fun _ _ _ h => h) (by assumption) ?_
            simp only [Act.put, List.setIfInBounds_toArray, List.set_cons_zero, List.set_cons_succ]
            refine skipH 33 115 ⟨_, rfl, rfl, by rfl⟩ (by kernel_rfl) (by kernel_rfl) (by kernel_rfl) (fun _ _ _ h => h) (by assumption) ?_
            simp only [Act.put, List.setIfInBounds_toArray, List.set_cons_zero, List.set_cons_succ]
            refine skipH 34 116 ⟨_, rfl, rfl, by rfl⟩ (by kernel_rfl) (by kernel_rfl) (by kernel_rfl) (fun _ _ _ h => h) (by assumption) ?_
            simp only [Act.put, List.setIfInBounds_toArray, List.set_cons_zero, List.set_cons_succ]
            refine skipH 35 117 ⟨_, rfl, rfl, by rfl⟩ (by kernel_rfl) (by kernel_rfl) (by kernel_rfl) (fun _ _ _ h => h) (by assumption) ?_
            simp only [Act.put, List.setIfInBounds_toArray, List.set_cons_zero, List.set_cons_succ]
            refine takeH (oi := ?oiz14) 36 118 (.bool false) ?hiz14 ?hdz14 ?hwz14 ?hyz14 (by kernel_rfl) (by kernel_rfl) (by kernel_rfl) ?hQz14 (by assumption) ?_
            case hiz14 => simp only [List.getElem?_toArray, List.getElem?_cons_zero, List.getElem?_cons_succ]; rfl
            case hdz14 => rfl
            case hwz14 => rfl
            case hyz14 => (intro w hSw; (try dsimp only at hSw); go_simp)
            case hQz14 => exact fun _ _ _ h => h
            simp only [Act.put, List.setIfInBounds_toArray, List.set_cons_zero, List.set_cons_succ]
            refine takeH (oi := ?oiz15) 37 119 (.bool false) ?hiz15 ?hdz15 ?hwz15 ?hyz15 (by kernel_rfl) (by kernel_rfl) (by kernel_rfl) ?hQz15 (by assumption) ?_
            case hiz15 => simp only [List.getElem?_toArray, List.getElem?_cons_zero, List.getElem?_cons_succ]; rfl
            case hdz15 => rfl
            case hwz15 => rfl
            case hyz15 => (intro w hSw; (try dsimp only at hSw); go_simp)
            case hQz15 => exact fun _ _ _ h => h
            simp only [Act.put, List.setIfInBounds_toArray, List.set_cons_zero, List.set_cons_succ]
            refine takeH (oi := ?oiz16) 38 120 (.bool false) ?hiz16 ?hdz16 ?hwz16 ?hyz16 (by kernel_rfl) (by kernel_rfl) (by kernel_rfl) ?hQz16 (by assumption) ?_
            case hiz16 => simp only [List.getElem?_toArray, List.getElem?_cons_zero, List.getElem?_cons_succ]; rfl
            case hdz16 => rfl
            case hwz16 => rfl
            case hyz16 => (intro w hSw; (try dsimp only at hSw); go_simp)
            case hQz16 => exact fun _ _ _ h => h
            simp only [Act.put, List.setIfInBounds_toArray, List.set_cons_zero, List.set_cons_succ]
            refine takeH (oi := ?oiz17) 39 121 (.pointer (some ⟨t, 0, none⟩)) ?hiz17 ?hdz17 ?hwz17 ?hyz17 (by kernel_rfl) (by kernel_rfl) (by kernel_rfl) ?hQz17 (by assumption) ?_
            case hiz17 => simp only [List.getElem?_toArray, List.getElem?_cons_zero, List.getElem?_cons_succ]; rfl
            case hdz17 => rfl
            case hwz17 => rfl
            case hyz17 => (intro w hSw; (try dsimp only at hSw); go_simp)
            case hQz17 => exact fun _ _ _ h => h
            simp only [Act.put, List.setIfInBounds_toArray, List.set_cons_zero, List.set_cons_succ]
            refine takeH (oi := ?oiz18) 40 122 (.slice (some ⟨eb, eo, none⟩) ln lc) ?hiz18 ?hdz18 ?hwz18 ?hyz18 (by kernel_rfl) (by kernel_rfl) (by kernel_rfl) ?hQz18 (by assumption) ?_
            case hiz18 => simp only [List.getElem?_toArray, List.getElem?_cons_zero, List.getElem?_cons_succ]; rfl
            case hdz18 => rfl
            case hwz18 => rfl
            case hyz18 => (intro w hSw; (try dsimp only at hSw); go_simp)
            case hQz18 => exact fun _ _ _ h => h
            simp only [Act.put, List.setIfInBounds_toArray, List.set_cons_zero, List.set_cons_succ]
            refine takeH (oi := ?oiz19) 41 123 (.int .i64 0) ?hiz19 ?hdz19 ?hwz19 ?hyz19 (by kernel_rfl) (by kernel_rfl) (by kernel_rfl) ?hQz19 (by assumption) ?_
            case hiz19 => simp only [List.getElem?_toArray, List.getElem?_cons_zero, List.getElem?_cons_succ]; rfl
            case hdz19 => rfl
            case hwz19 => rfl
            case hyz19 => (intro w hSw; (try dsimp only at hSw); go_simp)
            case hQz19 => exact fun _ _ _ h => h
            simp only [Act.put, List.setIfInBounds_toArray, List.set_cons_zero, List.set_cons_succ]
            refine takeH (oi := ?oiz20) 42 124 (.pointer (some ⟨eb, eo, none⟩)) ?hiz20 ?hdz20 ?hwz20 ?hyz20 (by kernel_rfl) (by kernel_rfl) (by kernel_rfl) ?hQz20 (by assumption) ?_
            case hiz20 => simp only [List.getElem?_toArray, List.getElem?_cons_zero, List.getElem?_cons_succ]; rfl
            case hdz20 => rfl
            case hwz20 => rfl
            case hyz20 => (intro w hSw; (try dsimp only at hSw); go_simp)
            case hQz20 => exact fun _ _ _ h => h
            simp only [Act.put, List.setIfInBounds_toArray, List.set_cons_zero, List.set_cons_succ]
            refine takeH (oi := ?oiz21) 43 125 (.agg #[str X.key, str X.value, .int .i64 X.seq, .bool X.del]) ?hiz21 ?hdz21 ?hwz21 ?hyz21 (by kernel_rfl) (by kernel_rfl) (by kernel_rfl) ?hQz21 (by assumption) ?_
            case hiz21 => simp only [List.getElem?_toArray, List.getElem?_cons_zero, List.getElem?_cons_succ]; rfl
            case hdz21 => rfl
            case hwz21 => rfl
            case hyz21 => (intro w hSw; (try dsimp only at hSw); go_simp)
            case hQz21 => exact fun _ _ _ h => h
            simp only [Act.put, List.setIfInBounds_toArray, List.set_cons_zero, List.set_cons_succ]
            refine takeH (oi := ?oiz22) 45 127 (.pointer (some ⟨b, 0, none⟩)) ?hiz22 ?hdz22 ?hwz22 ?hyz22 (by kernel_rfl) (by kernel_rfl) (by kernel_rfl) ?hQz22 (by assumption) ?_
            case hiz22 => simp only [List.getElem?_toArray, List.getElem?_cons_zero, List.getElem?_cons_succ]; rfl
            case hdz22 => rfl
            case hwz22 => rfl
            case hyz22 => (intro w hSw; (try dsimp only at hSw); go_simp)
            case hQz22 => exact fun _ _ _ h => h
            simp only [Act.put, List.setIfInBounds_toArray, List.set_cons_zero, List.set_cons_succ]
            refine takeH (oi := ?oiz23) 46 128 (.slice (some ⟨eb, eo, none⟩) ln lc) ?hiz23 ?hdz23 ?hwz23 ?hyz23 (by kernel_rfl) (by kernel_rfl) (by kernel_rfl) ?hQz23 (by assumption) ?_
            case hiz23 => simp only [List.getElem?_toArray, List.getElem?_cons_zero, List.getElem?_cons_succ]; rfl
            case hdz23 => rfl
            case hwz23 => rfl
            case hyz23 => (intro w hSw; (try dsimp only at hSw); go_simp)
            case hQz23 => exact fun _ _ _ h => h
            simp only [Act.put, List.setIfInBounds_toArray, List.set_cons_zero, List.set_cons_succ]
            refine takeH (oi := ?oiz24) 47 129 (.int .i64 0) ?hiz24 ?hdz24 ?hwz24 ?hyz24 (by kernel_rfl) (by kernel_rfl) (by kernel_rfl) ?hQz24 (by assumption) ?_
            case hiz24 => simp only [List.getElem?_toArray, List.getElem?_cons_zero, List.getElem?_cons_succ]; rfl
            case hdz24 => rfl
            case hwz24 => rfl
            case hyz24 => (intro w hSw; (try dsimp only at hSw); go_simp)
            case hQz24 => exact fun _ _ _ h => h
            simp only [Act.put, List.setIfInBounds_toArray, List.set_cons_zero, List.set_cons_succ]
            refine takeH (oi := ?oiz25) 48 130 (.pointer (some ⟨eb, eo, none⟩)) ?hiz25 ?hdz25 ?hwz25 ?hyz25 (by kernel_rfl) (by kernel_rfl) (by kernel_rfl) ?hQz25 (by assumption) ?_
            case hiz25 => simp only [List.getElem?_toArray, List.getElem?_cons_zero, List.getElem?_cons_succ]; rfl
            case hdz25 => rfl
            case hwz25 => rfl
            case hyz25 => (intro w hSw; (try dsimp only at hSw); go_simp)
            case hQz25 => exact fun _ _ _ h => h
            simp only [Act.put, List.setIfInBounds_toArray, List.set_cons_zero, List.set_cons_succ]
            refine takeH (oi := ?oiz26) 49 131 (.agg #[str X.key, str X.value, .int .i64 X.seq, .bool X.del]) ?hiz26 ?hdz26 ?hwz26 ?hyz26 (by kernel_rfl) (by kernel_rfl) (by kernel_rfl) ?hQz26 (by assumption) ?_
            case hiz26 => simp only [List.getElem?_toArray, List.getElem?_cons_zero, List.getElem?_cons_succ]; rfl
            case hdz26 => rfl
            case hwz26 => rfl
            case hyz26 => (intro w hSw; (try dsimp only at hSw); go_simp)
            case hQz26 => exact fun _ _ _ h => h
            simp only [Act.put, List.setIfInBounds_toArray, List.set_cons_zero, List.set_cons_succ]
            refine wpAnyH_ready (rs := [44]) (by kernel_rfl) (by simp) ?_
            refine AllReadyH.cons rfl (fun KK hK => ?_) AllReadyH.nil
            go_simp
            refine (AD.out _ D2).mono ?_
            rintro e u3 ⟨rfl, B3, RA⟩
            go_wp2_with (fail)
            refine hK.out _ _ (KX.out _ B3) (fun hHeld => ?_)
            clear hK KK
            refine wpAnyH_ready (rs := [50]) (by kernel_rfl) (by simp) ?_
            refine AllReadyH.cons rfl (fun KK hK => ?_) AllReadyH.nil
            go_simp
            refine RA.out.mono ?_
            rintro e u4 ⟨rfl, B4, ST⟩
            go_wp2_with (fail)
            refine hK.out _ _ (KX.out _ B4) (fun hHeld => ?_)
            clear hK KK
            refine takeH (oi := ?oiz27) 51 133 (.bool false) ?hiz27 ?hdz27 ?hwz27 ?hyz27 (by kernel_rfl) (by kernel_rfl) (by kernel_rfl) ?hQz27 (by assumption) ?_
            case hiz27 => simp only [List.getElem?_toArray, List.getElem?_cons_zero, List.getElem?_cons_succ]; rfl
            case hdz27 => rfl
            case hwz27 => rfl
            case hyz27 => (intro w hSw; (try dsimp only at hSw); go_simp)
            case hQz27 => exact fun _ _ _ h => h
            simp only [Act.put, List.setIfInBounds_toArray, List.set_cons_zero, List.set_cons_succ]
            refine takeH (oi := ?oiz28) 52 134 (.bool false) ?hiz28 ?hdz28 ?hwz28 ?hyz28 (by kernel_rfl) (by kernel_rfl) (by kernel_rfl) ?hQz28 (by assumption) ?_
            case hiz28 => simp only [List.getElem?_toArray, List.getElem?_cons_zero, List.getElem?_cons_succ]; rfl
            case hdz28 => rfl
            case hwz28 => rfl
            case hyz28 => (intro w hSw; (try dsimp only at hSw); go_simp)
            case hQz28 => exact fun _ _ _ h => h
            simp only [Act.put, List.setIfInBounds_toArray, List.set_cons_zero, List.set_cons_succ]
            refine wpAnyH_done (by kernel_rfl) ?_ _
            go_wp2_with (fail)
            refine ⟨⟨0 + 1, by omega, by go_num, ?_⟩, by simp [intOf]; omega⟩
            obtain ⟨S2, lv2, tv2, st2⟩ := ST.out
            exact ⟨S2, lv2, tv2, l2, st2, LL.out⟩
          | succ k =>
            have kl : k < L.length := by omega
            have KX : Hid (∀ wx, Below w.heap.size w wx → (wx.cell? ⟨eb, eo + (k + 1) * 4, none⟩ = some (str L[k + 1].key) ∧ wx.cell? ⟨eb, eo + (k + 1) * 4 + 1, none⟩ = some (str L[k + 1].value) ∧ wx.cell? ⟨eb, eo + (k + 1) * 4 + 2, none⟩ = some (.int .i64 L[k + 1].seq) ∧ wx.cell? ⟨eb, eo + (k + 1) * 4 + 3, none⟩ = some (.bool L[k + 1].del)) ∧ (wx.cell? ⟨eb, eo + k * 4, none⟩ = some (str L[k].key) ∧ wx.cell? ⟨eb, eo + k * 4 + 1, none⟩ = some (str L[k].value) ∧ wx.cell? ⟨eb, eo + k * 4 + 2, none⟩ = some (.int .i64 L[k].seq) ∧ wx.cell? ⟨eb, eo + k * 4 + 3, none⟩ = some (.bool L[k].del))) := fun wx hb => ⟨XX.out wx hb (k + 1) jl, XX.out wx hb k kl⟩
            have A1 : Hid (∀ wx, Calls Try.prog 13 #[entV L[k], entV L[k + 1]] wx fun e w' => e = .returned (.bool (Mm.ahead L[k] L[k + 1])) ∧ Below wx.heap.size wx w') := fun wx => ahead_any wx _ _
            have A2 : Hid (∀ wx, Calls Try.prog 14 #[entV L[k], entV L[k + 1]] wx fun e w' => e = .returned (.bool (Mm.ahead L[k] L[k + 1])) ∧ Below wx.heap.size wx w') := fun wx => rahead_any wx _ _
            have iB : (Mm.ahead L[k] L[k + 1] != Mm.ahead L[k] L[k + 1]) = false := by simp
            generalize Mm.ahead L[k] L[k + 1] = AB at *
            generalize L[k + 1] = X at *
            generalize L[k] = Y at *
            have em : ((k + 1 : Nat) : Int) = (k : Int) + 1 := by omega
            rw [em] at j1 j0
            rw [em]
            have z1 : (k : Int) + 1 > 0 := by omega
            have z2 : IntKind.i64.wrap ((k : Int) + 1 - 1) = (k : Int) := by rw [IntKind.wrap_i64]; omega
            have z3 : IntKind.i64.wrap (k : Int) = (k : Int) := by rw [IntKind.wrap_i64]; omega
            have z4 : (k : Int) < (ln : Int) := by omega
            have z5 : (0 : Int) ≤ (k : Int) := by omega
            have P0 := KX.out wr.drew bw.drew
            have bd := (Below.refl wr.heap.size wr).drew
            clear XX jl kl em
            go_wp2_with (fail)
            go_region_held3 (fun wx => (wx.cell? ⟨eb, eo + (k + 1) * 4, none⟩ = some (str X.key) ∧ wx.cell? ⟨eb, eo + (k + 1) * 4 + 1, none⟩ = some (str X.value) ∧ wx.cell? ⟨eb, eo + (k + 1) * 4 + 2, none⟩ = some (.int .i64 X.seq) ∧ wx.cell? ⟨eb, eo + (k + 1) * 4 + 3, none⟩ = some (.bool X.del)) ∧ (wx.cell? ⟨eb, eo + k * 4, none⟩ = some (str Y.key) ∧ wx.cell? ⟨eb, eo + k * 4 + 1, none⟩ = some (str Y.value) ∧ wx.cell? ⟨eb, eo + k * 4 + 2, none⟩ = some (.int .i64 Y.seq) ∧ wx.cell? ⟨eb, eo + k * 4 + 3, none⟩ = some (.bool Y.del)))
              (first | exact P0 | exact P1 | exact P2 | exact P3 | exact P4 | exact P5 | exact P6)
              (first
                | (go_at_call 11; refine (CM.out _).mono ?_; rintro e u1 ⟨rfl, b1⟩; have D1 := bd.trans (b1.mono bd.size); have B1 := bw.trans (D1.mono bw.size); have P1 := KX.out _ B1; clear CM)
                | (go_at_call 12; refine (CR.out _).mono ?_; rintro e u2 ⟨rfl, b2⟩; have D2 := D1.trans (b2.mono D1.size); have B2 := bw.trans (D2.mono bw.size); have P2 := KX.out _ B2; clear CR)
                | (go_at_call 13; refine (A1.out _).mono ?_; rintro e u3 ⟨rfl, b3⟩; have D3 := D2.trans (b3.mono D2.size); have B3 := bw.trans (D3.mono bw.size); have P3 := KX.out _ B3; clear A1)
                | (go_at_call 14; refine (A2.out _).mono ?_; rintro e u4 ⟨rfl, b4⟩; have D4 := D3.trans (b4.mono D3.size); have B4 := bw.trans (D4.mono bw.size); have P4 := KX.out _ B4; clear A2)
                | (go_at_call 15; refine (AD.out _ D4).mono ?_; rintro e u5 ⟨rfl, B5, RA⟩; have P5 := KX.out _ B5; clear AD)
                | (go_at_call 16; refine RA.out.mono ?_; rintro e u6 ⟨rfl, B6, ST⟩; have P6 := KX.out _ B6; clear RA))
            go_wp2_with (fail)
            refine ⟨⟨k + 1 + 1, by omega, by go_num, ?_⟩, by simp [intOf]; omega⟩
            obtain ⟨S2, lv2, tv2, st2⟩ := ST.out
            exact ⟨S2, lv2, tv2, l2, st2, LL.out⟩
        · obtain ⟨S, lv, tv, l, st, hl⟩ := SX.out
          have j1 : ¬ (j : Int) < (ln : Int) := by omega
          obtain ⟨N, hN⟩ : ∃ N, N = l.length := ⟨_, rfl⟩
          have hN60 : N ≤ 60 := by rw [hN]; exact st.sm.few
          obtain ⟨pa, pc, el⟩ := row_shape st.sm.ref.ll
          rw [esL_len, ← hN] at el
          have SAME : Hid (∀ wx, Sm S base wx t b hv lv tv H l → Below w.heap.size w wx → Calls Try.prog 17 #[.pointer (some ⟨t, 0, none⟩), .pointer (some ⟨b, 0, none⟩), .slice aa an ac] wx fun e w' => e = .returned (.bool true) ∧ Below wx.heap.size wx w') := fun wx h hb => same_any h aa an ac A (HA.out.later hb) HAN.out han60
          have KL : Hid (∀ wx, Below wr.heap.size wr wx → wx.cell? ⟨b, 2, none⟩ = some (.slice pa N pc)) := fun wx hb => by
            rw [← el]
            exact (st.sm.ref.later hb).cell.2.2.1
          obtain ⟨P, hP⟩ : ∃ P, P = pickN stop (N + 1) := ⟨_, rfl⟩
          have hPN : P ≤ N := by have := pickN_lt stop (n := N + 1) (by omega); omega
          have PK : Hid (∀ wx, Calls Try.prog 18 #[.int .i64 stop, .int .i64 ((N : Int) + 1)] wx fun e w' => e = .returned (.int .i64 (P : Int)) ∧ w' = wx) := fun wx => by
            have := pick_is wx stop (N + 1) (by omega) (by omega) hs1 hs2
            rw [show ((N + 1 : Nat) : Int) = (N : Int) + 1 by omega] at this
            rw [hP]
            exact this
          obtain ⟨TL, hTL⟩ : ∃ TL, TL = Mm.told 1073741824 (Mm.spanL [] [] (esL l)) := ⟨_, rfl⟩
          obtain ⟨TN, hTN⟩ : ∃ TN, TN = TL.length := ⟨_, rfl⟩
          have hT60 : TN ≤ 60 := by
            rw [hTN, hTL]
            have h1 := Mm.told_len 1073741824 (Mm.spanL [] [] (esL l))
            have h2 : (Mm.spanL [] [] (esL l)).length ≤ (esL l).length := List.length_filter_le _ _
            rw [esL_len] at h2
            omega
          have hTk : ∀ x ∈ TL, x.key.length ≤ 1000000 := fun x hx => by
            rw [hTL] at hx
            have h1 := ((Mm.told_ok 1073741824 (Mm.spanL [] [] (esL l)) (List.Pairwise.sublist List.filter_sublist (up_es st.sm.tab.sorted))).mem x hx).1
            obtain ⟨y, hy, rfl⟩ := List.mem_map.1 (List.mem_filter.1 h1).1
            exact (may_facts (st.sm.ok y hy)).2.1
          have SC : Hid (∀ wx, Below wr.heap.size wr wx → Calls Try.prog 19 #[.pointer (some ⟨t, 0, none⟩), .agg #[str [], str []], .int .i64 1073741824] wx fun r w' => ∃ a c, r = .returned (.slice a TN c) ∧ Hid (w'.ownsRow wx.heap.size 38 4 (.slice a TN c) TN (Q.ecs TL)) ∧ Below wx.heap.size wx w') := fun wx hb => by
            obtain ⟨hv', hd', ns', T', hl', hS'⟩ := st.sm.tab.later hb
            have hlen : ns'.length ≤ 100000 := by have := st.sm.few; rw [← hl', List.length_map] at this; omega
            refine (scan_any wx t hv' _ hd' ns' T' hlen [] [] 1073741824).mono ?_
            rintro e w' ⟨v, rfl, o', bb⟩
            rw [hl', span_is l st.sm.tab.sorted (fun x hx => (may_facts (st.sm.ok x hx)).1), ← hTL, ← hTN] at o'
            obtain ⟨va, ca, rfl⟩ := row_shape o'
            exact ⟨va, ca, rfl, o', bb⟩
          have AL : Hid (∀ wx, Below wr.heap.size wr wx → Calls Try.prog 21 #[.pointer (some ⟨t, 0, none⟩), .int .i64 (P : Int)] wx fun r w' => ∃ v, r = .returned v ∧ Hid (EntsAt w' v ((esL l).take P)) ∧ Below wx.heap.size wx w') := fun wx hb => by
            refine (list_s (st.sm.tab.later hb) (by omega) P (by omega)).mono ?_
            rintro e w' ⟨v, rfl, o, bb⟩
            exact ⟨v, rfl, EntsAt.own o, bb⟩
          have RA : Hid (∀ wx, Below wr.heap.size wr wx → Calls Try.prog 22 #[.pointer (some ⟨b, 0, none⟩)] wx fun r w' => ∃ g c, r = .returned (.slice (some ⟨g, 0, none⟩) N c) ∧ Hid (EntsAt w' (.slice (some ⟨g, 0, none⟩) P c) ((esL l).take P)) ∧ N ≤ c ∧ Below wx.heap.size wx w') := fun wx hb => by
            refine (rall_any (st.sm.ref.later hb) (by rw [esL_len]; omega)).mono ?_
            rintro e w' ⟨g, cap, rfl, o, bb⟩
            have hc : N ≤ cap := by
              rcases o.2 with ⟨e, _⟩ | ⟨g', cap', cur, e, _, _, h3, _⟩
              · cases e
              · simp only [Value.slice.injEq] at e
                rw [esL_len] at h3
                omega
            have he := EntsAt.own (l := esL l) o
            refine ⟨g, cap, by rw [esL_len, ← hN], ents_takeP he (by rw [esL_len]; omega) cap, hc, bb⟩
          have SE : Hid (∀ wx u u2, EntsAt wx u ((esL l).take P) → EntsAt wx u2 ((esL l).take P) → Calls Try.prog 20 #[u, u2] wx fun e w' => e = .returned (.bool true) ∧ Below wx.heap.size wx w') := fun wx u u2 h1 h2 => samee_any wx u u2 _ h1 h2 (by rw [List.length_take]; omega)
          have SX0 := hide st
          have HTN := hide hTN
          have HTK := hide hTk
          have wN : IntKind.i64.wrap ((N : Int) + 1) = (N : Int) + 1 := by rw [IntKind.wrap_i64]; omega
          have p0 : (0 : Int) ≤ (P : Int) := by omega
          clear SX st hl el hN hP hTL hTN hTk HE HLN HKK HA HAN HOK HHN
          go_wp2_with (first
            | (go_at_call 17; have ta := SX0.out; refine (SAME.out wr SX0.out.sm SX0.out.bel).mono ?_; rintro e w1 ⟨rfl, b1⟩; have c2 := KL.out w1 b1; have ST1 := hide (SX0.out.later b1); have E1 := hide b1; clear SX0 ta b1 KL)
            | (go_at_call 18; refine (PK.out _).mono ?_; rintro e u1 ⟨rfl, rfl⟩; have T1 : Hid True := trivial; clear PK)
            | (go_at_call 19; have ta := T1.out; refine (SC.out _ E1.out).mono ?_; rintro e w2 ⟨a2, c2', rfl, O2, b2⟩; have E2 := hide (E1.out.trans (b2.mono E1.out.size)); have F2 := hide b2; have L2 : Hid (∀ g, (Value.slice a2 TN c2').ownBlock = some g → g < w2.heap.size) := (fun g e => (O2.out.lt g e).2); have T2 : Hid True := trivial; clear T1 ta b2 c2)
            | (go_at_call 19; have ta := T2.out; refine (SC.out _ E2.out).mono ?_; rintro e w3 ⟨a3, c3', rfl, O3, b3⟩; have E3 := hide (E2.out.trans (b3.mono E2.out.size)); have F3 := hide (F2.out.trans (b3.mono F2.out.size)); have O2' := hide (own_laterV O2.out b3); clear T2 ta b3 SC F2 E2 O2)
            | (go_at_call 21; refine (AL.out _ E3.out).mono ?_; rintro e w4 ⟨v4, rfl, I4, b4⟩; have E4 := hide (E3.out.trans (b4.mono E3.out.size)); have F4 := hide (F3.out.trans (b4.mono F3.out.size)); have O24 := hide (own_laterV O2'.out b4); have O34 := hide (own_laterV O3.out b4); clear b4 AL E3 F3 O2' O3)
            | (go_at_call 22; refine (RA.out _ E4.out).mono ?_; rintro e w5 ⟨g5, c5, rfl, I5, hc5, b5⟩; have F5 := hide (F4.out.trans (b5.mono F4.out.size)); have O25 := hide (own_laterV O24.out b5); have O35 := hide (own_laterV O34.out b5); have I45 := hide (I4.out.later b5); have p1 : (P : Int) ≤ (c5 : Int) := (by omega); clear b5 RA E4 F4 O24 O34 I4)
            | (go_at_call 20; refine (SE.out _ _ _ I45.out I5.out).mono ?_; rintro e w6 ⟨rfl, b6⟩; have F6 := hide (F5.out.trans (b6.mono F5.out.size)); have O26 := hide (own_laterV O25.out b6); have O36 := hide (own_laterV O35.out b6); have AP := hide (apart_two w6 _ _ a2 a3 c2' c3' TN TL HTN.out hT60 HTK.out O26.out O36.out L2.out F6.out.size); clear b6 SE F5 O25 O35 I45 I5 O26 O36 L2)
            | (go_at_call 23; refine AP.out.mono ?_; rintro e w7 ⟨rfl, b7⟩; have F7 : Hid (Below u1.heap.size u1 w7) := (F6.out.alloc F6.out.size _).trans b7; have ST7 := hide (ST1.out.later F7.out); clear AP F6 b7 F7 ST1)
            | (go_at_call 17; have ta := ST7.out; refine (SAME.out w7 ST7.out.sm ST7.out.bel).mono ?_; rintro e w8 ⟨rfl, b8⟩; have B8 := ST7.out.bel.trans (b8.mono ST7.out.bel.size); clear ST7 ta b8))
          go_ret
          exact ⟨rfl, B8⟩
end Go.Proofs.Ytbdgdigpnfpnhaa.Q.P
