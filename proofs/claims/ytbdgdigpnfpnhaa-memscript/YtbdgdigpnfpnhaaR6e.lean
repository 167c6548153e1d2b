/-
  The document's memtable: Add, with heights. (Written by wip/gen/add6.py.)
-/
import Derived.Test.YtbdgdigpnfpnhaaKO
namespace Go.Proofs.Ytbdgdigpnfpnhaa.Q
open Go.RowKit

set_option maxRecDepth 100000 in
set_option maxHeartbeats 16000000 in
theorem radd_some_new {base : Nat} {w : World} {b : Nat} {hv lv tv : Value} {hs : List Int} {es : List Mm.Ent} {ts : List Int} (h : RtAt base w b hv lv tv hs es ts) (hbase : base ≤ w.heap.size) (hn : es.length ≤ 1000) (hh : hs.length ≤ 1000) (hs0 : hs ≠ []) (hl0 : lv = .slice none 0 0) (ht0 : tv = .slice none 0 0) (e : Mm.Ent) : Calls Try.prog 16 #[.pointer (some ⟨b, 0, none⟩), entV e] w fun r w' => AddOut base w b hv lv tv hs es ts e r w' := by
  obtain ⟨K, V, Q, D⟩ := e
  obtain ⟨W, hW⟩ : ∃ W, W = w.alloc (.cells #[str K, str V, .int .i64 Q, .bool D] 38) := ⟨_, rfl⟩
  have b0 : Below w.heap.size w W := by rw [hW]; exact (Below.refl _ _).alloc (Nat.le_refl _) _
  obtain ⟨E1, hE1⟩ : ∃ E1, E1 = w.heap.size := ⟨_, rfl⟩
  have y0 : ∀ i, W.cell? ⟨E1, i, none⟩ = (#[str K, str V, .int .i64 Q, .bool D] : Array Value)[i]? := fun i => by rw [hW, hE1]; exact Joins.cell_of_block (World.alloc_heap_new w _) i
  have hlen := h.len
  obtain ⟨ha, hc, eh⟩ := row_shape h.hh
  have he0 : es = [] := by
    rcases h.ll.2 with ⟨_, h0⟩ | ⟨g', cap', cur, e2, _⟩
    · exact List.eq_nil_of_length_eq_zero h0
    · rw [hl0] at e2; cases e2
  have ht00 : ts = [] := List.eq_nil_of_length_eq_zero (by rw [hlen, he0]; rfl)
  obtain ⟨hl, hHl⟩ : ∃ hl, hl = hs.length := ⟨_, rfl⟩
  have HR := hide h
  have KC : Hid (∀ wx, Below W.heap.size W wx → (wx.cell? ⟨b, 0, none⟩ = some (.bool true) ∧ wx.cell? ⟨b, 1, none⟩ = some (.slice ha hl hc) ∧ wx.cell? ⟨b, 2, none⟩ = some (.slice none 0 0) ∧ wx.cell? ⟨b, 3, none⟩ = some (.slice none 0 0)) ∧ (wx.cell? ⟨E1, 0, none⟩ = some (str K) ∧ wx.cell? ⟨E1, 1, none⟩ = some (str V) ∧ wx.cell? ⟨E1, 2, none⟩ = some (.int .i64 Q) ∧ wx.cell? ⟨E1, 3, none⟩ = some (.bool D))) := fun wx hb => by
    have := ((h.later b0).later hb).cell
    rw [eh, hl0, ht0] at this
    rw [← hHl] at this
    exact ⟨this, keepC hb (y0 0), keepC hb (y0 1), keepC hb (y0 2), keepC hb (y0 3)⟩
  have EA : Hid (∀ wx, Below W.heap.size W wx → EntsAt wx (.slice none 0 0) es) := fun wx hb => by
    have := EntsAt.own ((h.later b0).later hb).ll
    rw [hl0] at this
    exact this
  have TA : Hid (∀ wx, Below W.heap.size W wx → IntsAt wx (.slice none 0 0) ts) := fun wx hb => by
    have := ints_own ((h.later b0).later hb).tt
    rw [ht0] at this
    exact this
  have FZ : Hid (∀ wx, Below W.heap.size W wx → wx.frozen? ⟨b, 2, none⟩ = false ∧ wx.frozen? ⟨b, 3, none⟩ = false) := fun wx hb => by
    have := ((h.later b0).later hb).blk
    exact ⟨Joins.unfrozen_of_block this 2, Joins.unfrozen_of_block this 3⟩
  have RN := hide (rnone_any W b ((h.later b0).cell).1)
  have CK := hide (rmcheck_any W ⟨K, V, Q, D⟩)
  have HB := hide b0
  have HW := hide hW
  have HE1 := hide hE1
  have HHT : Hid (∃ Hh, Hh = Mm.htR hs es.length) := ⟨_, rfl⟩
  obtain ⟨Hh, hHh⟩ := HHT.out
  have HHh := hide hHh
  have BB : Hid (∀ wx, Below W.heap.size W wx → Below w.heap.size w wx ∧ base ≤ wx.heap.size) := fun wx hb => by
    have := b0.trans (hb.mono b0.size)
    exact ⟨this, Nat.le_trans hbase this.size⟩
  have hp : 0 < hl := by rw [hHl]; exact List.length_pos_iff.2 hs0
  obtain ⟨gh, eha⟩ : ∃ gh, ha = some ⟨gh, 0, none⟩ := by
    rcases h.hh.2 with ⟨_, h1⟩ | ⟨g', cap', cur, e2, _⟩
    · omega
    · rw [eh] at e2; simp only [Value.slice.injEq] at e2; exact ⟨g', e2.1⟩
  subst eha
  have hrl : 0 % hl < hl := Nat.mod_lt _ hp
  obtain ⟨r, hr⟩ : ∃ r, r = 0 % hl := ⟨_, rfl⟩
  rw [← hr] at hrl
  have CX : Hid (∀ wx, Below W.heap.size W wx → wx.cell? ⟨gh, r, none⟩ = some (.int .i64 Hh)) := fun wx hb => by
    have o := ((h.later b0).later hb).hh
    rw [eh] at o
    have e5 : (ics hs)[r]? = some (.int .i64 (hs.getD r 1)) := by simp [ics, List.getD, show r < hs.length by omega]
    have e6 : Mm.htR hs es.length = hs.getD r 1 := by unfold Mm.htR; rw [if_neg hs0, he0, hr, hHl]; rfl
    rw [o.cellAt r (by omega), e5, hHh, e6]
  have i1 : Int.tmod (0) (hl : Int) = (r : Int) := by rw [hr]; simp
  have i2 : ((hl : Int) == 0) = false := by simp; omega
  have i3 : (r : Int) < (hl : Int) := by omega
  have i4 : ¬ (hl : Int) = 0 := by omega
  have i5 : (hl : Int) > 0 := by omega
  have i6 : (0 : Int) ≤ (r : Int) := by omega
  cases hm : Mm.may ⟨K, V, Q, D⟩
  · have ck : Mm.checkE ⟨K, V, Q, D⟩ = 2 := by unfold Mm.checkE; rw [hm]; rfl
    rw [ck] at CK
    have HS : Hid (∀ w9, Below W.heap.size W w9 → AddOut base w b hv lv tv hs es ts ⟨K, V, Q, D⟩ (.returned (.int .i64 2)) w9) := fun w9 hb => AddOut.same HR.out (by rw [hm]; rfl) (BB.out w9 hb).1 2 (by unfold Mm.addRE; rw [hm]; rfl)
    obtain ⟨-, e0, e1, e2, e3⟩ := KC.out W (Below.refl _ _)
    clear h eh hW b0 y0 hE1 hlen hh hbase hHh HHT hl0 ht0 hHl hs0 hr  hm ck KC EA TA FZ BB HHh
    rw [HE1.out, HW.out] at e0 e1 e2 e3
    rw [HW.out] at RN CK HS
    go_enter Try.func16, Try.ntmps16
    go_wp2_with (first
      | (go_at_call 43; refine RN.out.mono ?_; rintro e w1 ⟨rfl, rfl⟩; clear RN)
      | (go_at_call 12; refine CK.out.mono ?_; rintro e w2 ⟨rfl, b2⟩; clear CK))
    go_ret
    exact HS.out _ b2
  · have ck : Mm.checkE ⟨K, V, Q, D⟩ = 0 := by unfold Mm.checkE; rw [hm]; rfl
    rw [ck] at CK
    have HM := hide hm
    obtain ⟨-, e0, e1, e2, e3⟩ := KC.out W (Below.refl _ _)
    have HWs := HW.out
    subst he0 ht00
    clear h eh hW b0 y0 hE1 hlen hh hbase hHh HHT hl0 ht0 hHl hs0 hr  hm ck
    rw [HE1.out, HWs] at e0 e1 e2 e3
    rw [HWs] at RN CK
    go_enter Try.func16, Try.ntmps16
    go_wp2_with (first
      | (go_at_call 43; refine RN.out.mono ?_; rintro e w1 ⟨rfl, rfl⟩; clear RN)
      | (go_at_call 12; refine CK.out.mono ?_; rintro e w2 ⟨rfl, b2⟩; rw [← HWs] at b2; obtain ⟨⟨c0, c1, c2, c3⟩, e0, e1, e2, e3⟩ := KC.out w2 b2; have cx := CX.out w2 b2; clear CK))
    rw [← HE1.out]
    clear HWs e0 e1 e2 e3 c0
    go_quiet (fail)
    obtain ⟨X, hX⟩ : ∃ X, X = w2.drewN nq := ⟨_, rfl⟩
    have BX : Below W.heap.size W X := by rw [hX]; exact below_drewN b2 _
    rw [← hX]
    clear hX c1 c2 c3 cx b2 CX
    go_wp2_with (fail)
    refine wp_loop_rounds 1 ?_
    rw [rounds_succ]
    obtain ⟨⟨c0, c1, c2, c3⟩, e0, e1, e2, e3⟩ := KC.out X BX
    have HTH : Hid (Mm.thereR ⟨K, V, Q, D⟩ [] = false) := rfl
    have HPO : Hid (Mm.posR ⟨K, V, Q, D⟩ [] = 0) := rfl
    have HJL : Hid (0 ≤ ([] : List Mm.Ent).length) := Nat.zero_le _
    go_wp2_with (fail)
    go_quiet (fail)
    obtain ⟨X2, hX2⟩ : ∃ X2, X2 = X.drewN nq := ⟨_, rfl⟩
    have BX2 : Below W.heap.size W X2 := by rw [hX2]; exact below_drewN BX _
    rw [← hX2]
    clear hX2 c0 c1 c2 c3 e0 e1 e2 e3
    obtain ⟨⟨c0, c1, c2, c3⟩, e0, e1, e2, e3⟩ := KC.out X2 BX2
    go_wp2_with (fail)
    go_quiet (fail)
    clear c0 c1 c2 c3 e0 e1 e2 e3
    obtain ⟨X3, hX3⟩ : ∃ X3, X3 = X2.drewN nq := ⟨_, rfl⟩
    have BX3 : Below W.heap.size W X3 := by rw [hX3]; exact below_drewN BX2 _
    rw [← hX3]
    clear hX3
    have BA := BX3.alloc BX3.size (.cells #[] 38)
    have L0 : Hid ((X3.alloc (.cells #[] 38)).ownsRow X3.heap.size 38 4 (.slice (some ⟨X3.heap.size, 0, none⟩) 0 0) 0 (ecs [])) := World.ownsRow_lit (size := 4) (e := 38) (base := X3.heap.size) X3 #[] 0 (Nat.le_refl _) (by unfold maxLen; omega) rfl
    obtain ⟨⟨-, -, c2, -⟩, -⟩ := KC.out _ BA
    have EF : Hid (EntsAt (X3.alloc (.cells #[] 38)) (.slice none 0 0) ([] : List Mm.Ent)) := EA.out _ BA
    have ZA : Hid (X3.heap.size ≤ (X3.alloc (.cells #[] 38)).heap.size) := ((Below.refl _ _).alloc (Nat.le_refl _) _).size
    have KT : Hid (0 = ([] : List Mm.Ent).length) := rfl
    go_wp2_with (at_builtin; refine wpList_app_ents6 _ rfl _ _ rfl X3.heap.size X3.heap.size 0 [] ([] : List Mm.Ent) 0 0 0 KT.out rfl L0.out none rfl EF.out (by omega) ZA.out ?_; intro g3 cap3 w3 o3 gr3)
    have B3 : Below W.heap.size W w3 := BA.grown gr3 BA.size (fun k hk => by cases hk; exact BX3.size)
    simp only [Nat.zero_add, List.nil_append] at o3 ⊢
    have O3 := hide o3
    have z3 : X3.heap.size ≤ w3.heap.size := Nat.le_trans ZA.out gr3.size
    clear o3 gr3 c2 L0 EF ZA BA
    have B3d := B3.drew
    have BN := B3d.alloc B3d.size (entO ⟨K, V, Q, D⟩)
    have KS : Hid (∀ wx, Below W.heap.size W wx → (wx.cell? ⟨b, 2, none⟩ = some (.slice none 0 0)) ∧ (wx.cell? ⟨E1, 0, none⟩ = some (str K) ∧ wx.cell? ⟨E1, 1, none⟩ = some (str V) ∧ wx.cell? ⟨E1, 2, none⟩ = some (.int .i64 Q) ∧ wx.cell? ⟨E1, 3, none⟩ = some (.bool D))) := fun wx hb => ⟨(KC.out wx hb).1.2.2.1, (KC.out wx hb).2⟩
    have P3 := KS.out _ B3d
    have P4 := KS.out _ BN
    have OA := hide ((own_laterV O3.out (Below.refl w3.heap.size w3).drew).alloc (entO ⟨K, V, Q, D⟩))
    have EN1 : Hid (EntsAt (w3.drew.alloc (entO ⟨K, V, Q, D⟩)) (.slice (some ⟨w3.heap.size, 0, none⟩) 1 1) [⟨K, V, Q, D⟩]) := ⟨⟨_, 1, rfl, fun _ => ⟨_, 0, rfl, fun i hi => by
      obtain rfl : i = 0 := by simpa using hi
      have hb0 : ∀ q, (w3.drew.alloc (entO ⟨K, V, Q, D⟩)).cell? ⟨w3.heap.size, q, none⟩ = (#[str K, str V, .int .i64 Q, .bool D] : Array Value)[q]? := fun q => Joins.cell_of_block (World.alloc_heap_new w3.drew _) q
      exact ⟨hb0 0, hb0 1, hb0 2, hb0 3⟩⟩⟩⟩
    have Z4 : Hid (X3.heap.size ≤ (w3.drew.alloc (entO ⟨K, V, Q, D⟩)).heap.size) := Nat.le_trans z3 ((Below.refl w3.heap.size w3).drew.alloc (Nat.le_refl _) _).size
    have KD : Hid (0 = ([] : List Mm.Ent).length) := rfl
    have KDI : Hid (0 = ([] : List Int).length) := rfl
    have T1 : Hid True := trivial
    go_region_held3 (fun wx => (wx.cell? ⟨b, 2, none⟩ = some (.slice none 0 0)) ∧ (wx.cell? ⟨E1, 0, none⟩ = some (str K) ∧ wx.cell? ⟨E1, 1, none⟩ = some (str V) ∧ wx.cell? ⟨E1, 2, none⟩ = some (.int .i64 Q) ∧ wx.cell? ⟨E1, 3, none⟩ = some (.bool D)))
      (first | exact P3 | exact P4 | exact P5 | exact P6)
      (first
        | (have ta := T1.out; refine step_app_ents6 _ (by rfl) _ _ (by rfl) X3.heap.size g3 cap3 ([] : List Mm.Ent) [⟨K, V, Q, D⟩] 0 1 1 rfl (by rfl) OA.out (some ⟨w3.heap.size, 0, none⟩) (by rfl) EN1.out (by omega) Z4.out ?_; intro g4 cap4 w4 o4 gr4; have B4 : Below W.heap.size W w4 := BN.grown gr4 BN.size (fun k hk => (by cases hk; have := (O3.out.lt g3 rfl).1; have := BX3.size; omega)); have z4 : Hid (X3.heap.size ≤ w4.heap.size) := Nat.le_trans Z4.out gr4.size; have P5 := KS.out _ B4; have ED := hide (EA.out w4 B4); have O4 := hide o4; have T2 : Hid True := trivial; clear T1 ta o4 gr4)
        | (have tb := T2.out; refine step_app_ents6 _ (by rfl) _ _ (by rfl) X3.heap.size g4 cap4 (([] : List Mm.Ent) ++ [⟨K, V, Q, D⟩]) ([] : List Mm.Ent) (0 + 1) 0 0 KD.out (by rfl) O4.out _ (by rfl) ED.out (by omega) z4.out ?_; intro g5 cap5 w5 o5 gr5; have B5 : Below W.heap.size W w5 := B4.grown gr5 B4.size (fun k hk => (by cases hk; have := (O4.out.lt g4 rfl).1; have := BX3.size; omega)); have P6 := KS.out _ B5; have O5 := hide o5; clear T2 tb o5 gr5))
    clear P3 P4 P5 P6 OA EN1 Z4 O3 O4 ED z4 B3d BN B4
    have BT := B5.alloc B5.size (.cells #[] 3)
    obtain ⟨⟨-, -, -, c3⟩, -⟩ := KC.out _ BT
    have L1 : Hid ((w5.alloc (.cells #[] 3)).ownsRow w5.heap.size 3 1 (.slice (some ⟨w5.heap.size, 0, none⟩) 0 0) 0 (ics [])) := World.ownsRow_lit (size := 1) (e := 3) (base := w5.heap.size) w5 #[] 0 (Nat.le_refl _) (by unfold maxLen; omega) rfl
    have TF : Hid (IntsAt (w5.alloc (.cells #[] 3)) (.slice none 0 0) ([] : List Int)) := TA.out _ BT
    have ZT : Hid (w5.heap.size ≤ (w5.alloc (.cells #[] 3)).heap.size) := ((Below.refl _ _).alloc (Nat.le_refl _) _).size
    have KTI : Hid (0 = ([] : List Int).length) := rfl
    go_wp2_with (at_builtin; refine wpList_app_ints _ rfl _ _ rfl w5.heap.size w5.heap.size 0 [] ([] : List Int) 0 0 0 rfl KTI.out rfl L1.out none rfl TF.out (by omega) ZT.out ?_; intro g6 cap6 w6 o6 gr6)
    have B6 : Below W.heap.size W w6 := BT.grown gr6 BT.size (fun k hk => by cases hk; exact B5.size)
    have C6 : Below w5.heap.size w5 w6 := ((Below.refl _ _).alloc (Nat.le_refl _) _).grown gr6 ZT.out (fun k hk => by cases hk; exact Nat.le_refl _)
    simp only [Nat.zero_add, List.nil_append] at o6 ⊢
    have O6 := hide o6
    clear o6 gr6 c3 L1 TF ZT BT
    have B6d := B6.drew
    have C6d := C6.drew
    have BM := B6d.alloc B6d.size (.cells #[.int .i64 Hh] 3)
    have CM := C6d.alloc C6d.size (.cells #[.int .i64 Hh] 3)
    have KS2 : Hid (∀ wx, Below W.heap.size W wx → wx.cell? ⟨b, 3, none⟩ = some (.slice none 0 0)) := fun wx hb => (KC.out wx hb).1.2.2.2
    have P3 := KS2.out _ B6d
    have P4 := KS2.out _ BM
    have OA := hide ((own_laterV O6.out (Below.refl w6.heap.size w6).drew).alloc (.cells #[.int .i64 Hh] 3))
    have IN1 : Hid (IntsAt (w6.drew.alloc (.cells #[.int .i64 Hh] 3)) (.slice (some ⟨w6.heap.size, 0, none⟩) 1 1) [Hh]) := ⟨_, 1, rfl, (fun e => by cases e), fun _ => ⟨_, 0, rfl, fun i hi => by
      obtain rfl : i = 0 := by simpa using hi
      exact Joins.cell_of_block (World.alloc_heap_new w6.drew _) 0⟩⟩
    have T1 : Hid True := trivial
    go_region_held3 (fun wx => wx.cell? ⟨b, 3, none⟩ = some (.slice none 0 0))
      (first | exact P3 | exact P4 | exact P5 | exact P6)
      (first
        | (have ta := T1.out; refine step_app_ints6 _ (by rfl) _ _ (by rfl) w5.heap.size g6 cap6 ([] : List Int) [Hh] 0 1 1 rfl (by rfl) OA.out (some ⟨w6.heap.size, 0, none⟩) (by rfl) IN1.out (by omega) CM.size ?_; intro g7 cap7 w7 o7 gr7; have B7 : Below W.heap.size W w7 := BM.grown gr7 BM.size (fun k hk => (by cases hk; have := (O6.out.lt g6 rfl).1; have := B5.size; omega)); have C7 : Below w5.heap.size w5 w7 := CM.grown gr7 CM.size (fun k hk => (by cases hk; exact (O6.out.lt g6 rfl).1)); have P5 := KS2.out _ B7; have TD := hide (TA.out w7 B7); have O7 := hide o7; have T2 : Hid True := trivial; clear T1 ta o7 gr7)
        | (have tb := T2.out; refine step_app_ints6 _ (by rfl) _ _ (by rfl) w5.heap.size g7 cap7 (([] : List Int) ++ [Hh]) ([] : List Int) (0 + 1) 0 0 KDI.out (by rfl) O7.out _ (by rfl) TD.out (by omega) C7.size ?_; intro g8 cap8 w8 o8 gr8; have B8 : Below W.heap.size W w8 := B7.grown gr8 B7.size (fun k hk => (by cases hk; have := (O7.out.lt g7 rfl).1; have := B5.size; omega)); have C8 : Below w5.heap.size w5 w8 := C7.grown gr8 C7.size (fun k hk => (by cases hk; exact (O7.out.lt g7 rfl).1)); have P6 := KS2.out _ B8; have O8 := hide o8; clear T2 tb o8 gr8))
    clear P3 P4 P5 P6 OA IN1 O6 O7 TD C7 CM C6d B6d BM B7
    obtain ⟨⟨-, -, c2, c3⟩, -⟩ := KC.out _ B8
    obtain ⟨f2, f3⟩ := FZ.out _ B8
    have FIN := hide (AddOut.done HR.out HM.out HTH.out HPO.out HJL.out (BB.out w8 B8).1 g5 cap5 g8 cap8 (0 + 1 + 0) (0 + 1 + 0) Hh HHh.out (rfl) (rfl) (own_lift (own_laterV O5.out C8) (BB.out X3 BX3).2) (own_lift O8.out (BB.out w5 B5).2) (Nat.le_trans (BB.out X3 BX3).1.size (O5.out.lt g5 rfl).1) (Nat.le_trans (BB.out w5 B5).1.size (O8.out.lt g8 rfl).1))
    clear KC EA TA FZ BB HR O5 O8
    go_wp2_with (fail)
    go_ret
    exact FIN.out

set_option maxRecDepth 100000 in
set_option maxHeartbeats 16000000 in
theorem radd_some_old {base : Nat} {w : World} {b : Nat} {hv lv tv : Value} {hs : List Int} {es : List Mm.Ent} {ts : List Int} (h : RtAt base w b hv lv tv hs es ts) (hbase : base ≤ w.heap.size) (hn : es.length ≤ 1000) (hh : hs.length ≤ 1000) (hs0 : hs ≠ []) (gl lc gt tc : Nat) (hl0 : lv = .slice (some ⟨gl, 0, none⟩) es.length lc) (ht0 : tv = .slice (some ⟨gt, 0, none⟩) es.length tc) (e : Mm.Ent) : Calls Try.prog 16 #[.pointer (some ⟨b, 0, none⟩), entV e] w fun r w' => AddOut base w b hv lv tv hs es ts e r w' := by
  obtain ⟨K, V, Q, D⟩ := e
  obtain ⟨W, hW⟩ : ∃ W, W = w.alloc (.cells #[str K, str V, .int .i64 Q, .bool D] 38) := ⟨_, rfl⟩
  have b0 : Below w.heap.size w W := by rw [hW]; exact (Below.refl _ _).alloc (Nat.le_refl _) _
  obtain ⟨E1, hE1⟩ : ∃ E1, E1 = w.heap.size := ⟨_, rfl⟩
  have y0 : ∀ i, W.cell? ⟨E1, i, none⟩ = (#[str K, str V, .int .i64 Q, .bool D] : Array Value)[i]? := fun i => by rw [hW, hE1]; exact Joins.cell_of_block (World.alloc_heap_new w _) i
  have hlen := h.len
  obtain ⟨ha, hc, eh⟩ := row_shape h.hh
  obtain ⟨n, hN⟩ : ∃ n, n = es.length := ⟨_, rfl⟩
  have hcl : n ≤ lc ∧ lc ≤ 9223372036854775807 := by
    have o := h.ll
    rw [hl0] at o
    rcases o.2 with ⟨e2, _⟩ | ⟨g', cap', cur, e2, _, _, h3, h4, _⟩
    · cases e2
    · simp only [Value.slice.injEq] at e2; unfold maxLen at h4; omega
  have hct : n ≤ tc ∧ tc ≤ 9223372036854775807 := by
    have o := h.tt
    rw [ht0] at o
    rcases o.2 with ⟨e2, _⟩ | ⟨g', cap', cur, e2, _, _, h3, h4, _⟩
    · cases e2
    · simp only [Value.slice.injEq] at e2; unfold maxLen at h4; omega
  obtain ⟨hl, hHl⟩ : ∃ hl, hl = hs.length := ⟨_, rfl⟩
  have HR := hide h
  have KC : Hid (∀ wx, Below W.heap.size W wx → (wx.cell? ⟨b, 0, none⟩ = some (.bool true) ∧ wx.cell? ⟨b, 1, none⟩ = some (.slice ha hl hc) ∧ wx.cell? ⟨b, 2, none⟩ = some (.slice (some ⟨gl, 0, none⟩) n lc) ∧ wx.cell? ⟨b, 3, none⟩ = some (.slice (some ⟨gt, 0, none⟩) n tc)) ∧ (wx.cell? ⟨E1, 0, none⟩ = some (str K) ∧ wx.cell? ⟨E1, 1, none⟩ = some (str V) ∧ wx.cell? ⟨E1, 2, none⟩ = some (.int .i64 Q) ∧ wx.cell? ⟨E1, 3, none⟩ = some (.bool D))) := fun wx hb => by
    have := ((h.later b0).later hb).cell
    rw [eh, hl0, ht0] at this
    rw [← hHl] at this
    rw [← hN] at this
    exact ⟨this, keepC hb (y0 0), keepC hb (y0 1), keepC hb (y0 2), keepC hb (y0 3)⟩
  have EA : Hid (∀ wx, Below W.heap.size W wx → EntsAt wx (.slice (some ⟨gl, 0, none⟩) n lc) es) := fun wx hb => by
    have := EntsAt.own ((h.later b0).later hb).ll
    rw [hl0] at this
    rw [hN]
    exact this
  have TA : Hid (∀ wx, Below W.heap.size W wx → IntsAt wx (.slice (some ⟨gt, 0, none⟩) n tc) ts) := fun wx hb => by
    have := ints_own ((h.later b0).later hb).tt
    rw [ht0] at this
    rw [hN]
    exact this
  have FZ : Hid (∀ wx, Below W.heap.size W wx → wx.frozen? ⟨b, 2, none⟩ = false ∧ wx.frozen? ⟨b, 3, none⟩ = false) := fun wx hb => by
    have := ((h.later b0).later hb).blk
    exact ⟨Joins.unfrozen_of_block this 2, Joins.unfrozen_of_block this 3⟩
  have RN := hide (rnone_any W b ((h.later b0).cell).1)
  have CK := hide (rmcheck_any W ⟨K, V, Q, D⟩)
  have HB := hide b0
  have HW := hide hW
  have HE1 := hide hE1
  have HHT : Hid (∃ Hh, Hh = Mm.htR hs es.length) := ⟨_, rfl⟩
  obtain ⟨Hh, hHh⟩ := HHT.out
  have HHh := hide hHh
  have BB : Hid (∀ wx, Below W.heap.size W wx → Below w.heap.size w wx ∧ base ≤ wx.heap.size) := fun wx hb => by
    have := b0.trans (hb.mono b0.size)
    exact ⟨this, Nat.le_trans hbase this.size⟩
  have hp : 0 < hl := by rw [hHl]; exact List.length_pos_iff.2 hs0
  obtain ⟨gh, eha⟩ : ∃ gh, ha = some ⟨gh, 0, none⟩ := by
    rcases h.hh.2 with ⟨_, h1⟩ | ⟨g', cap', cur, e2, _⟩
    · omega
    · rw [eh] at e2; simp only [Value.slice.injEq] at e2; exact ⟨g', e2.1⟩
  subst eha
  have hrl : n % hl < hl := Nat.mod_lt _ hp
  obtain ⟨r, hr⟩ : ∃ r, r = n % hl := ⟨_, rfl⟩
  rw [← hr] at hrl
  have CX : Hid (∀ wx, Below W.heap.size W wx → wx.cell? ⟨gh, r, none⟩ = some (.int .i64 Hh)) := fun wx hb => by
    have o := ((h.later b0).later hb).hh
    rw [eh] at o
    have e5 : (ics hs)[r]? = some (.int .i64 (hs.getD r 1)) := by simp [ics, List.getD, show r < hs.length by omega]
    have e6 : Mm.htR hs es.length = hs.getD r 1 := by unfold Mm.htR; rw [if_neg hs0, hr, hHl, hN]
    rw [o.cellAt r (by omega), e5, hHh, e6]
  have i1 : Int.tmod ((n : Int)) (hl : Int) = (r : Int) := by rw [hr, Int.ofNat_tmod]
  have i2 : ((hl : Int) == 0) = false := by simp; omega
  have i3 : (r : Int) < (hl : Int) := by omega
  have i4 : ¬ (hl : Int) = 0 := by omega
  have i5 : (hl : Int) > 0 := by omega
  have i6 : (0 : Int) ≤ (r : Int) := by omega
  have HN := hide hN
  have hn' : n ≤ 1000 := by rw [hN]; exact hn
  have HTL : Hid (ts.length = n) := by show _ = _; rw [hN]; exact h.len
  cases hm : Mm.may ⟨K, V, Q, D⟩
  · have ck : Mm.checkE ⟨K, V, Q, D⟩ = 2 := by unfold Mm.checkE; rw [hm]; rfl
    rw [ck] at CK
    have HS : Hid (∀ w9, Below W.heap.size W w9 → AddOut base w b hv lv tv hs es ts ⟨K, V, Q, D⟩ (.returned (.int .i64 2)) w9) := fun w9 hb => AddOut.same HR.out (by rw [hm]; rfl) (BB.out w9 hb).1 2 (by unfold Mm.addRE; rw [hm]; rfl)
    obtain ⟨-, e0, e1, e2, e3⟩ := KC.out W (Below.refl _ _)
    clear h eh hW b0 y0 hE1 hlen hh hbase hHh HHT hl0 ht0 hHl hs0 hr hN hn  hm ck KC EA TA FZ BB HHh
    rw [HE1.out, HW.out] at e0 e1 e2 e3
    rw [HW.out] at RN CK HS
    go_enter Try.func16, Try.ntmps16
    go_wp2_with (first
      | (go_at_call 43; refine RN.out.mono ?_; rintro e w1 ⟨rfl, rfl⟩; clear RN)
      | (go_at_call 12; refine CK.out.mono ?_; rintro e w2 ⟨rfl, b2⟩; clear CK))
    go_ret
    exact HS.out _ b2
  · have ck : Mm.checkE ⟨K, V, Q, D⟩ = 0 := by unfold Mm.checkE; rw [hm]; rfl
    rw [ck] at CK
    have HM := hide hm
    obtain ⟨-, e0, e1, e2, e3⟩ := KC.out W (Below.refl _ _)
    have HWs := HW.out
    clear h eh hW b0 y0 hE1 hlen hh hbase hHh HHT hl0 ht0 hHl hs0 hr hN hn  hm ck
    rw [HE1.out, HWs] at e0 e1 e2 e3
    rw [HWs] at RN CK
    go_enter Try.func16, Try.ntmps16
    go_wp2_with (first
      | (go_at_call 43; refine RN.out.mono ?_; rintro e w1 ⟨rfl, rfl⟩; clear RN)
      | (go_at_call 12; refine CK.out.mono ?_; rintro e w2 ⟨rfl, b2⟩; rw [← HWs] at b2; obtain ⟨⟨c0, c1, c2, c3⟩, e0, e1, e2, e3⟩ := KC.out w2 b2; have cx := CX.out w2 b2; clear CK))
    rw [← HE1.out]
    clear HWs e0 e1 e2 e3 c0
    go_quiet (fail)
    obtain ⟨X, hX⟩ : ∃ X, X = w2.drewN nq := ⟨_, rfl⟩
    have BX : Below W.heap.size W X := by rw [hX]; exact below_drewN b2 _
    rw [← hX]
    clear hX c1 c2 c3 cx b2 CX
    go_wp2_with (fail)
    go_loopw [6] (fun i wr => ∃ j : Nat, j ≤ n ∧ i = .int .i64 (j : Int) ∧ Hid (∀ x ∈ es.take j, Mm.ahead x ⟨K, V, Q, D⟩ = true) ∧ Below W.heap.size W wr) (fun i _ => n - (intOf i).toNat)
    case atStart => exact ⟨0, Nat.zero_le _, rfl, fun x hx => by simp at hx, BX⟩
    case round =>
      clear BX
      obtain ⟨j, hj, rfl, HA, bx⟩ := hrel
      have j0 : (0 : Int) ≤ (j : Int) := by omega
      have jc : (j : Int) ≤ (lc : Int) := by omega
      have jt : (j : Int) ≤ (tc : Int) := by omega
      have jn' : (j : Int) ≤ (n : Int) := by omega
      have HJL : Hid (j ≤ es.length) := by show _ ≤ _; have := HN.out; omega
      by_cases hlt : j < n
      · have jl : j < es.length := by have := HN.out; omega
        have j1 : (j : Int) < (n : Int) := by omega
        have hd : decide ((j : Int) < (n : Int)) = true := by simpa using j1
        have CE : Hid (∀ wx, Below W.heap.size W wx → (wx.cell? ⟨gl, j * 4, none⟩ = some (str es[j].key) ∧ wx.cell? ⟨gl, j * 4 + 1, none⟩ = some (str es[j].value) ∧ wx.cell? ⟨gl, j * 4 + 2, none⟩ = some (.int .i64 es[j].seq) ∧ wx.cell? ⟨gl, j * 4 + 3, none⟩ = some (.bool es[j].del))) := fun wx hb => by
          have := (EA.out wx hb).cells j jl
          rw [Nat.zero_add] at this
          exact this
        have AHJ : Hid (∀ wx, Calls Try.prog 14 #[entV es[j], entV ⟨K, V, Q, D⟩] wx fun e w' => e = .returned (.bool (Mm.ahead es[j] ⟨K, V, Q, D⟩)) ∧ Below wx.heap.size wx w') := fun wx => rahead_any wx _ _
        have PA : Hid (Mm.ahead es[j] ⟨K, V, Q, D⟩ = false → Mm.posR ⟨K, V, Q, D⟩ es = j) := fun h => Mm.pos_at jl HA.out h
        have TH : Hid (Mm.posR ⟨K, V, Q, D⟩ es = j → Mm.thereR ⟨K, V, Q, D⟩ es = (decide (es[j].key = K) && decide (es[j].seq = Q))) := fun h => by unfold Mm.thereR; rw [h, List.getElem?_eq_getElem jl]
        have HA' : Hid (Mm.ahead es[j] ⟨K, V, Q, D⟩ = true → ∀ x ∈ es.take (j + 1), Mm.ahead x ⟨K, V, Q, D⟩ = true) := fun h x hx => by
          rw [List.take_succ_eq_append_getElem jl] at hx
          rcases List.mem_append.mp hx with h2 | h2
          · exact HA.out x h2
          · rw [List.mem_singleton.mp h2]; exact h
        clear HA
        generalize es[j] = Y at *
        clear jl
        have KK : Hid (∀ wx, Below W.heap.size W wx → wx.cell? ⟨b, 2, none⟩ = some (.slice (some ⟨gl, 0, none⟩) n lc) ∧ (wx.cell? ⟨E1, 0, none⟩ = some (str K) ∧ wx.cell? ⟨E1, 1, none⟩ = some (str V) ∧ wx.cell? ⟨E1, 2, none⟩ = some (.int .i64 Q) ∧ wx.cell? ⟨E1, 3, none⟩ = some (.bool D)) ∧ (wx.cell? ⟨gl, j * 4, none⟩ = some (str Y.key) ∧ wx.cell? ⟨gl, j * 4 + 1, none⟩ = some (str Y.value) ∧ wx.cell? ⟨gl, j * 4 + 2, none⟩ = some (.int .i64 Y.seq) ∧ wx.cell? ⟨gl, j * 4 + 3, none⟩ = some (.bool Y.del))) := fun wx hb => ⟨(KC.out wx hb).1.2.2.1, (KC.out wx hb).2, CE.out wx hb⟩
        have P1 := KK.out wr.drew bx.drew
        obtain ⟨Z, hZ⟩ : ∃ Z, Z = Mm.ahead Y ⟨K, V, Q, D⟩ := ⟨_, rfl⟩
        rw [← hZ] at AHJ PA HA'
        clear hZ CE
        cases Z
        · have HPO := hide (PA.out rfl)
          have HTE := hide (TH.out HPO.out)
          clear PA TH HA'
          go_wp2_with (fail)
          go_region_held3 (fun wx => wx.cell? ⟨b, 2, none⟩ = some (.slice (some ⟨gl, 0, none⟩) n lc) ∧ (wx.cell? ⟨E1, 0, none⟩ = some (str K) ∧ wx.cell? ⟨E1, 1, none⟩ = some (str V) ∧ wx.cell? ⟨E1, 2, none⟩ = some (.int .i64 Q) ∧ wx.cell? ⟨E1, 3, none⟩ = some (.bool D)) ∧ (wx.cell? ⟨gl, j * 4, none⟩ = some (str Y.key) ∧ wx.cell? ⟨gl, j * 4 + 1, none⟩ = some (str Y.value) ∧ wx.cell? ⟨gl, j * 4 + 2, none⟩ = some (.int .i64 Y.seq) ∧ wx.cell? ⟨gl, j * 4 + 3, none⟩ = some (.bool Y.del)))
            (first | exact P1 | exact P2)
            (first
              | (go_at_call 14; refine (AHJ.out _).mono ?_; rintro r w8 ⟨rfl, b8⟩; have D8 := bx.drew.trans (b8.mono bx.drew.size); have P2 := KK.out _ D8))
          obtain ⟨X2, hX2⟩ : ∃ X2, X2 = w8 := ⟨_, rfl⟩
          have BX2 : Below W.heap.size W X2 := by rw [hX2]; exact D8
          rw [← hX2]
          clear hX2 P1 P2 D8 b8 bx AHJ
          obtain ⟨YK, YV, YQ, YD⟩ := Y
          simp only at KK HTE
          obtain ⟨c2, ⟨e0, e1, e2, e3⟩, y0, y1, y2, y3⟩ := KK.out X2 BX2
          go_wp2_with (fail)
          cases hK : (YK == K)
          · have HTH : Hid (Mm.thereR ⟨K, V, Q, D⟩ es = false) := by
              show _ = _
              rw [HTE.out]
              have : YK ≠ K := fun e => by rw [e] at hK; simp at hK
              simp [this]
            clear HTE KK
            go_quiet (fail)
            clear c2 e0 e1 e2 e3 y0 y1 y2 y3 hK
            obtain ⟨X3, hX3⟩ : ∃ X3, X3 = X2.drewN nq := ⟨_, rfl⟩
            have BX3 : Below W.heap.size W X3 := by rw [hX3]; exact below_drewN BX2 _
            rw [← hX3]
            clear hX3
            have BA := BX3.alloc BX3.size (.cells #[] 38)
            have L0 : Hid ((X3.alloc (.cells #[] 38)).ownsRow X3.heap.size 38 4 (.slice (some ⟨X3.heap.size, 0, none⟩) 0 0) 0 (ecs [])) := World.ownsRow_lit (size := 4) (e := 38) (base := X3.heap.size) X3 #[] 0 (Nat.le_refl _) (by unfold maxLen; omega) rfl
            obtain ⟨⟨-, -, c2, -⟩, -⟩ := KC.out _ BA
            have EF : Hid (EntsAt (X3.alloc (.cells #[] 38)) (.slice (some ⟨gl, 0, none⟩) j lc) (es.take j)) := ents_take (EA.out _ BA) (by have := HN.out; omega) lc
            have ZA : Hid (X3.heap.size ≤ (X3.alloc (.cells #[] 38)).heap.size) := ((Below.refl _ _).alloc (Nat.le_refl _) _).size
            have KT : Hid (j = (es.take j).length) := (by show _ = _; rw [List.length_take]; have := HN.out; omega)
            go_wp2_with (at_builtin; refine wpList_app_ents6 _ rfl _ _ rfl X3.heap.size X3.heap.size 0 [] (es.take j) 0 j lc KT.out rfl L0.out (some ⟨gl, 0, none⟩) rfl EF.out (by omega) ZA.out ?_; intro g3 cap3 w3 o3 gr3)
            have B3 : Below W.heap.size W w3 := BA.grown gr3 BA.size (fun k hk => by cases hk; exact BX3.size)
            simp only [Nat.zero_add, List.nil_append] at o3 ⊢
            have O3 := hide o3
            have z3 : X3.heap.size ≤ w3.heap.size := Nat.le_trans ZA.out gr3.size
            clear o3 gr3 c2 L0 EF ZA BA
            have B3d := B3.drew
            have BN := B3d.alloc B3d.size (entO ⟨K, V, Q, D⟩)
            have KS : Hid (∀ wx, Below W.heap.size W wx → (wx.cell? ⟨b, 2, none⟩ = some (.slice (some ⟨gl, 0, none⟩) n lc)) ∧ (wx.cell? ⟨E1, 0, none⟩ = some (str K) ∧ wx.cell? ⟨E1, 1, none⟩ = some (str V) ∧ wx.cell? ⟨E1, 2, none⟩ = some (.int .i64 Q) ∧ wx.cell? ⟨E1, 3, none⟩ = some (.bool D))) := fun wx hb => ⟨(KC.out wx hb).1.2.2.1, (KC.out wx hb).2⟩
            have P3 := KS.out _ B3d
            have P4 := KS.out _ BN
            have OA := hide ((own_laterV O3.out (Below.refl w3.heap.size w3).drew).alloc (entO ⟨K, V, Q, D⟩))
            have EN1 : Hid (EntsAt (w3.drew.alloc (entO ⟨K, V, Q, D⟩)) (.slice (some ⟨w3.heap.size, 0, none⟩) 1 1) [⟨K, V, Q, D⟩]) := ⟨⟨_, 1, rfl, fun _ => ⟨_, 0, rfl, fun i hi => by
              obtain rfl : i = 0 := by simpa using hi
              have hb0 : ∀ q, (w3.drew.alloc (entO ⟨K, V, Q, D⟩)).cell? ⟨w3.heap.size, q, none⟩ = (#[str K, str V, .int .i64 Q, .bool D] : Array Value)[q]? := fun q => Joins.cell_of_block (World.alloc_heap_new w3.drew _) q
              exact ⟨hb0 0, hb0 1, hb0 2, hb0 3⟩⟩⟩⟩
            have Z4 : Hid (X3.heap.size ≤ (w3.drew.alloc (entO ⟨K, V, Q, D⟩)).heap.size) := Nat.le_trans z3 ((Below.refl w3.heap.size w3).drew.alloc (Nat.le_refl _) _).size
            have KD : Hid ((n - j) = (es.drop j).length) := (by show _ = _; rw [List.length_drop, HN.out])
            have KDI : Hid ((n - j) = (ts.drop j).length) := (by show _ = _; rw [List.length_drop, HTL.out])
            have T1 : Hid True := trivial
            go_region_held3 (fun wx => (wx.cell? ⟨b, 2, none⟩ = some (.slice (some ⟨gl, 0, none⟩) n lc)) ∧ (wx.cell? ⟨E1, 0, none⟩ = some (str K) ∧ wx.cell? ⟨E1, 1, none⟩ = some (str V) ∧ wx.cell? ⟨E1, 2, none⟩ = some (.int .i64 Q) ∧ wx.cell? ⟨E1, 3, none⟩ = some (.bool D)))
              (first | exact P3 | exact P4 | exact P5 | exact P6)
              (first
                | (have ta := T1.out; refine step_app_ents6 _ (by rfl) _ _ (by rfl) X3.heap.size g3 cap3 (es.take j) [⟨K, V, Q, D⟩] j 1 1 rfl (by rfl) OA.out (some ⟨w3.heap.size, 0, none⟩) (by rfl) EN1.out (by omega) Z4.out ?_; intro g4 cap4 w4 o4 gr4; have B4 : Below W.heap.size W w4 := BN.grown gr4 BN.size (fun k hk => (by cases hk; have := (O3.out.lt g3 rfl).1; have := BX3.size; omega)); have z4 : Hid (X3.heap.size ≤ w4.heap.size) := Nat.le_trans Z4.out gr4.size; have P5 := KS.out _ B4; have ED := hide (ents_drop (EA.out w4 B4) HN.out hj hcl.1); have O4 := hide o4; have T2 : Hid True := trivial; clear T1 ta o4 gr4)
                | (have tb := T2.out; refine step_app_ents6 _ (by rfl) _ _ (by rfl) X3.heap.size g4 cap4 ((es.take j) ++ [⟨K, V, Q, D⟩]) (es.drop j) (j + 1) (n - j) (lc - j) KD.out (by rfl) O4.out _ (by rfl) ED.out (by omega) z4.out ?_; intro g5 cap5 w5 o5 gr5; have B5 : Below W.heap.size W w5 := B4.grown gr5 B4.size (fun k hk => (by cases hk; have := (O4.out.lt g4 rfl).1; have := BX3.size; omega)); have P6 := KS.out _ B5; have O5 := hide o5; clear T2 tb o5 gr5))
            clear P3 P4 P5 P6 OA EN1 Z4 O3 O4 ED z4 B3d BN B4
            have BT := B5.alloc B5.size (.cells #[] 3)
            obtain ⟨⟨-, -, -, c3⟩, -⟩ := KC.out _ BT
            have L1 : Hid ((w5.alloc (.cells #[] 3)).ownsRow w5.heap.size 3 1 (.slice (some ⟨w5.heap.size, 0, none⟩) 0 0) 0 (ics [])) := World.ownsRow_lit (size := 1) (e := 3) (base := w5.heap.size) w5 #[] 0 (Nat.le_refl _) (by unfold maxLen; omega) rfl
            have TF : Hid (IntsAt (w5.alloc (.cells #[] 3)) (.slice (some ⟨gt, 0, none⟩) j tc) (ts.take j)) := ints_take (TA.out _ BT) (by have := HTL.out; omega) tc (fun e => by cases e)
            have ZT : Hid (w5.heap.size ≤ (w5.alloc (.cells #[] 3)).heap.size) := ((Below.refl _ _).alloc (Nat.le_refl _) _).size
            have KTI : Hid (j = (ts.take j).length) := (by show _ = _; rw [List.length_take, HTL.out]; omega)
            go_wp2_with (at_builtin; refine wpList_app_ints _ rfl _ _ rfl w5.heap.size w5.heap.size 0 [] (ts.take j) 0 j tc rfl KTI.out rfl L1.out (some ⟨gt, 0, none⟩) rfl TF.out (by omega) ZT.out ?_; intro g6 cap6 w6 o6 gr6)
            have B6 : Below W.heap.size W w6 := BT.grown gr6 BT.size (fun k hk => by cases hk; exact B5.size)
            have C6 : Below w5.heap.size w5 w6 := ((Below.refl _ _).alloc (Nat.le_refl _) _).grown gr6 ZT.out (fun k hk => by cases hk; exact Nat.le_refl _)
            simp only [Nat.zero_add, List.nil_append] at o6 ⊢
            have O6 := hide o6
            clear o6 gr6 c3 L1 TF ZT BT
            have B6d := B6.drew
            have C6d := C6.drew
            have BM := B6d.alloc B6d.size (.cells #[.int .i64 Hh] 3)
            have CM := C6d.alloc C6d.size (.cells #[.int .i64 Hh] 3)
            have KS2 : Hid (∀ wx, Below W.heap.size W wx → wx.cell? ⟨b, 3, none⟩ = some (.slice (some ⟨gt, 0, none⟩) n tc)) := fun wx hb => (KC.out wx hb).1.2.2.2
            have P3 := KS2.out _ B6d
            have P4 := KS2.out _ BM
            have OA := hide ((own_laterV O6.out (Below.refl w6.heap.size w6).drew).alloc (.cells #[.int .i64 Hh] 3))
            have IN1 : Hid (IntsAt (w6.drew.alloc (.cells #[.int .i64 Hh] 3)) (.slice (some ⟨w6.heap.size, 0, none⟩) 1 1) [Hh]) := ⟨_, 1, rfl, (fun e => by cases e), fun _ => ⟨_, 0, rfl, fun i hi => by
              obtain rfl : i = 0 := by simpa using hi
              exact Joins.cell_of_block (World.alloc_heap_new w6.drew _) 0⟩⟩
            have T1 : Hid True := trivial
            go_region_held3 (fun wx => wx.cell? ⟨b, 3, none⟩ = some (.slice (some ⟨gt, 0, none⟩) n tc))
              (first | exact P3 | exact P4 | exact P5 | exact P6)
              (first
                | (have ta := T1.out; refine step_app_ints6 _ (by rfl) _ _ (by rfl) w5.heap.size g6 cap6 (ts.take j) [Hh] j 1 1 rfl (by rfl) OA.out (some ⟨w6.heap.size, 0, none⟩) (by rfl) IN1.out (by omega) CM.size ?_; intro g7 cap7 w7 o7 gr7; have B7 : Below W.heap.size W w7 := BM.grown gr7 BM.size (fun k hk => (by cases hk; have := (O6.out.lt g6 rfl).1; have := B5.size; omega)); have C7 : Below w5.heap.size w5 w7 := CM.grown gr7 CM.size (fun k hk => (by cases hk; exact (O6.out.lt g6 rfl).1)); have P5 := KS2.out _ B7; have TD := hide (ints_drop (TA.out w7 B7) HTL.out.symm hj hct.1); have O7 := hide o7; have T2 : Hid True := trivial; clear T1 ta o7 gr7)
                | (have tb := T2.out; refine step_app_ints6 _ (by rfl) _ _ (by rfl) w5.heap.size g7 cap7 ((ts.take j) ++ [Hh]) (ts.drop j) (j + 1) (n - j) (tc - j) KDI.out (by rfl) O7.out _ (by rfl) TD.out (by omega) C7.size ?_; intro g8 cap8 w8 o8 gr8; have B8 : Below W.heap.size W w8 := B7.grown gr8 B7.size (fun k hk => (by cases hk; have := (O7.out.lt g7 rfl).1; have := B5.size; omega)); have C8 : Below w5.heap.size w5 w8 := C7.grown gr8 C7.size (fun k hk => (by cases hk; exact (O7.out.lt g7 rfl).1)); have P6 := KS2.out _ B8; have O8 := hide o8; clear T2 tb o8 gr8))
            clear P3 P4 P5 P6 OA IN1 O6 O7 TD C7 CM C6d B6d BM B7
            obtain ⟨⟨-, -, c2, c3⟩, -⟩ := KC.out _ B8
            obtain ⟨f2, f3⟩ := FZ.out _ B8
            have FIN := hide (AddOut.done HR.out HM.out HTH.out HPO.out HJL.out (BB.out w8 B8).1 g5 cap5 g8 cap8 (j + 1 + (n - j)) (j + 1 + (n - j)) Hh HHh.out (by have := HN.out; omega) (by have := HN.out; omega) (own_lift (own_laterV O5.out C8) (BB.out X3 BX3).2) (own_lift O8.out (BB.out w5 B5).2) (Nat.le_trans (BB.out X3 BX3).1.size (O5.out.lt g5 rfl).1) (Nat.le_trans (BB.out w5 B5).1.size (O8.out.lt g8 rfl).1))
            clear KC EA TA FZ BB HR O5 O8
            go_wp2_with (fail)
            go_ret
            exact FIN.out
          · cases hQ : (YQ == Q)
            · have HTH : Hid (Mm.thereR ⟨K, V, Q, D⟩ es = false) := by
                show _ = _
                rw [HTE.out]
                have : YQ ≠ Q := fun e => by rw [e] at hQ; simp at hQ
                simp [this]
              clear HTE KK
              go_quiet (fail)
              clear c2 e0 e1 e2 e3 y0 y1 y2 y3 hK hQ
              obtain ⟨X3, hX3⟩ : ∃ X3, X3 = X2.drewN nq := ⟨_, rfl⟩
              have BX3 : Below W.heap.size W X3 := by rw [hX3]; exact below_drewN BX2 _
              rw [← hX3]
              clear hX3
              have BA := BX3.alloc BX3.size (.cells #[] 38)
              have L0 : Hid ((X3.alloc (.cells #[] 38)).ownsRow X3.heap.size 38 4 (.slice (some ⟨X3.heap.size, 0, none⟩) 0 0) 0 (ecs [])) := World.ownsRow_lit (size := 4) (e := 38) (base := X3.heap.size) X3 #[] 0 (Nat.le_refl _) (by unfold maxLen; omega) rfl
              obtain ⟨⟨-, -, c2, -⟩, -⟩ := KC.out _ BA
              have EF : Hid (EntsAt (X3.alloc (.cells #[] 38)) (.slice (some ⟨gl, 0, none⟩) j lc) (es.take j)) := ents_take (EA.out _ BA) (by have := HN.out; omega) lc
              have ZA : Hid (X3.heap.size ≤ (X3.alloc (.cells #[] 38)).heap.size) := ((Below.refl _ _).alloc (Nat.le_refl _) _).size
              have KT : Hid (j = (es.take j).length) := (by show _ = _; rw [List.length_take]; have := HN.out; omega)
              go_wp2_with (at_builtin; refine wpList_app_ents6 _ rfl _ _ rfl X3.heap.size X3.heap.size 0 [] (es.take j) 0 j lc KT.out rfl L0.out (some ⟨gl, 0, none⟩) rfl EF.out (by omega) ZA.out ?_; intro g3 cap3 w3 o3 gr3)
              have B3 : Below W.heap.size W w3 := BA.grown gr3 BA.size (fun k hk => by cases hk; exact BX3.size)
              simp only [Nat.zero_add, List.nil_append] at o3 ⊢
              have O3 := hide o3
              have z3 : X3.heap.size ≤ w3.heap.size := Nat.le_trans ZA.out gr3.size
              clear o3 gr3 c2 L0 EF ZA BA
              have B3d := B3.drew
              have BN := B3d.alloc B3d.size (entO ⟨K, V, Q, D⟩)
              have KS : Hid (∀ wx, Below W.heap.size W wx → (wx.cell? ⟨b, 2, none⟩ = some (.slice (some ⟨gl, 0, none⟩) n lc)) ∧ (wx.cell? ⟨E1, 0, none⟩ = some (str K) ∧ wx.cell? ⟨E1, 1, none⟩ = some (str V) ∧ wx.cell? ⟨E1, 2, none⟩ = some (.int .i64 Q) ∧ wx.cell? ⟨E1, 3, none⟩ = some (.bool D))) := fun wx hb => ⟨(KC.out wx hb).1.2.2.1, (KC.out wx hb).2⟩
              have P3 := KS.out _ B3d
              have P4 := KS.out _ BN
              have OA := hide ((own_laterV O3.out (Below.refl w3.heap.size w3).drew).alloc (entO ⟨K, V, Q, D⟩))
              have EN1 : Hid (EntsAt (w3.drew.alloc (entO ⟨K, V, Q, D⟩)) (.slice (some ⟨w3.heap.size, 0, none⟩) 1 1) [⟨K, V, Q, D⟩]) := ⟨⟨_, 1, rfl, fun _ => ⟨_, 0, rfl, fun i hi => by
                obtain rfl : i = 0 := by simpa using hi
                have hb0 : ∀ q, (w3.drew.alloc (entO ⟨K, V, Q, D⟩)).cell? ⟨w3.heap.size, q, none⟩ = (#[str K, str V, .int .i64 Q, .bool D] : Array Value)[q]? := fun q => Joins.cell_of_block (World.alloc_heap_new w3.drew _) q
                exact ⟨hb0 0, hb0 1, hb0 2, hb0 3⟩⟩⟩⟩
              have Z4 : Hid (X3.heap.size ≤ (w3.drew.alloc (entO ⟨K, V, Q, D⟩)).heap.size) := Nat.le_trans z3 ((Below.refl w3.heap.size w3).drew.alloc (Nat.le_refl _) _).size
              have KD : Hid ((n - j) = (es.drop j).length) := (by show _ = _; rw [List.length_drop, HN.out])
              have KDI : Hid ((n - j) = (ts.drop j).length) := (by show _ = _; rw [List.length_drop, HTL.out])
              have T1 : Hid True := trivial
              go_region_held3 (fun wx => (wx.cell? ⟨b, 2, none⟩ = some (.slice (some ⟨gl, 0, none⟩) n lc)) ∧ (wx.cell? ⟨E1, 0, none⟩ = some (str K) ∧ wx.cell? ⟨E1, 1, none⟩ = some (str V) ∧ wx.cell? ⟨E1, 2, none⟩ = some (.int .i64 Q) ∧ wx.cell? ⟨E1, 3, none⟩ = some (.bool D)))
                (first | exact P3 | exact P4 | exact P5 | exact P6)
                (first
                  | (have ta := T1.out; refine step_app_ents6 _ (by rfl) _ _ (by rfl) X3.heap.size g3 cap3 (es.take j) [⟨K, V, Q, D⟩] j 1 1 rfl (by rfl) OA.out (some ⟨w3.heap.size, 0, none⟩) (by rfl) EN1.out (by omega) Z4.out ?_; intro g4 cap4 w4 o4 gr4; have B4 : Below W.heap.size W w4 := BN.grown gr4 BN.size (fun k hk => (by cases hk; have := (O3.out.lt g3 rfl).1; have := BX3.size; omega)); have z4 : Hid (X3.heap.size ≤ w4.heap.size) := Nat.le_trans Z4.out gr4.size; have P5 := KS.out _ B4; have ED := hide (ents_drop (EA.out w4 B4) HN.out hj hcl.1); have O4 := hide o4; have T2 : Hid True := trivial; clear T1 ta o4 gr4)
                  | (have tb := T2.out; refine step_app_ents6 _ (by rfl) _ _ (by rfl) X3.heap.size g4 cap4 ((es.take j) ++ [⟨K, V, Q, D⟩]) (es.drop j) (j + 1) (n - j) (lc - j) KD.out (by rfl) O4.out _ (by rfl) ED.out (by omega) z4.out ?_; intro g5 cap5 w5 o5 gr5; have B5 : Below W.heap.size W w5 := B4.grown gr5 B4.size (fun k hk => (by cases hk; have := (O4.out.lt g4 rfl).1; have := BX3.size; omega)); have P6 := KS.out _ B5; have O5 := hide o5; clear T2 tb o5 gr5))
              clear P3 P4 P5 P6 OA EN1 Z4 O3 O4 ED z4 B3d BN B4
              have BT := B5.alloc B5.size (.cells #[] 3)
              obtain ⟨⟨-, -, -, c3⟩, -⟩ := KC.out _ BT
              have L1 : Hid ((w5.alloc (.cells #[] 3)).ownsRow w5.heap.size 3 1 (.slice (some ⟨w5.heap.size, 0, none⟩) 0 0) 0 (ics [])) := World.ownsRow_lit (size := 1) (e := 3) (base := w5.heap.size) w5 #[] 0 (Nat.le_refl _) (by unfold maxLen; omega) rfl
              have TF : Hid (IntsAt (w5.alloc (.cells #[] 3)) (.slice (some ⟨gt, 0, none⟩) j tc) (ts.take j)) := ints_take (TA.out _ BT) (by have := HTL.out; omega) tc (fun e => by cases e)
              have ZT : Hid (w5.heap.size ≤ (w5.alloc (.cells #[] 3)).heap.size) := ((Below.refl _ _).alloc (Nat.le_refl _) _).size
              have KTI : Hid (j = (ts.take j).length) := (by show _ = _; rw [List.length_take, HTL.out]; omega)
              go_wp2_with (at_builtin; refine wpList_app_ints _ rfl _ _ rfl w5.heap.size w5.heap.size 0 [] (ts.take j) 0 j tc rfl KTI.out rfl L1.out (some ⟨gt, 0, none⟩) rfl TF.out (by omega) ZT.out ?_; intro g6 cap6 w6 o6 gr6)
              have B6 : Below W.heap.size W w6 := BT.grown gr6 BT.size (fun k hk => by cases hk; exact B5.size)
              have C6 : Below w5.heap.size w5 w6 := ((Below.refl _ _).alloc (Nat.le_refl _) _).grown gr6 ZT.out (fun k hk => by cases hk; exact Nat.le_refl _)
              simp only [Nat.zero_add, List.nil_append] at o6 ⊢
              have O6 := hide o6
              clear o6 gr6 c3 L1 TF ZT BT
              have B6d := B6.drew
              have C6d := C6.drew
              have BM := B6d.alloc B6d.size (.cells #[.int .i64 Hh] 3)
              have CM := C6d.alloc C6d.size (.cells #[.int .i64 Hh] 3)
              have KS2 : Hid (∀ wx, Below W.heap.size W wx → wx.cell? ⟨b, 3, none⟩ = some (.slice (some ⟨gt, 0, none⟩) n tc)) := fun wx hb => (KC.out wx hb).1.2.2.2
              have P3 := KS2.out _ B6d
              have P4 := KS2.out _ BM
              have OA := hide ((own_laterV O6.out (Below.refl w6.heap.size w6).drew).alloc (.cells #[.int .i64 Hh] 3))
              have IN1 : Hid (IntsAt (w6.drew.alloc (.cells #[.int .i64 Hh] 3)) (.slice (some ⟨w6.heap.size, 0, none⟩) 1 1) [Hh]) := ⟨_, 1, rfl, (fun e => by cases e), fun _ => ⟨_, 0, rfl, fun i hi => by
                obtain rfl : i = 0 := by simpa using hi
                exact Joins.cell_of_block (World.alloc_heap_new w6.drew _) 0⟩⟩
              have T1 : Hid True := trivial
              go_region_held3 (fun wx => wx.cell? ⟨b, 3, none⟩ = some (.slice (some ⟨gt, 0, none⟩) n tc))
                (first | exact P3 | exact P4 | exact P5 | exact P6)
                (first
                  | (have ta := T1.out; refine step_app_ints6 _ (by rfl) _ _ (by rfl) w5.heap.size g6 cap6 (ts.take j) [Hh] j 1 1 rfl (by rfl) OA.out (some ⟨w6.heap.size, 0, none⟩) (by rfl) IN1.out (by omega) CM.size ?_; intro g7 cap7 w7 o7 gr7; have B7 : Below W.heap.size W w7 := BM.grown gr7 BM.size (fun k hk => (by cases hk; have := (O6.out.lt g6 rfl).1; have := B5.size; omega)); have C7 : Below w5.heap.size w5 w7 := CM.grown gr7 CM.size (fun k hk => (by cases hk; exact (O6.out.lt g6 rfl).1)); have P5 := KS2.out _ B7; have TD := hide (ints_drop (TA.out w7 B7) HTL.out.symm hj hct.1); have O7 := hide o7; have T2 : Hid True := trivial; clear T1 ta o7 gr7)
                  | (have tb := T2.out; refine step_app_ints6 _ (by rfl) _ _ (by rfl) w5.heap.size g7 cap7 ((ts.take j) ++ [Hh]) (ts.drop j) (j + 1) (n - j) (tc - j) KDI.out (by rfl) O7.out _ (by rfl) TD.out (by omega) C7.size ?_; intro g8 cap8 w8 o8 gr8; have B8 : Below W.heap.size W w8 := B7.grown gr8 B7.size (fun k hk => (by cases hk; have := (O7.out.lt g7 rfl).1; have := B5.size; omega)); have C8 : Below w5.heap.size w5 w8 := C7.grown gr8 C7.size (fun k hk => (by cases hk; exact (O7.out.lt g7 rfl).1)); have P6 := KS2.out _ B8; have O8 := hide o8; clear T2 tb o8 gr8))
              clear P3 P4 P5 P6 OA IN1 O6 O7 TD C7 CM C6d B6d BM B7
              obtain ⟨⟨-, -, c2, c3⟩, -⟩ := KC.out _ B8
              obtain ⟨f2, f3⟩ := FZ.out _ B8
              have FIN := hide (AddOut.done HR.out HM.out HTH.out HPO.out HJL.out (BB.out w8 B8).1 g5 cap5 g8 cap8 (j + 1 + (n - j)) (j + 1 + (n - j)) Hh HHh.out (by have := HN.out; omega) (by have := HN.out; omega) (own_lift (own_laterV O5.out C8) (BB.out X3 BX3).2) (own_lift O8.out (BB.out w5 B5).2) (Nat.le_trans (BB.out X3 BX3).1.size (O5.out.lt g5 rfl).1) (Nat.le_trans (BB.out w5 B5).1.size (O8.out.lt g8 rfl).1))
              clear KC EA TA FZ BB HR O5 O8
              go_wp2_with (fail)
              go_ret
              exact FIN.out
            · have HTH : Hid (Mm.thereR ⟨K, V, Q, D⟩ es = true) := by
                show _ = _
                rw [HTE.out]
                simp at hK hQ
                simp [hK, hQ]
              have HS : Hid (∀ w9, Below W.heap.size W w9 → AddOut base w b hv lv tv hs es ts ⟨K, V, Q, D⟩ (.returned (.int .i64 9)) w9) := fun w9 hb => AddOut.same HR.out (by rw [HTH.out]; simp) (BB.out w9 hb).1 9 (by unfold Mm.addRE; rw [HM.out, HTH.out]; rfl)
              clear HTE KK
              go_quiet (fail)
              go_wp2_with (fail)
              go_ret
              exact HS.out _ (below_drewN BX2 _)
        · have HA2 := hide (HA'.out rfl)
          clear PA TH HA'
          go_wp2_with (fail)
          go_region_held3 (fun wx => wx.cell? ⟨b, 2, none⟩ = some (.slice (some ⟨gl, 0, none⟩) n lc) ∧ (wx.cell? ⟨E1, 0, none⟩ = some (str K) ∧ wx.cell? ⟨E1, 1, none⟩ = some (str V) ∧ wx.cell? ⟨E1, 2, none⟩ = some (.int .i64 Q) ∧ wx.cell? ⟨E1, 3, none⟩ = some (.bool D)) ∧ (wx.cell? ⟨gl, j * 4, none⟩ = some (str Y.key) ∧ wx.cell? ⟨gl, j * 4 + 1, none⟩ = some (str Y.value) ∧ wx.cell? ⟨gl, j * 4 + 2, none⟩ = some (.int .i64 Y.seq) ∧ wx.cell? ⟨gl, j * 4 + 3, none⟩ = some (.bool Y.del)))
            (first | exact P1 | exact P2)
            (first
              | (go_at_call 14; refine (AHJ.out _).mono ?_; rintro r w8 ⟨rfl, b8⟩; have D8 := bx.drew.trans (b8.mono bx.drew.size); have P2 := KK.out _ D8))
          go_wp2_with (fail)
          exact ⟨⟨j + 1, by omega, by go_num, HA2, D8⟩, by simp [intOf]; omega⟩
      · have hd : decide ((j : Int) < (n : Int)) = false := by simp; omega
        have j1 : ¬ (j : Int) < (n : Int) := by omega
        have HPO : Hid (Mm.posR ⟨K, V, Q, D⟩ es = j) := by
          show _ = _
          have h := HA.out
          rw [List.take_of_length_le (by have := HN.out; omega)] at h
          rw [Mm.pos_end h]
          have := HN.out
          omega
        have HTH : Hid (Mm.thereR ⟨K, V, Q, D⟩ es = false) := by
          show _ = _
          unfold Mm.thereR
          rw [HPO.out, List.getElem?_eq_none (by have := HN.out; omega)]
        obtain ⟨⟨c0, c1, c2, c3⟩, e0, e1, e2, e3⟩ := KC.out wr bx
        clear HA
        go_wp2_with (fail)
        go_quiet (fail)
        obtain ⟨X2, hX2⟩ : ∃ X2, X2 = wr.drewN nq := ⟨_, rfl⟩
        have BX2 : Below W.heap.size W X2 := by rw [hX2]; exact below_drewN bx _
        rw [← hX2]
        clear hX2 c0 c1 c2 c3 e0 e1 e2 e3
        obtain ⟨⟨c0, c1, c2, c3⟩, e0, e1, e2, e3⟩ := KC.out X2 BX2
        go_wp2_with (fail)
        go_quiet (fail)
        clear c0 c1 c2 c3 e0 e1 e2 e3
        obtain ⟨X3, hX3⟩ : ∃ X3, X3 = X2.drewN nq := ⟨_, rfl⟩
        have BX3 : Below W.heap.size W X3 := by rw [hX3]; exact below_drewN BX2 _
        rw [← hX3]
        clear hX3
        have BA := BX3.alloc BX3.size (.cells #[] 38)
        have L0 : Hid ((X3.alloc (.cells #[] 38)).ownsRow X3.heap.size 38 4 (.slice (some ⟨X3.heap.size, 0, none⟩) 0 0) 0 (ecs [])) := World.ownsRow_lit (size := 4) (e := 38) (base := X3.heap.size) X3 #[] 0 (Nat.le_refl _) (by unfold maxLen; omega) rfl
        obtain ⟨⟨-, -, c2, -⟩, -⟩ := KC.out _ BA
        have EF : Hid (EntsAt (X3.alloc (.cells #[] 38)) (.slice (some ⟨gl, 0, none⟩) j lc) (es.take j)) := ents_take (EA.out _ BA) (by have := HN.out; omega) lc
        have ZA : Hid (X3.heap.size ≤ (X3.alloc (.cells #[] 38)).heap.size) := ((Below.refl _ _).alloc (Nat.le_refl _) _).size
        have KT : Hid (j = (es.take j).length) := (by show _ = _; rw [List.length_take]; have := HN.out; omega)
        go_wp2_with (at_builtin; refine wpList_app_ents6 _ rfl _ _ rfl X3.heap.size X3.heap.size 0 [] (es.take j) 0 j lc KT.out rfl L0.out (some ⟨gl, 0, none⟩) rfl EF.out (by omega) ZA.out ?_; intro g3 cap3 w3 o3 gr3)
        have B3 : Below W.heap.size W w3 := BA.grown gr3 BA.size (fun k hk => by cases hk; exact BX3.size)
        simp only [Nat.zero_add, List.nil_append] at o3 ⊢
        have O3 := hide o3
        have z3 : X3.heap.size ≤ w3.heap.size := Nat.le_trans ZA.out gr3.size
        clear o3 gr3 c2 L0 EF ZA BA
        have B3d := B3.drew
        have BN := B3d.alloc B3d.size (entO ⟨K, V, Q, D⟩)
        have KS : Hid (∀ wx, Below W.heap.size W wx → (wx.cell? ⟨b, 2, none⟩ = some (.slice (some ⟨gl, 0, none⟩) n lc)) ∧ (wx.cell? ⟨E1, 0, none⟩ = some (str K) ∧ wx.cell? ⟨E1, 1, none⟩ = some (str V) ∧ wx.cell? ⟨E1, 2, none⟩ = some (.int .i64 Q) ∧ wx.cell? ⟨E1, 3, none⟩ = some (.bool D))) := fun wx hb => ⟨(KC.out wx hb).1.2.2.1, (KC.out wx hb).2⟩
        have P3 := KS.out _ B3d
        have P4 := KS.out _ BN
        have OA := hide ((own_laterV O3.out (Below.refl w3.heap.size w3).drew).alloc (entO ⟨K, V, Q, D⟩))
        have EN1 : Hid (EntsAt (w3.drew.alloc (entO ⟨K, V, Q, D⟩)) (.slice (some ⟨w3.heap.size, 0, none⟩) 1 1) [⟨K, V, Q, D⟩]) := ⟨⟨_, 1, rfl, fun _ => ⟨_, 0, rfl, fun i hi => by
          obtain rfl : i = 0 := by simpa using hi
          have hb0 : ∀ q, (w3.drew.alloc (entO ⟨K, V, Q, D⟩)).cell? ⟨w3.heap.size, q, none⟩ = (#[str K, str V, .int .i64 Q, .bool D] : Array Value)[q]? := fun q => Joins.cell_of_block (World.alloc_heap_new w3.drew _) q
          exact ⟨hb0 0, hb0 1, hb0 2, hb0 3⟩⟩⟩⟩
        have Z4 : Hid (X3.heap.size ≤ (w3.drew.alloc (entO ⟨K, V, Q, D⟩)).heap.size) := Nat.le_trans z3 ((Below.refl w3.heap.size w3).drew.alloc (Nat.le_refl _) _).size
        have KD : Hid ((n - j) = (es.drop j).length) := (by show _ = _; rw [List.length_drop, HN.out])
        have KDI : Hid ((n - j) = (ts.drop j).length) := (by show _ = _; rw [List.length_drop, HTL.out])
        have T1 : Hid True := trivial
        go_region_held3 (fun wx => (wx.cell? ⟨b, 2, none⟩ = some (.slice (some ⟨gl, 0, none⟩) n lc)) ∧ (wx.cell? ⟨E1, 0, none⟩ = some (str K) ∧ wx.cell? ⟨E1, 1, none⟩ = some (str V) ∧ wx.cell? ⟨E1, 2, none⟩ = some (.int .i64 Q) ∧ wx.cell? ⟨E1, 3, none⟩ = some (.bool D)))
          (first | exact P3 | exact P4 | exact P5 | exact P6)
          (first
            | (have ta := T1.out; refine step_app_ents6 _ (by rfl) _ _ (by rfl) X3.heap.size g3 cap3 (es.take j) [⟨K, V, Q, D⟩] j 1 1 rfl (by rfl) OA.out (some ⟨w3.heap.size, 0, none⟩) (by rfl) EN1.out (by omega) Z4.out ?_; intro g4 cap4 w4 o4 gr4; have B4 : Below W.heap.size W w4 := BN.grown gr4 BN.size (fun k hk => (by cases hk; have := (O3.out.lt g3 rfl).1; have := BX3.size; omega)); have z4 : Hid (X3.heap.size ≤ w4.heap.size) := Nat.le_trans Z4.out gr4.size; have P5 := KS.out _ B4; have ED := hide (ents_drop (EA.out w4 B4) HN.out hj hcl.1); have O4 := hide o4; have T2 : Hid True := trivial; clear T1 ta o4 gr4)
            | (have tb := T2.out; refine step_app_ents6 _ (by rfl) _ _ (by rfl) X3.heap.size g4 cap4 ((es.take j) ++ [⟨K, V, Q, D⟩]) (es.drop j) (j + 1) (n - j) (lc - j) KD.out (by rfl) O4.out _ (by rfl) ED.out (by omega) z4.out ?_; intro g5 cap5 w5 o5 gr5; have B5 : Below W.heap.size W w5 := B4.grown gr5 B4.size (fun k hk => (by cases hk; have := (O4.out.lt g4 rfl).1; have := BX3.size; omega)); have P6 := KS.out _ B5; have O5 := hide o5; clear T2 tb o5 gr5))
        clear P3 P4 P5 P6 OA EN1 Z4 O3 O4 ED z4 B3d BN B4
        generalize (if lc = j then (some ⟨gl, 0, none⟩ : Option Addr) else some ⟨gl, j * 4, none⟩) = AO
        have BT := B5.alloc B5.size (.cells #[] 3)
        obtain ⟨⟨-, -, -, c3⟩, -⟩ := KC.out _ BT
        have L1 : Hid ((w5.alloc (.cells #[] 3)).ownsRow w5.heap.size 3 1 (.slice (some ⟨w5.heap.size, 0, none⟩) 0 0) 0 (ics [])) := World.ownsRow_lit (size := 1) (e := 3) (base := w5.heap.size) w5 #[] 0 (Nat.le_refl _) (by unfold maxLen; omega) rfl
        have TF : Hid (IntsAt (w5.alloc (.cells #[] 3)) (.slice (some ⟨gt, 0, none⟩) j tc) (ts.take j)) := ints_take (TA.out _ BT) (by have := HTL.out; omega) tc (fun e => by cases e)
        have ZT : Hid (w5.heap.size ≤ (w5.alloc (.cells #[] 3)).heap.size) := ((Below.refl _ _).alloc (Nat.le_refl _) _).size
        have KTI : Hid (j = (ts.take j).length) := (by show _ = _; rw [List.length_take, HTL.out]; omega)
        go_wp2_with (at_builtin; refine wpList_app_ints _ rfl _ _ rfl w5.heap.size w5.heap.size 0 [] (ts.take j) 0 j tc rfl KTI.out rfl L1.out (some ⟨gt, 0, none⟩) rfl TF.out (by omega) ZT.out ?_; intro g6 cap6 w6 o6 gr6)
        have B6 : Below W.heap.size W w6 := BT.grown gr6 BT.size (fun k hk => by cases hk; exact B5.size)
        have C6 : Below w5.heap.size w5 w6 := ((Below.refl _ _).alloc (Nat.le_refl _) _).grown gr6 ZT.out (fun k hk => by cases hk; exact Nat.le_refl _)
        simp only [Nat.zero_add, List.nil_append] at o6 ⊢
        have O6 := hide o6
        clear o6 gr6 c3 L1 TF ZT BT
        have B6d := B6.drew
        have C6d := C6.drew
        have BM := B6d.alloc B6d.size (.cells #[.int .i64 Hh] 3)
        have CM := C6d.alloc C6d.size (.cells #[.int .i64 Hh] 3)
        have KS2 : Hid (∀ wx, Below W.heap.size W wx → wx.cell? ⟨b, 3, none⟩ = some (.slice (some ⟨gt, 0, none⟩) n tc)) := fun wx hb => (KC.out wx hb).1.2.2.2
        have P3 := KS2.out _ B6d
        have P4 := KS2.out _ BM
        have OA := hide ((own_laterV O6.out (Below.refl w6.heap.size w6).drew).alloc (.cells #[.int .i64 Hh] 3))
        have IN1 : Hid (IntsAt (w6.drew.alloc (.cells #[.int .i64 Hh] 3)) (.slice (some ⟨w6.heap.size, 0, none⟩) 1 1) [Hh]) := ⟨_, 1, rfl, (fun e => by cases e), fun _ => ⟨_, 0, rfl, fun i hi => by
          obtain rfl : i = 0 := by simpa using hi
          exact Joins.cell_of_block (World.alloc_heap_new w6.drew _) 0⟩⟩
        have T1 : Hid True := trivial
        go_region_held3 (fun wx => wx.cell? ⟨b, 3, none⟩ = some (.slice (some ⟨gt, 0, none⟩) n tc))
          (first | exact P3 | exact P4 | exact P5 | exact P6)
          (first
            | (have ta := T1.out; refine step_app_ints6 _ (by rfl) _ _ (by rfl) w5.heap.size g6 cap6 (ts.take j) [Hh] j 1 1 rfl (by rfl) OA.out (some ⟨w6.heap.size, 0, none⟩) (by rfl) IN1.out (by omega) CM.size ?_; intro g7 cap7 w7 o7 gr7; have B7 : Below W.heap.size W w7 := BM.grown gr7 BM.size (fun k hk => (by cases hk; have := (O6.out.lt g6 rfl).1; have := B5.size; omega)); have C7 : Below w5.heap.size w5 w7 := CM.grown gr7 CM.size (fun k hk => (by cases hk; exact (O6.out.lt g6 rfl).1)); have P5 := KS2.out _ B7; have TD := hide (ints_drop (TA.out w7 B7) HTL.out.symm hj hct.1); have O7 := hide o7; have T2 : Hid True := trivial; clear T1 ta o7 gr7)
            | (have tb := T2.out; refine step_app_ints6 _ (by rfl) _ _ (by rfl) w5.heap.size g7 cap7 ((ts.take j) ++ [Hh]) (ts.drop j) (j + 1) (n - j) (tc - j) KDI.out (by rfl) O7.out _ (by rfl) TD.out (by omega) C7.size ?_; intro g8 cap8 w8 o8 gr8; have B8 : Below W.heap.size W w8 := B7.grown gr8 B7.size (fun k hk => (by cases hk; have := (O7.out.lt g7 rfl).1; have := B5.size; omega)); have C8 : Below w5.heap.size w5 w8 := C7.grown gr8 C7.size (fun k hk => (by cases hk; exact (O7.out.lt g7 rfl).1)); have P6 := KS2.out _ B8; have O8 := hide o8; clear T2 tb o8 gr8))
        clear P3 P4 P5 P6 OA IN1 O6 O7 TD C7 CM C6d B6d BM B7
        generalize (if tc = j then (some ⟨gt, 0, none⟩ : Option Addr) else some ⟨gt, j, none⟩) = AT
        obtain ⟨⟨-, -, c2, c3⟩, -⟩ := KC.out _ B8
        obtain ⟨f2, f3⟩ := FZ.out _ B8
        have FIN := hide (AddOut.done HR.out HM.out HTH.out HPO.out HJL.out (BB.out w8 B8).1 g5 cap5 g8 cap8 (j + 1 + (n - j)) (j + 1 + (n - j)) Hh HHh.out (by have := HN.out; omega) (by have := HN.out; omega) (own_lift (own_laterV O5.out C8) (BB.out X3 BX3).2) (own_lift O8.out (BB.out w5 B5).2) (Nat.le_trans (BB.out X3 BX3).1.size (O5.out.lt g5 rfl).1) (Nat.le_trans (BB.out w5 B5).1.size (O8.out.lt g8 rfl).1))
        clear KC EA TA FZ BB HR O5 O8
        go_wp2_with (fail)
        go_ret
        exact FIN.out
end Go.Proofs.Ytbdgdigpnfpnhaa.Q
