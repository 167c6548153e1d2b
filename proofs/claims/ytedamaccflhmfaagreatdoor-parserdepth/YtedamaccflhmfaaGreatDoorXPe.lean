/-
  Package parser: primary. .. and what follows from it.
-/
import Derived.Test.YtedamaccflhmfaaGreatDoorPsK
namespace Go.Proofs.YtedamaccflhmfaaGreatDoor
open Go.RowKit
attribute [local go_sem ↓] Go.wp_at_zero Go.wp_at_succ

theorem primary_is (sub : Ps.Lv → List Lx.Tk → Ps.R Ps.Ex) (l : List Lx.Tk) (p : Nat) : Ps.primary sub (l.drop p) =
    if (headT (l.drop p)).k == 2 then (Ps.number 9223372036854775807 (l.drop p)).map fun n => Ps.lit ⟨2, n, ⟨#[]⟩⟩
    else if (headT (l.drop p)).k == 3 then .ok (Ps.lit ⟨3, 0, ⟨(headT (l.drop p)).t.toArray⟩⟩) (l.drop (p + 1))
    else if Ps.has [116, 114, 117, 101] (l.drop p) then .ok (Ps.lit ⟨1, 1, ⟨#[]⟩⟩) (l.drop (p + 1))
    else if Ps.has [102, 97, 108, 115, 101] (l.drop p) then .ok (Ps.lit ⟨1, 0, ⟨#[]⟩⟩) (l.drop (p + 1))
    else if Ps.has [110, 117, 108, 108] (l.drop p) then .ok (Ps.lit Ps.zeroV) (l.drop (p + 1))
    else if Ps.has [40] (l.drop p) then sub .enclosed (l.drop p)
    else if Ps.has [99, 111, 117, 110, 116] (l.drop p) then sub .count (l.drop p)
    else match Ps.aggs.find? fun a => Ps.has a.2 (l.drop p) with
      | some a => (sub .argument (l.drop p)).map (Ps.one a.1)
      | none => Ps.column (l.drop p) := by
  by_cases h : p < l.length
  · rw [List.drop_eq_getElem_cons h]; rfl
  · rw [List.drop_of_length_le (by omega), List.drop_of_length_le (by omega)]; rfl
theorem slTwo {w : World} {B : Nat} {x y : Value} {t : TypeId} (h : w.heap[B]? = some (.cells #[x, y] t (0, 0))) : w.cell? ⟨B, 0, none⟩ = some x ∧ w.cell? ⟨B, 1, none⟩ = some y ∧ B < w.heap.size :=
  ⟨Joins.cell_of_block h 0, Joins.cell_of_block h 1, (Array.getElem?_eq_some_iff.1 h).1⟩
def aggsA : Value := .agg #[.int .u8 22, .string ⟨#[99, 111, 117, 110, 116]⟩, .int .u8 23, .string ⟨#[115, 117, 109]⟩, .int .u8 24, .string ⟨#[109, 105, 110]⟩, .int .u8 25, .string ⟨#[109, 97, 120]⟩]
set_option maxRecDepth 100000 in
theorem aggs_index (j : Nat) (hj : j < 4) : ∃ (o : Int) (s : List UInt8), Ps.aggs[j]? = some (o, s) ∧ ∀ w, (Instr.index 201 aggsA (.int .i64 j)).run Tryz.prog w = .ok (.agg #[.int .u8 o, .string ⟨s.toArray⟩]) w := by
  match j, hj with
  | 0, _ => exact ⟨_, _, rfl, fun _ => rfl⟩
  | 1, _ => exact ⟨_, _, rfl, fun _ => rfl⟩
  | 2, _ => exact ⟨_, _, rfl, fun _ => rfl⟩
  | 3, _ => exact ⟨_, _, rfl, fun _ => rfl⟩
  | n + 4, h => omega
theorem info_aggs : (Tryz.prog.info? 201).map (·.size) = some aggsC.toArray.size := by kernel_rfl

set_option maxHeartbeats 6400000 in
theorem primary_any {B : Nat} {l : List Lx.Tk} {len d : Nat} {sub : Ps.Lv → List Lx.Tk → Ps.R Ps.Ex} (hde : Deep 209 .enclosed B l len d sub) (hdc : Deep 210 .count B l len d sub) (hda : Deep 211 .argument B l len d sub) : Reads 206 B l len d (Ps.primary sub) := fun w p h => by
  have DE := hide hde
  have DC := hide hdc
  have DA := hide hda
  have HS := hide (hass_any B l len d)
  have TK := hide (takes_any B l len d)
  have CO := hide (fun wx q hx => column_any wx B l q len d hx)
  have NU : Hid (∀ wx, Rd wx B l p len d → Calls Tryz.prog 128 #[.pointer (some ⟨B, 0, none⟩), .int .u64 9223372036854775807] wx (Ans natIs B l len d wx p (Ps.number 9223372036854775807 (l.drop p)))) := fun wx hx => number_any wx B l p len d hx 9223372036854775807
  have NX := hide (fun wx hx => next_any wx B l p len d hx)
  have HE : Hid (_ = _) := primary_is sub l p
  have HL : Hid ((headT (l.drop p)).k = 3 → p < l.length) := head_lt (by decide)
  obtain ⟨x, hx⟩ : ∃ x, x = headT (l.drop p) := ⟨_, rfl⟩
  rw [← hx] at NX HE HL
  obtain ⟨xs, hxs⟩ : ∃ xs : ByteArray, xs = ⟨x.t.toArray⟩ := ⟨_, rfl⟩
  have NX2 : Hid (∀ wx, Rd wx B l p len d → Calls Tryz.prog 135 #[.pointer (some ⟨B, 0, none⟩)] wx fun e w' => e = .returned (.agg #[.int .u8 x.k, .string xs, .int .u64 x.n, .int .i64 x.at']) ∧ Below wx.heap.size wx w') := by rw [hxs]; exact NX
  rw [← hxs] at HE
  obtain ⟨k, hk⟩ : ∃ k, k = x.k := ⟨_, rfl⟩
  rw [← hk] at NX2 HE HL
  clear NX hxs hx hk hde hdc hda
  have H0 := hide h
  have hne : w.heap.size ≠ B := ne_of_lt' h.lt
  have HB := hide h.lt
  have hll := h.ll
  have hpl := h.pl
  clear h
  by_cases hk2 : k = 2
  · subst hk2
    have HE2 : Hid (Ps.primary sub (l.drop p) = (Ps.number 9223372036854775807 (l.drop p)).map fun n => Ps.lit ⟨2, n, ⟨#[]⟩⟩) := HE.out
    clear HE HL
    go_enter Tryz.func206, Tryz.ntmps206
    go_wp2_with (first
      | (go_at_call 135; refine (NX2.out _ (H0.out.alloc _)).mono ?_; rintro e w2 ⟨rfl, hb2⟩; have HR2 := hide ((H0.out.alloc (.cells #[.int .u8 0, .int .u8 0, .int .i64 0, .string ⟨#[]⟩, .string ⟨#[]⟩, .string ⟨#[]⟩, .int .i64 0, .int .u8 0, .slice none 0 0] 34)).later hb2 |>.alloc (.cells #[.int .u8 2, .string xs, .int .u64 x.n, .int .i64 x.at'] 60)); have Z2 := alloc_keeps ((hb2.block _ (by simp)).trans (heap_new (w := w) rfl)) (.cells #[.int .u8 2, .string xs, .int .u64 x.n, .int .i64 x.at'] 60); have hlt2 : w.heap.size < w2.heap.size := (by have := hb2.size; simp at this; omega); obtain ⟨v0, u0, u1, u2, u3, g0, g1, g2, g3, hltB⟩ := HR2.out.cells; have nb1 : ¬ B = w2.heap.size := (by have := HB.out; omega); have nb2 : ¬ w2.heap.size = B := (by have := HB.out; omega))
      | (go_at_call 128; refine (NU.out _ HR2.out).mono ?_; rintro e w4 hA; rcases hA.elim with ⟨nn, q4, V, hq, rfl, rfl, hp4, hr4, hs4⟩ | ⟨c4, ts4, hq, rfl, hs4⟩ <;> (have HQ4 := hide hq; clear hq hA); have HR4 := hide hr4; have Z4 := hs4.keeps Z2 hne; clear hr4)
      | (go_at_call 208; rw [wrap_pos (number_ok HQ4.out)]; refine (literal_at _ _ _ _).mono ?_; rintro e w5 ⟨rfl, hb5⟩; have Z5 := (hb5.block _ (Array.getElem?_eq_some_iff.1 Z4).1).trans Z4; obtain ⟨⟨za0, za1, za2, za3, za4, za5, za6, za7, za8⟩, ⟨zb0, zb1, zb2, zb3, zb4, zb5, zb6, zb7, zb8⟩, _⟩ := sl9 Z5))
    · exact ret_ex rfl rfl rfl Z5 (S := .slice none 0 0) (x := Ps.lit ⟨2, nn, ⟨#[]⟩⟩) (p' := q4) (by rw [HE2.out, HQ4.out]; rfl) ((((((Steps.refl B w).alloc _).then hb2).alloc _).trans hs4).then hb5) (Nat.le_refl _) HB.out (P := Fr (w.heap.size + 1)) (Nat.not_succ_le_self _) (fun _ hk => Nat.le_of_succ_le hk) (lit_ex _ _ _) (by omega) (HR4.out.later hb5) rfl
    · exact bodyPost_thrown rfl (by rw [show Ps.primary sub (l.drop p) = .no c4 ts4 from by rw [HE2.out, HQ4.out]; rfl]; exact Ans.no (((((Steps.refl B w).alloc _).then hb2).alloc _).trans hs4))
  · by_cases hk3 : k = 3
    · subst hk3
      have HE2 : Hid (Ps.primary sub (l.drop p) = .ok (Ps.lit ⟨3, 0, xs⟩) (l.drop (p + 1))) := HE.out
      have hplt : p < l.length := HL.out rfl
      clear HE HL hk2
      go_enter Tryz.func206, Tryz.ntmps206
      go_wp2_with (first
        | (go_at_call 135; refine (NX2.out _ (H0.out.alloc _)).mono ?_; rintro e w2 ⟨rfl, hb2⟩; have HR2 := hide ((H0.out.alloc (.cells #[.int .u8 0, .int .u8 0, .int .i64 0, .string ⟨#[]⟩, .string ⟨#[]⟩, .string ⟨#[]⟩, .int .i64 0, .int .u8 0, .slice none 0 0] 34)).later hb2 |>.alloc (.cells #[.int .u8 3, .string xs, .int .u64 x.n, .int .i64 x.at'] 60)); have Z2 := alloc_keeps ((hb2.block _ (by simp)).trans (heap_new (w := w) rfl)) (.cells #[.int .u8 3, .string xs, .int .u64 x.n, .int .i64 x.at'] 60); have hlt2 : w.heap.size < w2.heap.size := (by have := hb2.size; simp at this; omega); obtain ⟨v0, u0, u1, u2, u3, g0, g1, g2, g3, hltB⟩ := HR2.out.cells; have nb1 : ¬ B = w2.heap.size := (by have := HB.out; omega); have nb2 : ¬ w2.heap.size = B := (by have := HB.out; omega))
        | (go_at_call 208; refine (literal_at _ _ _ _).mono ?_; rintro e w5 ⟨rfl, hb5⟩; have Z5 := (hb5.block _ (Array.getElem?_eq_some_iff.1 (heap_set_other Z2 hne _)).1).trans (heap_set_other Z2 hne (.int .i64 ((p + 1 : Nat) : Int))); obtain ⟨⟨za0, za1, za2, za3, za4, za5, za6, za7, za8⟩, ⟨zb0, zb1, zb2, zb3, zb4, zb5, zb6, zb7, zb8⟩, _⟩ := sl9 Z5))
      exact ret_ex rfl rfl rfl Z5 (S := .slice none 0 0) (p' := p + 1) HE2.out ((((((Steps.refl B w).alloc _).then hb2).alloc _).setCell (p := ⟨B, 1, none⟩) (.inr rfl) _).then hb5) (Nat.le_refl _) HB.out (P := Fr (w.heap.size + 1)) (Nat.not_succ_le_self _) (fun _ hk => Nat.le_of_succ_le hk) (lit_ex _ _ _) (by omega) ((HR2.out.put (q := p + 1) hplt).later hb5) rfl
    · have e2 : (k == 2) = false := by simpa using hk2
      have e3 : (k == 3) = false := by simpa using hk3
      rw [e2, e3] at HE
      clear HL
      go_enter Tryz.func206, Tryz.ntmps206
      go_wp2_with (first
        | (go_at_call 135; refine (NX2.out _ (H0.out.alloc _)).mono ?_; rintro e w2 ⟨rfl, hb2⟩; have HR2 := hide ((H0.out.alloc (.cells #[.int .u8 0, .int .u8 0, .int .i64 0, .string ⟨#[]⟩, .string ⟨#[]⟩, .string ⟨#[]⟩, .int .i64 0, .int .u8 0, .slice none 0 0] 34)).later hb2 |>.alloc (.cells #[.int .u8 k, .string xs, .int .u64 x.n, .int .i64 x.at'] 60)); have Z2 := alloc_keeps ((hb2.block _ (by simp)).trans (heap_new (w := w) rfl)) (.cells #[.int .u8 k, .string xs, .int .u64 x.n, .int .i64 x.at'] 60); have hlt2 : w.heap.size < w2.heap.size := (by have := hb2.size; simp at this; omega); obtain ⟨v0, u0, u1, u2, u3, g0, g1, g2, g3, hltB⟩ := HR2.out.cells; have nb1 : ¬ B = w2.heap.size := (by have := HB.out; omega); have nb2 : ¬ w2.heap.size = B := (by have := HB.out; omega))
        | (go_at_call 50; refine (TK.out _ _ _ HR4.out).mono ?_; rintro e w5 (⟨h5, rfl, hr5, hs5⟩ | ⟨h5, rfl, hr5, hs5⟩) <;> (have HR5 := hide hr5; have HQ5 := hide h5; have Z5 := hs5.keeps Z4 hne; clear h5 hr5))
        | (go_at_call 50; refine (TK.out _ _ _ HR3.out).mono ?_; rintro e w4 (⟨h4, rfl, hr4, hs4⟩ | ⟨h4, rfl, hr4, hs4⟩) <;> (have HR4 := hide hr4; have HQ4 := hide h4; have Z4 := hs4.keeps Z3 hne; clear h4 hr4))
        | (go_at_call 50; refine (TK.out _ _ _ HR2.out).mono ?_; rintro e w3 (⟨h3, rfl, hr3, hs3⟩ | ⟨h3, rfl, hr3, hs3⟩) <;> (have HR3 := hide hr3; have HQ3 := hide h3; have Z3 := hs3.keeps Z2 hne; clear h3 hr3))
        | (go_at_call 81; refine (HS.out _ _ _ HR6.out).mono ?_; rintro e w7 ⟨hb7, ⟨h7, rfl⟩ | ⟨h7, rfl⟩⟩ <;> (have HQ7 := hide h7; clear h7; have HR7 := hide (HR6.out.later hb7); have Z7 := (hb7.block _ (Array.getElem?_eq_some_iff.1 Z6).1).trans Z6))
        | (go_at_call 81; refine (HS.out _ _ _ HR5.out).mono ?_; rintro e w6 ⟨hb6, ⟨h6, rfl⟩ | ⟨h6, rfl⟩⟩ <;> (have HQ6 := hide h6; clear h6; have HR6 := hide (HR5.out.later hb6); have Z6 := (hb6.block _ (Array.getElem?_eq_some_iff.1 Z5).1).trans Z5))
        | (go_at_call 171; refine (DC.out _ _ HR7.out (has_lt HQ7.out)).mono ?_; rintro e w8 hA; rcases hA.laid with (⟨o1, k1, n1, t1, tb1, nm1, sl1, kd1, ag1, sa1, sc1, q1, hq, rfl, hx1, hp1, hr1, hs1⟩ | ⟨c1, ts1, hq, rfl, hs1⟩) <;> (have HQ8 := hide hq; clear hq hA); have HR8 := hide hr1; have HX := hide hx1; have Z8 := hs1.keeps Z7 hne; obtain ⟨⟨za0, za1, za2, za3, za4, za5, za6, za7, za8⟩, ⟨zb0, zb1, zb2, zb3, zb4, zb5, zb6, zb7, zb8⟩, _⟩ := sl9 Z8; clear hr1 hx1)
        | (go_at_call 171; refine (DE.out _ _ HR6.out (has_lt HQ6.out)).mono ?_; rintro e w7 hA; rcases hA.laid with (⟨o1, k1, n1, t1, tb1, nm1, sl1, kd1, ag1, sa1, sc1, q1, hq, rfl, hx1, hp1, hr1, hs1⟩ | ⟨c1, ts1, hq, rfl, hs1⟩) <;> (have HQ7 := hide hq; clear hq hA); have HR7 := hide hr1; have HX := hide hx1; have Z7 := hs1.keeps Z6 hne; obtain ⟨⟨za0, za1, za2, za3, za4, za5, za6, za7, za8⟩, ⟨zb0, zb1, zb2, zb3, zb4, zb5, zb6, zb7, zb8⟩, _⟩ := sl9 Z7; clear hr1 hx1)
        | (go_at_call 208; refine (literal_at _ _ _ _).mono ?_; rintro e wl ⟨rfl, hbl⟩; (first | have ZL := (hbl.block _ (Array.getElem?_eq_some_iff.1 Z5).1).trans Z5 | have ZL := (hbl.block _ (Array.getElem?_eq_some_iff.1 Z4).1).trans Z4 | have ZL := (hbl.block _ (Array.getElem?_eq_some_iff.1 Z3).1).trans Z3); obtain ⟨⟨za0, za1, za2, za3, za4, za5, za6, za7, za8⟩, ⟨zb0, zb1, zb2, zb3, zb4, zb5, zb6, zb7, zb8⟩, _⟩ := sl9 ZL)
        | (refine wpList_load_row rfl 201 (.global 4) rfl 4 rfl _ _ _ _ HR7.out.tab.aggs Tryz.underlying201 rfl info_aggs ?_))
      · exact ret_ex rfl rfl rfl ZL (S := .slice none 0 0) (x := Ps.lit ⟨1, 1, ⟨#[]⟩⟩) (p' := p + 1) (HE.out.trans (by rw [if_neg (by decide), if_neg (by decide), if_pos HQ3.out])) ((((((Steps.refl B w).alloc _).then hb2).alloc _).trans hs3).then hbl) (Nat.le_refl _) HB.out (P := Fr (w.heap.size + 1)) (Nat.not_succ_le_self _) (fun _ hk => Nat.le_of_succ_le hk) (lit_ex _ _ _) (by omega) (HR3.out.later hbl) rfl
      · exact ret_ex rfl rfl rfl ZL (S := .slice none 0 0) (x := Ps.lit ⟨1, 0, ⟨#[]⟩⟩) (p' := p + 1) (HE.out.trans (by rw [if_neg (by decide), if_neg (by decide), if_neg (by rw [show Ps.has [116, 114, 117, 101] (l.drop p) = false from HQ3.out]; decide), if_pos HQ4.out])) ((((((Steps.refl B w).alloc _).then hb2).alloc _).trans (hs3.trans hs4)).then hbl) (Nat.le_refl _) HB.out (P := Fr (w.heap.size + 1)) (Nat.not_succ_le_self _) (fun _ hk => Nat.le_of_succ_le hk) (lit_ex _ _ _) (by omega) (HR4.out.later hbl) rfl
      · exact ret_ex rfl rfl rfl ZL (S := .slice none 0 0) (x := Ps.lit Ps.zeroV) (p' := p + 1) (HE.out.trans (by rw [if_neg (by decide), if_neg (by decide), if_neg (by rw [show Ps.has [116, 114, 117, 101] (l.drop p) = false from HQ3.out]; decide), if_neg (by rw [show Ps.has [102, 97, 108, 115, 101] (l.drop p) = false from HQ4.out]; decide), if_pos HQ5.out])) ((((((Steps.refl B w).alloc _).then hb2).alloc _).trans (hs3.trans (hs4.trans hs5))).then hbl) (Nat.le_refl _) HB.out (P := Fr (w.heap.size + 1)) (Nat.not_succ_le_self _) (fun _ hk => Nat.le_of_succ_le hk) (lit_ex _ _ _) (by omega) (HR5.out.later hbl) rfl
      · refine ret_ex rfl rfl rfl Z7 (x := (Ps.Ex.mk o1 ⟨k1, n1, t1⟩ tb1 nm1 sl1 kd1 ag1) ) (S := .slice sa1 ag1.length sc1) (p' := q1) (HE.out.trans (by rw [if_neg (by decide), if_neg (by decide), if_neg (by rw [show Ps.has [116, 114, 117, 101] (l.drop p) = false from HQ3.out]; decide), if_neg (by rw [show Ps.has [102, 97, 108, 115, 101] (l.drop p) = false from HQ4.out]; decide), if_neg (by rw [show Ps.has [110, 117, 108, 108] (l.drop p) = false from HQ5.out]; decide), if_pos HQ6.out]; exact HQ7.out)) (((((((Steps.refl B w).alloc _).then hb2).alloc _).trans (hs3.trans (hs4.trans hs5))).then hb6).trans hs1) (Nat.le_refl _) HB.out (P := Fr (w.heap.size + 1)) (Nat.not_succ_le_self _) (fun _ hk => Nat.le_of_succ_le hk) ?_ (by omega) HR7.out rfl
        exact ExAt.mono (fun k hk => Nat.le_trans (Nat.lt_of_lt_of_le hlt2 (Nat.le_trans ((((step_alloc B w2 _).trans (hs3.trans (hs4.trans hs5))).then hb6)).size (Nat.le_refl _))) hk) _ _ HX.out
      · exact bodyPost_thrown rfl (by rw [show Ps.primary sub (l.drop p) = .no c1 ts1 from HE.out.trans (by rw [if_neg (by decide), if_neg (by decide), if_neg (by rw [show Ps.has [116, 114, 117, 101] (l.drop p) = false from HQ3.out]; decide), if_neg (by rw [show Ps.has [102, 97, 108, 115, 101] (l.drop p) = false from HQ4.out]; decide), if_neg (by rw [show Ps.has [110, 117, 108, 108] (l.drop p) = false from HQ5.out]; decide), if_pos HQ6.out]; exact HQ7.out)]; exact Ans.no (((((((Steps.refl B w).alloc _).then hb2).alloc _).trans (hs3.trans (hs4.trans hs5))).then hb6).trans hs1))
      · refine ret_ex rfl rfl rfl Z8 (x := (Ps.Ex.mk o1 ⟨k1, n1, t1⟩ tb1 nm1 sl1 kd1 ag1) ) (S := .slice sa1 ag1.length sc1) (p' := q1) (HE.out.trans (by rw [if_neg (by decide), if_neg (by decide), if_neg (by rw [show Ps.has [116, 114, 117, 101] (l.drop p) = false from HQ3.out]; decide), if_neg (by rw [show Ps.has [102, 97, 108, 115, 101] (l.drop p) = false from HQ4.out]; decide), if_neg (by rw [show Ps.has [110, 117, 108, 108] (l.drop p) = false from HQ5.out]; decide), if_neg (by rw [show Ps.has [40] (l.drop p) = false from HQ6.out]; decide), if_pos HQ7.out]; exact HQ8.out)) ((((((((Steps.refl B w).alloc _).then hb2).alloc _).trans (hs3.trans (hs4.trans hs5))).then hb6).then hb7).trans hs1) (Nat.le_refl _) HB.out (P := Fr (w.heap.size + 1)) (Nat.not_succ_le_self _) (fun _ hk => Nat.le_of_succ_le hk) ?_ (by omega) HR8.out rfl
        exact ExAt.mono (fun k hk => Nat.le_trans (Nat.lt_of_lt_of_le hlt2 (Nat.le_trans ((((step_alloc B w2 _).trans (hs3.trans (hs4.trans hs5))).then hb6).then hb7).size (Nat.le_refl _))) hk) _ _ HX.out
      · exact bodyPost_thrown rfl (by rw [show Ps.primary sub (l.drop p) = .no c1 ts1 from HE.out.trans (by rw [if_neg (by decide), if_neg (by decide), if_neg (by rw [show Ps.has [116, 114, 117, 101] (l.drop p) = false from HQ3.out]; decide), if_neg (by rw [show Ps.has [102, 97, 108, 115, 101] (l.drop p) = false from HQ4.out]; decide), if_neg (by rw [show Ps.has [110, 117, 108, 108] (l.drop p) = false from HQ5.out]; decide), if_neg (by rw [show Ps.has [40] (l.drop p) = false from HQ6.out]; decide), if_pos HQ7.out]; exact HQ8.out)]; exact Ans.no ((((((((Steps.refl B w).alloc _).then hb2).alloc _).trans (hs3.trans (hs4.trans hs5))).then hb6).then hb7).trans hs1))
      · have HP : Hid (Ps.primary sub (l.drop p) = match Ps.aggs.find? fun a => Ps.has a.2 (l.drop p) with
            | some a => (sub .argument (l.drop p)).map (Ps.one a.1)
            | none => Ps.column (l.drop p)) := HE.out.trans (by rw [if_neg (by decide), if_neg (by decide), if_neg (by rw [show Ps.has [116, 114, 117, 101] (l.drop p) = false from HQ3.out]; decide), if_neg (by rw [show Ps.has [102, 97, 108, 115, 101] (l.drop p) = false from HQ4.out]; decide), if_neg (by rw [show Ps.has [110, 117, 108, 108] (l.drop p) = false from HQ5.out]; decide), if_neg (by rw [show Ps.has [40] (l.drop p) = false from HQ6.out]; decide), if_neg (by rw [show Ps.has [99, 111, 117, 110, 116] (l.drop p) = false from HQ7.out]; decide)])
        have HST := hide (((((((Steps.refl B w).alloc _).then hb2).alloc _).trans (hs3.trans (hs4.trans hs5))).then hb6).then hb7)
        have hlt7 : w.heap.size < w7.heap.size := Nat.lt_of_lt_of_le hlt2 ((((step_alloc B w2 (.cells #[.int .u8 k, .string xs, .int .u64 x.n, .int .i64 x.at'] 60)).trans (hs3.trans (hs4.trans hs5))).then hb6).then hb7).size
        have HZ7 := hide Z7
        rw [show Value.agg aggsC.toArray = aggsA from rfl]
        obtain ⟨A, hA⟩ : ∃ A, A = aggsA := ⟨_, rfl⟩
        rw [← hA]
        have HA := hide hA
        clear hA HE HQ3 HQ4 HQ5 HQ6 HQ7 HR3 HR4 HR5 HR6 HR2 Z2 Z3 Z4 Z5 Z6 Z7 hs3 hs4 hs5 hb6 hb7 hb2 nb1 nb2 u0 u1 u2 u3 g0 g1 g2 g3 hltB e2 e3 hk2 hk3 DE DC TK NU NX2 hlt2
        clear H0
        go_loopw [62] (fun i wr => ∃ j : Nat, i = .int .i64 j ∧ j ≤ 4 ∧ Rd wr B l p len d ∧ Steps B w7 wr ∧ wr.heap[w.heap.size]? = some (.cells #[.int .u8 0, .int .u8 0, .int .i64 0, .string ⟨#[]⟩, .string ⟨#[]⟩, .string ⟨#[]⟩, .int .i64 0, .int .u8 0, .slice none 0 0] 34 (0, 0)) ∧ Hid (((Ps.aggs.drop j).find? fun a => Ps.has a.2 (l.drop p)) = Ps.aggs.find? fun a => Ps.has a.2 (l.drop p))) (fun i _ => 4 - (intOf i).toNat)
        case atStart => exact ⟨0, rfl, by omega, HR7.out, Steps.refl _ _, HZ7.out, rfl⟩
        case round =>
          clear HZ7 HR7
          obtain ⟨j, rfl, hj, hR, hS, hZ, HF⟩ := hrel
          have HR := hide hR
          have HSR := hide hS
          have HZR := hide hZ
          clear hR hS hZ
          by_cases hlt : j < 4
          · obtain ⟨o, s, hg, hix⟩ := aggs_index j hlt
            rw [← HA.out] at hix
            have hd : Ps.aggs.drop j = (o, s) :: Ps.aggs.drop (j + 1) := by
              obtain ⟨h1, h2⟩ := List.getElem?_eq_some_iff.1 hg
              rw [List.drop_eq_getElem_cons h1, h2]
            have HF2 := HF.out
            rw [hd, List.find?_cons] at HF2
            have F1 : Hid (Ps.has s (l.drop p) = true → (Ps.aggs.find? fun a => Ps.has a.2 (l.drop p)) = some (o, s)) := fun e => by rw [← HF2, e]
            have F2 : Hid (Ps.has s (l.drop p) = false → ((Ps.aggs.drop (j + 1)).find? fun a => Ps.has a.2 (l.drop p)) = Ps.aggs.find? fun a => Ps.has a.2 (l.drop p)) := fun e => by rw [← HF2, e]
            have HS2 : Hid (∀ wx, Rd wx B l p len d → Calls Tryz.prog 81 #[.pointer (some ⟨B, 0, none⟩), .string ⟨s.toArray⟩] wx fun e w' => Below wx.heap.size wx w' ∧ ((Ps.has s (l.drop p) = true ∧ e = .returned (.bool true)) ∨ (Ps.has s (l.drop p) = false ∧ e = .returned (.bool false)))) := fun wx hx => HS.out wx p ⟨s.toArray⟩ hx
            obtain ⟨ss, hss⟩ : ∃ ss : ByteArray, ss = ⟨s.toArray⟩ := ⟨_, rfl⟩
            rw [← hss] at hix HS2
            have hneT : wr.heap.size ≠ B := ne_of_lt' HR.out.lt
            have hltT : w.heap.size < wr.heap.size := Nat.lt_of_lt_of_le hlt7 HSR.out.size
            clear hg hd HF2 hss HF HS
            go_wp2_with (go_at_call 81; refine (HS2.out _ (HR.out.alloc _)).mono ?_; rintro e w8 ⟨hb8, ⟨h8, rfl⟩ | ⟨h8, rfl⟩⟩ <;> (have HQ8 := hide h8; clear h8; have HR8 := hide ((HR.out.alloc _).later hb8); have T8 := (hb8.block _ (by simp)).trans (heap_new (w := wr) rfl); have Z8 := (hb8.block _ (by simp; omega)).trans (alloc_keeps HZR.out _); obtain ⟨t0, t1, tl⟩ := slTwo T8))
            · have HPT : Hid (Ps.primary sub (l.drop p) = (sub .argument (l.drop p)).map (Ps.one o)) := by
                show _ = _
                rw [HP.out, F1.out HQ8.out]
              have HST8 := hide (HST.out.trans (HSR.out.trans ((step_alloc B wr _).then hb8)))
              rcases hq9 : sub .argument (l.drop p) with ⟨⟨o2, ⟨k2, n2, t2⟩, tb2, nm2, sl2, kd2, ag2⟩, ts2⟩ | ⟨c9, ts9⟩
              · have LO : Hid (∀ wx, Rd wx B l p len d → Calls Tryz.prog 171 #[.pointer (some ⟨B, 0, none⟩), .func (.func 211) #[.pointer (some ⟨B, 0, none⟩)] #[]] wx fun e w' => ∃ sa2 sc2 q2, ts2 = l.drop q2 ∧ e = .returned (.agg #[.int .u8 o2, .int .u8 k2, .int .i64 n2, .string t2, .string ⟨tb2.toArray⟩, .string ⟨nm2.toArray⟩, .int .i64 sl2, .int .u8 kd2, .slice sa2 ag2.length sc2]) ∧ ExAt (Fr wx.heap.size) w' (Ps.Ex.mk o2 ⟨k2, n2, t2⟩ tb2 nm2 sl2 kd2 ag2) (.slice sa2 ag2.length sc2) ∧ p ≤ q2 ∧ Rd w' B l q2 len d ∧ Steps B wx w') := fun wx hx => (DA.out wx p hx (has_lt HQ8.out)).mono fun e w' hA => by
                  rw [hq9] at hA
                  obtain ⟨p', V, ht, he, hi, hp', hr', hs'⟩ := hA.of_ok
                  obtain ⟨a, c, hV, hx'⟩ := hi.laid
                  exact ⟨a, c, p', ht, by rw [he, hV], hx', hp', hr', hs'⟩
                rw [hq9] at HPT
                clear hq9
                go_region_with (first
                  | (go_at_call 170; refine (ofOne_at _ _ _ _ _ _ _ _ _ _ _ _ _ (Fr (w.heap.size + 1)) (fun k hk => ?_) ?_).mono ?_; exact (Nat.le_trans (Nat.lt_of_lt_of_le hltT (Nat.le_of_lt tl9)) hk); exact ExAt.mono (fun k hk => Nat.le_trans (Nat.lt_of_lt_of_le hltT (Nat.le_of_lt tl)) hk) _ _ HY.out; rintro e wa ⟨ya, yc, rfl, hy, hba⟩; have HYA := hide hy; clear hy; have ZA := (hba.block _ (Array.getElem?_eq_some_iff.1 Z9).1).trans Z9; obtain ⟨⟨za0, za1, za2, za3, za4, za5, za6, za7, za8⟩, ⟨zb0, zb1, zb2, zb3, zb4, zb5, zb6, zb7, zb8⟩, _⟩ := sl9 ZA)
                  | (go_at_call 171; refine (LO.out _ (HR8.out.later (Below.refl _ _).drew)).mono ?_; rintro e w9 ⟨sa2, sc2, q2, ht, rfl, hy, hp2, hr9, hs9⟩; have HTS := hide ht; have HR9 := hide hr9; have HY := hide hy; clear ht hr9 hy; have T9 := hs9.keeps (show w8.drew.heap[wr.heap.size]? = _ from T8) hneT; have Z9 := hs9.keeps (show w8.drew.heap[w.heap.size]? = _ from Z8) hne; obtain ⟨r0, r1, tl9⟩ := slTwo T9))
                all_goals
                  go_wp2_with (fail)
                  refine ret_ex rfl rfl rfl ZA (S := .slice ya 1 yc) (x := Ps.one o (Ps.Ex.mk o2 ⟨k2, n2, t2⟩ tb2 nm2 sl2 kd2 ag2) ) (p' := q2) (by rw [HPT.out, ← HTS.out]; rfl) ((HST8.out.drew.trans hs9).then hba) (Nat.le_refl _) HB.out (P := Fr (w.heap.size + 1)) (Nat.not_succ_le_self _) (fun _ hk => Nat.le_of_succ_le hk) HYA.out (by omega) (HR9.out.later hba) rfl
              · have NR : Hid (∀ wx, Rd wx B l p len d → Calls Tryz.prog 171 #[.pointer (some ⟨B, 0, none⟩), .func (.func 211) #[.pointer (some ⟨B, 0, none⟩)] #[]] wx (Ans exIs B l len d wx p (.no c9 ts9))) := fun wx hx => by rw [← hq9]; exact DA.out wx _ hx (has_lt HQ8.out)
                rw [hq9] at HPT
                refine wp_region_any (by kernel_rfl) ?_
                change wpAny _ _ _ _ _ _ _ (World.drew _)
                refine wpAny_take (i := 0) (v := ?vz0_0) rfl (by kernel_rfl) (by kernel_rfl) (by kernel_rfl) (fun _ _ _ h => h) (Or.inl ⟨by rfl, ?hyz0_0⟩) ?restz0_0
                case hyz0_0 => (intro w; go_simp; try with_reducible rfl)
                refine wpAny_take (i := 2) (v := ?vz1_2) rfl (by kernel_rfl) (by kernel_rfl) (by kernel_rfl) (fun _ _ _ h => h) (Or.inl ⟨by rfl, ?hyz1_2⟩) ?restz1_2
                case hyz1_2 => (intro w; go_simp; try with_reducible rfl)
                refine wpAny_take (i := 3) (v := ?vz2_3) rfl (by kernel_rfl) (by kernel_rfl) (by kernel_rfl) (fun _ _ _ h => h) (Or.inl ⟨by rfl, ?hyz2_3⟩) ?restz2_3
                case hyz2_3 => (intro w; go_simp; try with_reducible rfl)
                refine wpAny_ready (rs := [1, 4]) (by kernel_rfl) (by simp) ?_
                refine AllReady.cons rfl (fun K hK => ?_) ?morez1
                · go_simp
                  refine hK _ _ ?_
                  clear hK K
                  refine wpAny_ready (rs := [4]) (by kernel_rfl) (by simp) ?_
                  refine AllReady.cons rfl (fun K hK => ?_) AllReady.nil
                  go_simp
                  refine hK _ _ ?_
                  clear hK K
                  refine wpAny_ready (rs := [5]) (by kernel_rfl) (by simp) ?_
                  refine AllReady.cons rfl (fun K hK => ?_) AllReady.nil
                  go_simp
                  refine (NR.out _ (HR8.out.later (Below.refl _ _).drew)).mono ?_
                  rintro e wz hA
                  obtain ⟨rfl, hsz⟩ := hA.of_no
                  exact bodyPost_thrown (P := Tryz.prog) (fn := Tryz.f206) (R := Ans exIs B l len d w p (Ps.primary sub (l.drop p))) rfl (by rw [HPT.out]; exact Ans.no (HST8.out.drew.trans hsz))
                refine AllReady.cons rfl (fun K hK => ?_) AllReady.nil
                go_simp
                refine hK _ _ ?_
                clear hK K
                refine wpAny_ready (rs := [1, 5]) (by kernel_rfl) (by simp) ?_
                refine AllReady.cons rfl (fun K hK => ?_) ?morez5
                · go_simp
                  refine hK _ _ ?_
                  clear hK K
                  refine wpAny_ready (rs := [5]) (by kernel_rfl) (by simp) ?_
                  refine AllReady.cons rfl (fun K hK => ?_) AllReady.nil
                  go_simp
                  refine (NR.out _ (HR8.out.later (Below.refl _ _).drew)).mono ?_
                  rintro e wz hA
                  obtain ⟨rfl, hsz⟩ := hA.of_no
                  exact bodyPost_thrown (P := Tryz.prog) (fn := Tryz.f206) (R := Ans exIs B l len d w p (Ps.primary sub (l.drop p))) rfl (by rw [HPT.out]; exact Ans.no (HST8.out.drew.trans hsz))
                refine AllReady.cons rfl (fun K hK => ?_) AllReady.nil
                go_simp
                refine (NR.out _ (HR8.out.later (Below.refl _ _).drew)).mono ?_
                rintro e wz hA
                obtain ⟨rfl, hsz⟩ := hA.of_no
                exact bodyPost_thrown (P := Tryz.prog) (fn := Tryz.f206) (R := Ans exIs B l len d w p (Ps.primary sub (l.drop p))) rfl (by rw [HPT.out]; exact Ans.no (HST8.out.drew.trans hsz))
            · exact ⟨⟨j + 1, rfl, by omega, HR8.out, HSR.out.trans ((step_alloc B wr _).then hb8), Z8, F2.out HQ8.out⟩, by simp [intOf]; omega⟩
          · have e4 : j = 4 := by omega
            subst e4
            have HPT : Hid (Ps.primary sub (l.drop p) = Ps.column (l.drop p)) := by
              have e := HF.out
              show _ = _
              rw [HP.out, ← e]
              rfl
            go_wp2_with (go_at_call 125; refine (CO.out _ _ HR.out).mono ?_; rintro e w9 hA; rcases hA.laid with (⟨o1, k1, n1, t1, tb1, nm1, sl1, kd1, ag1, sa1, sc1, q1, hq, rfl, hx1, hp1, hr1, hs1⟩ | ⟨c1, ts1, hq, rfl, hs1⟩) <;> (have HQ9 := hide hq; clear hq hA); have HR9 := hide hr1; have HX := hide hx1; have Z9 := hs1.keeps HZR.out hne; obtain ⟨⟨za0, za1, za2, za3, za4, za5, za6, za7, za8⟩, ⟨zb0, zb1, zb2, zb3, zb4, zb5, zb6, zb7, zb8⟩, _⟩ := sl9 Z9; clear hr1 hx1)
            · refine ret_ex rfl rfl rfl Z9 (x := (Ps.Ex.mk o1 ⟨k1, n1, t1⟩ tb1 nm1 sl1 kd1 ag1) ) (S := .slice sa1 ag1.length sc1) (p' := q1) (HPT.out.trans HQ9.out) ((HST.out.trans HSR.out).trans hs1) (Nat.le_refl _) HB.out (P := Fr (w.heap.size + 1)) (Nat.not_succ_le_self _) (fun _ hk => Nat.le_of_succ_le hk) ?_ (by omega) HR9.out rfl
              exact ExAt.mono (fun k hk => Nat.le_trans (Nat.lt_of_lt_of_le hlt7 HSR.out.size) hk) _ _ HX.out
            · exact bodyPost_thrown rfl (by rw [HPT.out.trans HQ9.out]; exact Ans.no ((HST.out.trans HSR.out).trans hs1))
end Go.Proofs.YtedamaccflhmfaaGreatDoor
namespace Go.Proofs.YtedamaccflhmfaaGreatDoor
open Go.RowKit

/-- The functions of the levels. -/
def fidOf : Ps.Lv → FuncId
  | .not => 139
  | .unary => 203
  | .enclosed => 209
  | .argument => 211
  | .count => 210
theorem eg_of (lv : Ps.Lv) (args : Array Value) (w : World) : (callFunc (fidOf lv) args).run Tryz.prog w = .ok (.enter (fidOf lv) args) w := by
  cases lv
  · exact eg_not args w
  · exact eg_unary args w
  · exact eg_enclosed args w
  · exact eg_argument args w
  · exact eg_count args w
/-- All that is read at one depth. -/
structure Lvls (B : Nat) (l : List Lx.Tk) (len d : Nat) (sub : Ps.Lv → List Lx.Tk → Ps.R Ps.Ex) : Prop where
  expr : Reads 54 B l len d (Ps.expr sub)
  lev : ∀ lv, Reads (fidOf lv) B l len d (Ps.lev sub lv)
theorem lvls_of {B : Nat} {l : List Lx.Tk} {len d : Nat} {sub : Ps.Lv → List Lx.Tk → Ps.R Ps.Ex} (h : ∀ lv, Deep (fidOf lv) lv B l len d sub) : Lvls B l len d sub := by
  have pr := primary_any (h .enclosed) (h .count) (h .argument)
  have un := unary_any (h .unary) pr
  have pd := product_any un
  have sm := sum_any pd
  have cm := compare_any sm
  have nt := not_any (h .not) cm
  have an := and_any nt
  have ex := expr_any an
  have en := enclosed_any ex
  have ag := argument_any en
  have ct := count_any en
  refine ⟨ex, fun lv => ?_⟩
  cases lv
  · exact nt
  · exact un
  · exact en
  · exact ag
  · exact ct
theorem deep_all (B : Nat) (l : List Lx.Tk) (len : Nat) : ∀ (k d : Nat), d + k = 40 → ∀ lv, Deep (fidOf lv) lv B l len d (Ps.deeper k)
  | 0, d, hd, lv => fun wx q hx hq => by
    have e : d = 40 := by omega
    subst e
    exact deeper_end (fidOf lv) wx B l q len hx
  | k + 1, d, hd, lv => fun wx q hx hq => by
    have ih := lvls_of (deep_all B l len k (d + 1) (by omega))
    have h := deeper_any (fidOf lv) (eg_of lv) _ wx B l q len d hx (by omega) hq (ih.lev lv)
    rw [← List.tail_drop] at h
    exact h
/-- An expression, at the start of a statement's part. -/
theorem expr_all (B : Nat) (l : List Lx.Tk) (len : Nat) : Reads 54 B l len 0 Ps.exprT := (lvls_of (deep_all B l len 40 0 rfl)).expr
end Go.Proofs.YtedamaccflhmfaaGreatDoor
