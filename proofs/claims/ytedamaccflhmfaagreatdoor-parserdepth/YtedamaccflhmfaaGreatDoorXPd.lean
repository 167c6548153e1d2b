/-
  Package parser: product, sum, and, expr, enclosed. .. and what follows from it.
-/
import Derived.Test.YtedamaccflhmfaaGreatDoorXPc
namespace Go.Proofs.YtedamaccflhmfaaGreatDoor
open Go.RowKit
attribute [local go_sem ↓] Go.wp_at_zero Go.wp_at_succ
set_option maxRecDepth 100000 in
theorem eg_unary (args : Array Value) (w : World) : (callFunc 203 args).run Tryz.prog w = .ok (.enter 203 args) w := rfl
set_option maxRecDepth 100000 in
theorem eg_product (args : Array Value) (w : World) : (callFunc 196 args).run Tryz.prog w = .ok (.enter 196 args) w := rfl
set_option maxRecDepth 100000 in
theorem eg_not (args : Array Value) (w : World) : (callFunc 139 args).run Tryz.prog w = .ok (.enter 139 args) w := rfl
set_option maxRecDepth 100000 in
theorem eg_and (args : Array Value) (w : World) : (callFunc 85 args).run Tryz.prog w = .ok (.enter 85 args) w := rfl
set_option maxRecDepth 100000 in
theorem eg_enclosed (args : Array Value) (w : World) : (callFunc 209 args).run Tryz.prog w = .ok (.enter 209 args) w := rfl
set_option maxRecDepth 100000 in
theorem eg_argument (args : Array Value) (w : World) : (callFunc 211 args).run Tryz.prog w = .ok (.enter 211 args) w := rfl
set_option maxRecDepth 100000 in
theorem eg_count (args : Array Value) (w : World) : (callFunc 210 args).run Tryz.prog w = .ok (.enter 210 args) w := rfl

theorem fr_alloc {w w' : World} {o : Obj} {x : Ps.Ex} {S : Value} (h : ExAt (Fr (w.alloc o).heap.size) w' x S) : ExAt (Fr (w.heap.size + 1)) w' x S := ExAt.mono (fun k hk => by have h2 : _ ≤ k := hk; show _ ≤ k; simpa using h2) _ _ h

set_option maxHeartbeats 6400000 in
theorem product_any {B : Nat} {l : List Lx.Tk} {len d : Nat} {sub : Ps.Lv → List Lx.Tk → Ps.R Ps.Ex} (hlow : Reads 203 B l len d (Ps.unary sub)) : Reads 196 B l len d (Ps.product sub) := fun w p h => by
  have CL : Hid (∀ wx, Rd wx B l p len d → Calls Tryz.prog 84 #[.pointer (some ⟨B, 0, none⟩), .int .i64 5, .func (.func 203) #[.pointer (some ⟨B, 0, none⟩)] #[]] wx (Ans exIs B l len d wx p (Ps.product sub (l.drop p)))) := fun wx hx => (chain_any 203 eg_unary _ wx B l p len d 5 hx (by decide) hlow)
  have H0 := hide h
  have hne : w.heap.size ≠ B := ne_of_lt' h.lt
  have HB := hide h.lt
  obtain ⟨R, hR⟩ : ∃ R, R = Ps.product sub (l.drop p) := ⟨_, rfl⟩
  rw [← hR] at CL ⊢
  clear h hR hlow
  go_enter Tryz.func196, Tryz.ntmps196
  go_wp2_with (go_at_call 84; refine (CL.out _ (H0.out.alloc _)).mono ?_; rintro e w2 hA; rcases hA.laid with (⟨o1, k1, n1, t1, tb1, nm1, sl1, kd1, ag1, sa1, sc1, q1, hq, rfl, hx1, hp1, hr1, hs1⟩ | ⟨c1, ts1, hq, rfl, hs1⟩) <;> (have HQ := hide hq; clear hq hA); have HR2 := hide hr1; have HX := hide (fr_alloc hx1); have Z2 := hs1.keeps (heap_new rfl) hne; obtain ⟨⟨za0, za1, za2, za3, za4, za5, za6, za7, za8⟩, ⟨zb0, zb1, zb2, zb3, zb4, zb5, zb6, zb7, zb8⟩, _⟩ := sl9 Z2; clear hr1 hx1)
  · exact ret_ex rfl rfl rfl Z2 HQ.out (((Steps.refl B w).alloc _).trans hs1) (Nat.le_refl _) HB.out (P := Fr (w.heap.size + 1)) (Nat.not_succ_le_self _) (fun _ hk => Nat.le_of_succ_le hk) HX.out hp1 HR2.out rfl
  · exact bodyPost_thrown rfl (by rw [HQ.out]; exact Ans.no (((Steps.refl B w).alloc _).trans hs1))

set_option maxHeartbeats 6400000 in
theorem sum_any {B : Nat} {l : List Lx.Tk} {len d : Nat} {sub : Ps.Lv → List Lx.Tk → Ps.R Ps.Ex} (hlow : Reads 196 B l len d (Ps.product sub)) : Reads 186 B l len d (Ps.sum sub) := fun w p h => by
  have CL : Hid (∀ wx, Rd wx B l p len d → Calls Tryz.prog 84 #[.pointer (some ⟨B, 0, none⟩), .int .i64 4, .func (.func 196) #[.pointer (some ⟨B, 0, none⟩)] #[]] wx (Ans exIs B l len d wx p (Ps.sum sub (l.drop p)))) := fun wx hx => (chain_any 196 eg_product _ wx B l p len d 4 hx (by decide) hlow)
  have H0 := hide h
  have hne : w.heap.size ≠ B := ne_of_lt' h.lt
  have HB := hide h.lt
  obtain ⟨R, hR⟩ : ∃ R, R = Ps.sum sub (l.drop p) := ⟨_, rfl⟩
  rw [← hR] at CL ⊢
  clear h hR hlow
  go_enter Tryz.func186, Tryz.ntmps186
  go_wp2_with (go_at_call 84; refine (CL.out _ (H0.out.alloc _)).mono ?_; rintro e w2 hA; rcases hA.laid with (⟨o1, k1, n1, t1, tb1, nm1, sl1, kd1, ag1, sa1, sc1, q1, hq, rfl, hx1, hp1, hr1, hs1⟩ | ⟨c1, ts1, hq, rfl, hs1⟩) <;> (have HQ := hide hq; clear hq hA); have HR2 := hide hr1; have HX := hide (fr_alloc hx1); have Z2 := hs1.keeps (heap_new rfl) hne; obtain ⟨⟨za0, za1, za2, za3, za4, za5, za6, za7, za8⟩, ⟨zb0, zb1, zb2, zb3, zb4, zb5, zb6, zb7, zb8⟩, _⟩ := sl9 Z2; clear hr1 hx1)
  · exact ret_ex rfl rfl rfl Z2 HQ.out (((Steps.refl B w).alloc _).trans hs1) (Nat.le_refl _) HB.out (P := Fr (w.heap.size + 1)) (Nat.not_succ_le_self _) (fun _ hk => Nat.le_of_succ_le hk) HX.out hp1 HR2.out rfl
  · exact bodyPost_thrown rfl (by rw [HQ.out]; exact Ans.no (((Steps.refl B w).alloc _).trans hs1))

set_option maxHeartbeats 6400000 in
theorem and_any {B : Nat} {l : List Lx.Tk} {len d : Nat} {sub : Ps.Lv → List Lx.Tk → Ps.R Ps.Ex} (hlow : Reads 139 B l len d (Ps.not sub)) : Reads 85 B l len d (Ps.and sub) := fun w p h => by
  have CL : Hid (∀ wx, Rd wx B l p len d → Calls Tryz.prog 84 #[.pointer (some ⟨B, 0, none⟩), .int .i64 1, .func (.func 139) #[.pointer (some ⟨B, 0, none⟩)] #[]] wx (Ans exIs B l len d wx p (Ps.and sub (l.drop p)))) := fun wx hx => (chain_any 139 eg_not _ wx B l p len d 1 hx (by decide) hlow)
  have H0 := hide h
  have hne : w.heap.size ≠ B := ne_of_lt' h.lt
  have HB := hide h.lt
  obtain ⟨R, hR⟩ : ∃ R, R = Ps.and sub (l.drop p) := ⟨_, rfl⟩
  rw [← hR] at CL ⊢
  clear h hR hlow
  go_enter Tryz.func85, Tryz.ntmps85
  go_wp2_with (go_at_call 84; refine (CL.out _ (H0.out.alloc _)).mono ?_; rintro e w2 hA; rcases hA.laid with (⟨o1, k1, n1, t1, tb1, nm1, sl1, kd1, ag1, sa1, sc1, q1, hq, rfl, hx1, hp1, hr1, hs1⟩ | ⟨c1, ts1, hq, rfl, hs1⟩) <;> (have HQ := hide hq; clear hq hA); have HR2 := hide hr1; have HX := hide (fr_alloc hx1); have Z2 := hs1.keeps (heap_new rfl) hne; obtain ⟨⟨za0, za1, za2, za3, za4, za5, za6, za7, za8⟩, ⟨zb0, zb1, zb2, zb3, zb4, zb5, zb6, zb7, zb8⟩, _⟩ := sl9 Z2; clear hr1 hx1)
  · exact ret_ex rfl rfl rfl Z2 HQ.out (((Steps.refl B w).alloc _).trans hs1) (Nat.le_refl _) HB.out (P := Fr (w.heap.size + 1)) (Nat.not_succ_le_self _) (fun _ hk => Nat.le_of_succ_le hk) HX.out hp1 HR2.out rfl
  · exact bodyPost_thrown rfl (by rw [HQ.out]; exact Ans.no (((Steps.refl B w).alloc _).trans hs1))

set_option maxHeartbeats 6400000 in
theorem expr_any {B : Nat} {l : List Lx.Tk} {len d : Nat} {sub : Ps.Lv → List Lx.Tk → Ps.R Ps.Ex} (hlow : Reads 85 B l len d (Ps.and sub)) : Reads 54 B l len d (Ps.expr sub) := fun w p h => by
  have CL : Hid (∀ wx, Rd wx B l p len d → Calls Tryz.prog 84 #[.pointer (some ⟨B, 0, none⟩), .int .i64 0, .func (.func 85) #[.pointer (some ⟨B, 0, none⟩)] #[]] wx (Ans exIs B l len d wx p (Ps.expr sub (l.drop p)))) := fun wx hx => (chain_any 85 eg_and _ wx B l p len d 0 hx (by decide) hlow)
  have H0 := hide h
  have hne : w.heap.size ≠ B := ne_of_lt' h.lt
  have HB := hide h.lt
  obtain ⟨R, hR⟩ : ∃ R, R = Ps.expr sub (l.drop p) := ⟨_, rfl⟩
  rw [← hR] at CL ⊢
  clear h hR hlow
  go_enter Tryz.func54, Tryz.ntmps54
  go_wp2_with (go_at_call 84; refine (CL.out _ (H0.out.alloc _)).mono ?_; rintro e w2 hA; rcases hA.laid with (⟨o1, k1, n1, t1, tb1, nm1, sl1, kd1, ag1, sa1, sc1, q1, hq, rfl, hx1, hp1, hr1, hs1⟩ | ⟨c1, ts1, hq, rfl, hs1⟩) <;> (have HQ := hide hq; clear hq hA); have HR2 := hide hr1; have HX := hide (fr_alloc hx1); have Z2 := hs1.keeps (heap_new rfl) hne; obtain ⟨⟨za0, za1, za2, za3, za4, za5, za6, za7, za8⟩, ⟨zb0, zb1, zb2, zb3, zb4, zb5, zb6, zb7, zb8⟩, _⟩ := sl9 Z2; clear hr1 hx1)
  · exact ret_ex rfl rfl rfl Z2 HQ.out (((Steps.refl B w).alloc _).trans hs1) (Nat.le_refl _) HB.out (P := Fr (w.heap.size + 1)) (Nat.not_succ_le_self _) (fun _ hk => Nat.le_of_succ_le hk) HX.out hp1 HR2.out rfl
  · exact bodyPost_thrown rfl (by rw [HQ.out]; exact Ans.no (((Steps.refl B w).alloc _).trans hs1))

set_option maxHeartbeats 6400000 in
theorem enclosed_any {B : Nat} {l : List Lx.Tk} {len d : Nat} {sub : Ps.Lv → List Lx.Tk → Ps.R Ps.Ex} (hlow : Reads 54 B l len d (Ps.expr sub)) : Reads 209 B l len d (Ps.enclosed sub) := fun w p h => by
  have CL := hide (fun wx hx => hlow wx p hx)
  have WN := hide (wanted_any B l len d)
  have H0 := hide h
  have hne : w.heap.size ≠ B := ne_of_lt' h.lt
  have HB := hide h.lt
  clear h hlow
  go_enter Tryz.func209, Tryz.ntmps209
  go_wp2_with (first
    | (go_at_call 54; refine (CL.out _ (H0.out.alloc _)).mono ?_; rintro e w2 hA; rcases hA.laid with (⟨o1, k1, n1, t1, tb1, nm1, sl1, kd1, ag1, sa1, sc1, q1, hq, rfl, hx1, hp1, hr1, hs1⟩ | ⟨c1, ts1, hq, rfl, hs1⟩) <;> (have HQ := hide hq; clear hq hA); have HR2 := hide hr1; have HX := hide (fr_alloc hx1); have Z2 := hs1.keeps (heap_new rfl) hne; clear hr1 hx1)
    | (go_at_call 79; refine (WN.out _ _ _ _ ((HR2.out.alloc _).alloc _) (heap_new (by simp))).mono ?_; rintro e w3 hA; rcases hA.elim with ⟨u, q2, V, hq, rfl, rfl, hp2, hr2, hs2⟩ | ⟨c, ts, hq, rfl, hs2⟩ <;> (have HQ2 := hide hq; clear hq hA); have HR3 := hide hr2; have X3 := hs2.keeps (alloc_keeps (heap_new rfl) _) (ne_of_lt' HR2.out.lt); have Z3 := hs2.keeps (alloc_keeps (alloc_keeps Z2 _) _) hne; obtain ⟨⟨xa0, xa1, xa2, xa3, xa4, xa5, xa6, xa7, xa8⟩, ⟨xb0, xb1, xb2, xb3, xb4, xb5, xb6, xb7, xb8⟩, _⟩ := sl9 X3; obtain ⟨⟨za0, za1, za2, za3, za4, za5, za6, za7, za8⟩, ⟨zb0, zb1, zb2, zb3, zb4, zb5, zb6, zb7, zb8⟩, _⟩ := sl9 Z3; clear hr2))
  · have e : Ps.enclosed sub (l.drop p) = .ok (Ps.Ex.mk o1 ⟨k1, n1, t1⟩ tb1 nm1 sl1 kd1 ag1) (l.drop q2) := by rw [Ps.enclosed, HQ.out]; exact congrArg (fun z => Ps.R.map z fun _ => (Ps.Ex.mk o1 ⟨k1, n1, t1⟩ tb1 nm1 sl1 kd1 ag1) ) HQ2.out
    refine ret_ex rfl rfl rfl Z3 e ((((Steps.refl B w).alloc _).trans hs1).trans ((((Steps.refl B w2).alloc _).alloc _).trans hs2)) (Nat.le_refl _) HB.out (P := Fr (w.heap.size + 1)) (Nat.not_succ_le_self _) (fun _ hk => Nat.le_of_succ_le hk) ?_ (by omega) HR3.out rfl
    exact ExAt.keep (Kept.steps (((((Steps.refl B w2).alloc _).alloc _).trans hs2)) (fun h => absurd h (by have := HB.out; show ¬ w.heap.size + 1 ≤ B; omega))) (fun _ h _ => h) _ _ HX.out
  · have e : Ps.enclosed sub (l.drop p) = .no c ts := by rw [Ps.enclosed, HQ.out]; exact congrArg (fun z => Ps.R.map z fun _ => (Ps.Ex.mk o1 ⟨k1, n1, t1⟩ tb1 nm1 sl1 kd1 ag1) ) HQ2.out
    exact bodyPost_thrown rfl (by rw [e]; exact Ans.no ((((Steps.refl B w).alloc _).trans hs1).trans ((((Steps.refl B w2).alloc _).alloc _).trans hs2)))
  · have e : Ps.enclosed sub (l.drop p) = .no c1 ts1 := by rw [Ps.enclosed, HQ.out]; rfl
    exact bodyPost_thrown rfl (by rw [e]; exact Ans.no (((Steps.refl B w).alloc _).trans hs1))
end Go.Proofs.YtedamaccflhmfaaGreatDoor
namespace Go.Proofs.YtedamaccflhmfaaGreatDoor
open Go.RowKit
attribute [local go_sem ↓] Go.wp_at_zero Go.wp_at_succ

theorem ofOne_at (w : World) (op o k n : Int) (t : ByteArray) (tb nm : List UInt8) (sl kd : Int) (ag : List Ps.Ex) (sa : Option Addr) (sc : Nat) (P : Nat → Prop) (hl : ∀ k, w.heap.size ≤ k → P k) (hx : ExAt P w (Ps.Ex.mk o ⟨k, n, t⟩ tb nm sl kd ag) (.slice sa ag.length sc)) : Calls Tryz.prog 170 #[.int .u8 op, .agg #[.int .u8 o, .int .u8 k, .int .i64 n, .string t, .string ⟨tb.toArray⟩, .string ⟨nm.toArray⟩, .int .i64 sl, .int .u8 kd, .slice sa ag.length sc]] w fun e w' => ∃ a c, e = .returned (.agg #[.int .u8 op, .int .u8 0, .int .i64 0, .string ⟨#[]⟩, .string ⟨#[]⟩, .string ⟨#[]⟩, .int .i64 0, .int .u8 0, .slice a 1 c]) ∧ ExAt P w' (Ps.one op (Ps.Ex.mk o ⟨k, n, t⟩ tb nm sl kd ag) ) (.slice a 1 c) ∧ Below w.heap.size w w' :=
  ofOne_laid w op (Ps.Ex.mk o ⟨k, n, t⟩ tb nm sl kd ag) (.slice sa ag.length sc) P hl hx
/-- What deeper answers of a level. -/
abbrev Deep (f : FuncId) (lv : Ps.Lv) (B : Nat) (l : List Lx.Tk) (len d : Nat) (sub : Ps.Lv → List Lx.Tk → Ps.R Ps.Ex) : Prop := ∀ (wx : World) (q : Nat), Rd wx B l q len d → q < l.length → Calls Tryz.prog 171 #[.pointer (some ⟨B, 0, none⟩), .func (.func f) #[.pointer (some ⟨B, 0, none⟩)] #[]] wx (Ans exIs B l len d wx q (sub lv (l.drop q)))
theorem fr_keep {B lo : Nat} {w w' : World} {x : Ps.Ex} {S : Value} (h : ExAt (Fr lo) w x S) (hs : Steps B w w') (hB : B < lo) : ExAt (Fr lo) w' x S := ExAt.keep (Kept.steps hs (fun h => absurd h (by show ¬ lo ≤ B; omega))) (fun _ h _ => h) _ _ h
theorem step_alloc (B : Nat) (w : World) (o : Obj) : Steps B w (w.alloc o) := (Steps.refl B w).alloc o
theorem size_alloc {w w' : World} {o : Obj} {B : Nat} (h : Steps B (w.alloc o) w') : w.heap.size < w'.heap.size := by have := h.size; simp at this; omega

set_option maxHeartbeats 6400000 in
theorem argument_any {B : Nat} {l : List Lx.Tk} {len d : Nat} {sub : Ps.Lv → List Lx.Tk → Ps.R Ps.Ex} (hlow : Reads 209 B l len d (Ps.enclosed sub)) : Reads 211 B l len d (Ps.argument sub) := fun w p h => by
  have CL := hide (fun wx q hx => hlow wx q hx)
  have WN := hide (wanted_any B l len d)
  have H0 := hide h
  have hne : w.heap.size ≠ B := ne_of_lt' h.lt
  have HB := hide h.lt
  clear h hlow
  go_enter Tryz.func211, Tryz.ntmps211
  go_wp2_with (first
    | (go_at_call 79; refine (WN.out _ _ _ _ ((H0.out.alloc _).alloc _) (heap_new (by simp))).mono ?_; rintro e w2 hA; rcases hA.elim with ⟨u, q2, V, hq, rfl, rfl, hp2, hr2, hs2⟩ | ⟨c, ts, hq, rfl, hs2⟩ <;> (have HQ2 := hide hq; clear hq hA); have HR2 := hide hr2; have Z2 := hs2.keeps (alloc_keeps (heap_new rfl) _) hne; clear hr2)
    | (go_at_call 209; refine (CL.out _ _ HR2.out).mono ?_; rintro e w3 hA; rcases hA.laid with (⟨o1, k1, n1, t1, tb1, nm1, sl1, kd1, ag1, sa1, sc1, q1, hq, rfl, hx1, hp1, hr1, hs1⟩ | ⟨c1, ts1, hq, rfl, hs1⟩) <;> (have HQ := hide hq; clear hq hA); have HR3 := hide hr1; have HX := hide hx1; have Z3 := hs1.keeps Z2 hne; obtain ⟨⟨za0, za1, za2, za3, za4, za5, za6, za7, za8⟩, ⟨zb0, zb1, zb2, zb3, zb4, zb5, zb6, zb7, zb8⟩, _⟩ := sl9 Z3; clear hr1 hx1))
  · have e : Ps.argument sub (l.drop p) = .ok (Ps.Ex.mk o1 ⟨k1, n1, t1⟩ tb1 nm1 sl1 kd1 ag1) (l.drop q1) := by rw [Ps.argument, show Ps.want [40] (l.drop p) = _ from HQ2.out]; exact HQ.out
    refine ret_ex rfl rfl rfl Z3 e ((((Steps.refl B w).alloc _).alloc _).trans (hs2.trans hs1)) (Nat.le_refl _) HB.out (P := Fr (w.heap.size + 1)) (Nat.not_succ_le_self _) (fun _ hk => Nat.le_of_succ_le hk) ?_ (by omega) HR3.out rfl
    exact ExAt.mono (fun k hk => by have h2 : _ ≤ k := hk; have := hs2.size; simp at this; show _ ≤ k; omega) _ _ HX.out
  · have e : Ps.argument sub (l.drop p) = .no c1 ts1 := by rw [Ps.argument, show Ps.want [40] (l.drop p) = _ from HQ2.out]; exact HQ.out
    exact bodyPost_thrown rfl (by rw [e]; exact Ans.no ((((Steps.refl B w).alloc _).alloc _).trans (hs2.trans hs1)))
  · have e : Ps.argument sub (l.drop p) = .no c ts := by rw [Ps.argument, show Ps.want [40] (l.drop p) = _ from HQ2.out]; rfl
    exact bodyPost_thrown rfl (by rw [e]; exact Ans.no ((((Steps.refl B w).alloc _).alloc _).trans hs2))

set_option maxHeartbeats 6400000 in
theorem not_any {B : Nat} {l : List Lx.Tk} {len d : Nat} {sub : Ps.Lv → List Lx.Tk → Ps.R Ps.Ex} (hd : Deep 139 .not B l len d sub) (hlow : Reads 172 B l len d (Ps.compare sub)) : Reads 139 B l len d (Ps.not sub) := fun w p h => by
  have CL := hide (fun wx q hx => hlow wx q hx)
  have DP := hide hd
  have HS := hide (hass_any B l len d)
  have H0 := hide h
  have hne : w.heap.size ≠ B := ne_of_lt' h.lt
  have HB := hide h.lt
  clear h hlow hd
  go_enter Tryz.func139, Tryz.ntmps139
  go_wp2_with (first
    | (go_at_call 81; refine (HS.out _ _ _ (H0.out.alloc _)).mono ?_; rintro e w2 ⟨hb2, ⟨h2, rfl⟩ | ⟨h2, rfl⟩⟩ <;> (have HQ2 := hide h2; clear h2; have HR2 := hide ((H0.out.alloc _).later hb2); have Z2 := (hb2.block _ (by simp)).trans (heap_new (w := w) rfl)))
    | (go_at_call 171; refine (DP.out _ _ HR2.out (has_lt HQ2.out)).mono ?_; rintro e w3 hA; rcases hA.laid with (⟨o1, k1, n1, t1, tb1, nm1, sl1, kd1, ag1, sa1, sc1, q1, hq, rfl, hx1, hp1, hr1, hs1⟩ | ⟨c1, ts1, hq, rfl, hs1⟩) <;> (have HQ := hide hq; clear hq hA); have HR3 := hide hr1; have HX := hide hx1; have Z3 := hs1.keeps Z2 hne; clear hr1 hx1)
    | (go_at_call 170; refine (ofOne_at _ _ _ _ _ _ _ _ _ _ _ _ _ (Fr w2.heap.size) (fun k hk => Nat.le_trans hs1.size hk) HX.out).mono ?_; rintro e w4 ⟨ya, yc, rfl, hy, hb4⟩; have HY := hide hy; clear hy; have Z4 := (hb4.block _ (Array.getElem?_eq_some_iff.1 Z3).1).trans Z3; obtain ⟨⟨za0, za1, za2, za3, za4, za5, za6, za7, za8⟩, ⟨zb0, zb1, zb2, zb3, zb4, zb5, zb6, zb7, zb8⟩, _⟩ := sl9 Z4)
    | (go_at_call 172; refine (CL.out _ _ HR2.out).mono ?_; rintro e w3 hA; rcases hA.laid with (⟨o1, k1, n1, t1, tb1, nm1, sl1, kd1, ag1, sa1, sc1, q1, hq, rfl, hx1, hp1, hr1, hs1⟩ | ⟨c1, ts1, hq, rfl, hs1⟩) <;> (have HQ := hide hq; clear hq hA); have HR3 := hide hr1; have HX := hide hx1; have Z3 := hs1.keeps Z2 hne; obtain ⟨⟨za0, za1, za2, za3, za4, za5, za6, za7, za8⟩, ⟨zb0, zb1, zb2, zb3, zb4, zb5, zb6, zb7, zb8⟩, _⟩ := sl9 Z3; clear hr1 hx1))
  · have e : Ps.not sub (l.drop p) = .ok (Ps.one 17 (Ps.Ex.mk o1 ⟨k1, n1, t1⟩ tb1 nm1 sl1 kd1 ag1) ) (l.drop q1) := by rw [Ps.not, if_pos HQ2.out]; exact congrArg (fun z => Ps.R.map z (Ps.one 17)) HQ.out
    refine ret_ex rfl rfl rfl Z4 e ((((Steps.refl B w).alloc _).then hb2).trans (hs1.then hb4)) (Nat.le_refl _) HB.out (P := Fr (w.heap.size + 1)) (Nat.not_succ_le_self _) (fun _ hk => Nat.le_of_succ_le hk) ?_ (by omega) (HR3.out.later hb4) rfl
    exact ExAt.mono (fun k hk => by have h2 : _ ≤ k := hk; have := hb2.size; simp at this; show _ ≤ k; omega) _ _ HY.out
  · have e : Ps.not sub (l.drop p) = .no c1 ts1 := by rw [Ps.not, if_pos HQ2.out]; exact congrArg (fun z => Ps.R.map z (Ps.one 17)) HQ.out
    exact bodyPost_thrown rfl (by rw [e]; exact Ans.no ((((Steps.refl B w).alloc _).then hb2).trans hs1))
  · have e : Ps.not sub (l.drop p) = .ok (Ps.Ex.mk o1 ⟨k1, n1, t1⟩ tb1 nm1 sl1 kd1 ag1) (l.drop q1) := by rw [Ps.not, if_neg (by rw [show Ps.has [110, 111, 116] (l.drop p) = false from HQ2.out]; decide)]; exact HQ.out
    refine ret_ex rfl rfl rfl Z3 e ((((Steps.refl B w).alloc _).then hb2).trans hs1) (Nat.le_refl _) HB.out (P := Fr (w.heap.size + 1)) (Nat.not_succ_le_self _) (fun _ hk => Nat.le_of_succ_le hk) ?_ (by omega) HR3.out rfl
    exact ExAt.mono (fun k hk => by have h2 : _ ≤ k := hk; have := hb2.size; simp at this; show _ ≤ k; omega) _ _ HX.out
  · have e : Ps.not sub (l.drop p) = .no c1 ts1 := by rw [Ps.not, if_neg (by rw [show Ps.has [110, 111, 116] (l.drop p) = false from HQ2.out]; decide)]; exact HQ.out
    exact bodyPost_thrown rfl (by rw [e]; exact Ans.no ((((Steps.refl B w).alloc _).then hb2).trans hs1))
end Go.Proofs.YtedamaccflhmfaaGreatDoor
namespace Go.Proofs.YtedamaccflhmfaaGreatDoor
open Go.RowKit
attribute [local go_sem ↓] Go.wp_at_zero Go.wp_at_succ

theorem literal_at (w : World) (k n : Int) (t : ByteArray) : Calls Tryz.prog 208 #[.agg #[.int .u8 k, .int .i64 n, .string t]] w fun e w' => e = .returned (.agg #[.int .u8 1, .int .u8 k, .int .i64 n, .string t, .string ⟨#[]⟩, .string ⟨#[]⟩, .int .i64 0, .int .u8 0, .slice none 0 0]) ∧ Below w.heap.size w w' := literal_any2 w ⟨k, n, t⟩
theorem lit_ex (P : Nat → Prop) (w : World) (v : Val) : ExAt P w (Ps.lit v) (.slice none 0 0) := by rw [Ps.lit, exAt_mk]; exact ⟨none, 0, rfl, fun h => absurd rfl h⟩
theorem number_ok {most : Nat} {l : List Lx.Tk} {q q' : Nat} {n : Nat} (h : Ps.number most (l.drop q) = .ok n (l.drop q')) : n ≤ most := by
  rw [number_is] at h
  split at h
  · split at h
    · injection h with h1 h2; omega
    · cases h
  · cases h
theorem wrap_neg {n : Nat} (h : n ≤ 9223372036854775808) : wrap64 (-wrap64 (n : Int)) = -(n : Int) := by
  unfold wrap64
  omega
theorem wrap_pos {n : Nat} (h : n ≤ 9223372036854775807) : wrap64 (n : Int) = (n : Int) := by
  unfold wrap64
  omega

set_option maxHeartbeats 6400000 in
theorem count_any {B : Nat} {l : List Lx.Tk} {len d : Nat} {sub : Ps.Lv → List Lx.Tk → Ps.R Ps.Ex} (hlow : Reads 209 B l len d (Ps.enclosed sub)) : Reads 210 B l len d (Ps.count sub) := fun w p h => by
  have CL := hide (fun wx q hx => hlow wx q hx)
  have WN := hide (wanted_any B l len d)
  have TK := hide (takes_any B l len d)
  have H0 := hide h
  have hne : w.heap.size ≠ B := ne_of_lt' h.lt
  have HB := hide h.lt
  have hll := h.ll
  have hpl := h.pl
  clear h
  go_enter Tryz.func210, Tryz.ntmps210
  go_wp2_with (first
    | (go_at_call 79; refine (WN.out _ _ _ _ (HR3.out.alloc _) (heap_new rfl)).mono ?_; rintro e w4 hA; rcases hA.elim with ⟨u, q4, V, hq, rfl, rfl, hp4, hr4, hs4⟩ | ⟨c4, ts4, hq, rfl, hs4⟩ <;> (have HQ4 := hide hq; clear hq hA); have HR4 := hide hr4; have Z4 := hs4.keeps (alloc_keeps Z3 _) hne; obtain ⟨⟨za0, za1, za2, za3, za4, za5, za6, za7, za8⟩, ⟨zb0, zb1, zb2, zb3, zb4, zb5, zb6, zb7, zb8⟩, _⟩ := sl9 Z4; clear hr4)
    | (go_at_call 79; refine (WN.out _ _ _ _ ((H0.out.alloc _).alloc _) (heap_new (by simp))).mono ?_; rintro e w2 hA; rcases hA.elim with ⟨u, q2, V, hq, rfl, rfl, hp2, hr2, hs2⟩ | ⟨c2, ts2, hq, rfl, hs2⟩ <;> (have HQ2 := hide hq; clear hq hA); have HR2 := hide hr2; have Z2 := hs2.keeps (alloc_keeps (heap_new rfl) _) hne; clear hr2)
    | (go_at_call 50; refine (TK.out _ _ _ HR2.out).mono ?_; rintro e w3 (⟨h3, rfl, hr3, hs3⟩ | ⟨h3, rfl, hr3, hs3⟩) <;> (have HR3 := hide hr3; have HQ3 := hide h3; clear hr3 h3; have Z3 := hs3.keeps Z2 hne))
    | (go_at_call 209; refine (CL.out _ _ HR3.out).mono ?_; rintro e w4 hA; rcases hA.laid with (⟨o1, k1, n1, t1, tb1, nm1, sl1, kd1, ag1, sa1, sc1, q1, hq, rfl, hx1, hp1, hr1, hs1⟩ | ⟨c1, ts1, hq, rfl, hs1⟩) <;> (have HQ4 := hide hq; clear hq hA); have HR4 := hide hr1; have HX := hide hx1; have Z4 := hs1.keeps Z3 hne; clear hr1 hx1)
    | (go_at_call 170; refine (ofOne_at _ _ _ _ _ _ _ _ _ _ _ _ _ (Fr w3.heap.size) (fun k hk => Nat.le_trans hs1.size hk) HX.out).mono ?_; rintro e w5 ⟨ya, yc, rfl, hy, hb5⟩; have HY := hide hy; clear hy; have Z5 := (hb5.block _ (Array.getElem?_eq_some_iff.1 Z4).1).trans Z4; obtain ⟨⟨za0, za1, za2, za3, za4, za5, za6, za7, za8⟩, ⟨zb0, zb1, zb2, zb3, zb4, zb5, zb6, zb7, zb8⟩, _⟩ := sl9 Z5))
  · have e : Ps.count sub (l.drop p) = .ok (Ps.Ex.mk 21 Ps.zeroV [] [] 0 0 []) (l.drop q4) := by rw [Ps.count, show Ps.want [40] (l.drop p) = _ from HQ2.out]; show (if Ps.has [42] (l.drop q2) = true then _ else _) = _; rw [if_pos HQ3.out, List.tail_drop, show Ps.want [41] (l.drop (q2 + 1)) = _ from HQ4.out]; rfl
    refine ret_ex rfl rfl rfl Z4 (S := .slice none 0 0) e ((((Steps.refl B w).alloc _).alloc _).trans (hs2.trans (hs3.trans (((Steps.refl B w3).alloc _).trans hs4)))) (Nat.le_refl _) HB.out (P := Fr (w.heap.size + 1)) (Nat.not_succ_le_self _) (fun _ hk => Nat.le_of_succ_le hk) ?_ (by omega) HR4.out rfl
    rw [exAt_mk]; exact ⟨none, 0, rfl, fun h => absurd rfl h⟩
  · have e : Ps.count sub (l.drop p) = .no c4 ts4 := by rw [Ps.count, show Ps.want [40] (l.drop p) = _ from HQ2.out]; show (if Ps.has [42] (l.drop q2) = true then _ else _) = _; rw [if_pos HQ3.out, List.tail_drop, show Ps.want [41] (l.drop (q2 + 1)) = _ from HQ4.out]; rfl
    exact bodyPost_thrown rfl (by rw [e]; exact Ans.no ((((Steps.refl B w).alloc _).alloc _).trans (hs2.trans (hs3.trans (((Steps.refl B w3).alloc _).trans hs4)))))
  · have e : Ps.count sub (l.drop p) = .ok (Ps.one 22 (Ps.Ex.mk o1 ⟨k1, n1, t1⟩ tb1 nm1 sl1 kd1 ag1) ) (l.drop q1) := by rw [Ps.count, show Ps.want [40] (l.drop p) = _ from HQ2.out]; show (if Ps.has [42] (l.drop q2) = true then _ else _) = _; rw [if_neg (by rw [show Ps.has [42] (l.drop q2) = false from HQ3.out]; decide), HQ4.out]; rfl
    refine ret_ex rfl rfl rfl Z5 e ((((Steps.refl B w).alloc _).alloc _).trans (hs2.trans (hs3.trans (hs1.then hb5)))) (Nat.le_refl _) HB.out (P := Fr (w.heap.size + 1)) (Nat.not_succ_le_self _) (fun _ hk => Nat.le_of_succ_le hk) ?_ (by omega) (HR4.out.later hb5) rfl
    exact ExAt.mono (fun k hk => by have h2 : _ ≤ k := hk; have h3 := hs3.size; have := hs2.size; simp at this; show _ ≤ k; omega) _ _ HY.out
  · have e : Ps.count sub (l.drop p) = .no c1 ts1 := by rw [Ps.count, show Ps.want [40] (l.drop p) = _ from HQ2.out]; show (if Ps.has [42] (l.drop q2) = true then _ else _) = _; rw [if_neg (by rw [show Ps.has [42] (l.drop q2) = false from HQ3.out]; decide), HQ4.out]; rfl
    exact bodyPost_thrown rfl (by rw [e]; exact Ans.no ((((Steps.refl B w).alloc _).alloc _).trans (hs2.trans (hs3.trans hs1))))
  · have e : Ps.count sub (l.drop p) = .no c2 ts2 := by rw [Ps.count, show Ps.want [40] (l.drop p) = _ from HQ2.out]; rfl
    exact bodyPost_thrown rfl (by rw [e]; exact Ans.no ((((Steps.refl B w).alloc _).alloc _).trans hs2))

set_option maxHeartbeats 6400000 in
theorem unary_any {B : Nat} {l : List Lx.Tk} {len d : Nat} {sub : Ps.Lv → List Lx.Tk → Ps.R Ps.Ex} (hd : Deep 203 .unary B l len d sub) (hlow : Reads 206 B l len d (Ps.primary sub)) : Reads 203 B l len d (Ps.unary sub) := fun w p h => by
  have CL := hide (fun wx q hx => hlow wx q hx)
  have DP := hide hd
  have HS := hide (hass_any B l len d)
  have IN := hide (fun wx hx => isOfNumber_any wx B l p len d hx)
  have NU : Hid (∀ wx, Rd wx B l (p + 1) len d → Calls Tryz.prog 128 #[.pointer (some ⟨B, 0, none⟩), .int .u64 9223372036854775808] wx (Ans natIs B l len d wx (p + 1) (Ps.number 9223372036854775808 (l.drop (p + 1))))) := fun wx hx => number_any wx B l (p + 1) len d hx 9223372036854775808
  obtain ⟨isn, hisn⟩ : ∃ b, b = Ps.isNum (l.drop p) := ⟨_, rfl⟩
  rw [← hisn] at IN
  have HI := hide hisn
  clear hisn
  have H0 := hide h
  have hne : w.heap.size ≠ B := ne_of_lt' h.lt
  have HB := hide h.lt
  have hll := h.ll
  have hpl := h.pl
  clear h
  go_enter Tryz.func203, Tryz.ntmps203
  go_wp2_with (first
    | (go_at_call 81; refine (HS.out _ _ _ (H0.out.alloc _)).mono ?_; rintro e w2 ⟨hb2, ⟨h2, rfl⟩ | ⟨h2, rfl⟩⟩ <;> (have HQ2 := hide h2; clear h2; have HR2 := hide ((H0.out.alloc _).later hb2); have Z2 := (hb2.block _ (by simp)).trans (heap_new (w := w) rfl)))
    | (go_at_call 206; refine (CL.out _ _ HR2.out).mono ?_; rintro e w3 hA; rcases hA.laid with (⟨o1, k1, n1, t1, tb1, nm1, sl1, kd1, ag1, sa1, sc1, q1, hq, rfl, hx1, hp1, hr1, hs1⟩ | ⟨c1, ts1, hq, rfl, hs1⟩) <;> (have HQ := hide hq; clear hq hA); have HR3 := hide hr1; have HX := hide hx1; have Z3 := hs1.keeps Z2 hne; obtain ⟨⟨za0, za1, za2, za3, za4, za5, za6, za7, za8⟩, ⟨zb0, zb1, zb2, zb3, zb4, zb5, zb6, zb7, zb8⟩, _⟩ := sl9 Z3; clear hr1 hx1)
    | (go_at_call 207; refine (IN.out _ HR2.out).mono ?_; rintro e w3 ⟨rfl, hb3⟩; have HR3 := hide (HR2.out.later hb3); have Z3 := (hb3.block _ (Array.getElem?_eq_some_iff.1 Z2).1).trans Z2; obtain ⟨v0, u0, u1, u2, u3, g0, g1, g2, g3, hltB⟩ := HR3.out.cells)
    | (go_at_call 128; refine (NU.out _ (HR3.out.put (has_lt HQ2.out))).mono ?_; rintro e w4 hA; rcases hA.elim with ⟨nn, q4, V, hq, rfl, rfl, hp4, hr4, hs4⟩ | ⟨c4, ts4, hq, rfl, hs4⟩ <;> (have HQ4 := hide hq; clear hq hA); have HR4 := hide hr4; have Z4 := hs4.keeps (heap_set_other Z3 hne _) hne; clear hr4)
    | (go_at_call 171; refine (DP.out _ _ HR3.out (has_lt HQ2.out)).mono ?_; rintro e w4 hA; rcases hA.laid with (⟨o1, k1, n1, t1, tb1, nm1, sl1, kd1, ag1, sa1, sc1, q1, hq, rfl, hx1, hp1, hr1, hs1⟩ | ⟨c1, ts1, hq, rfl, hs1⟩) <;> (have HQ4 := hide hq; clear hq hA); have HR4 := hide hr1; have HX := hide hx1; have Z4 := hs1.keeps Z3 hne; clear hr1 hx1)
    | (go_at_call 208; rw [wrap_neg (number_ok HQ4.out)]; refine (literal_at _ _ _ _).mono ?_; rintro e w5 ⟨rfl, hb5⟩; have Z5 := (hb5.block _ (Array.getElem?_eq_some_iff.1 Z4).1).trans Z4; obtain ⟨⟨za0, za1, za2, za3, za4, za5, za6, za7, za8⟩, ⟨zb0, zb1, zb2, zb3, zb4, zb5, zb6, zb7, zb8⟩, _⟩ := sl9 Z5)
    | (go_at_call 170; refine (ofOne_at _ _ _ _ _ _ _ _ _ _ _ _ _ (Fr w3.heap.size) (fun k hk => Nat.le_trans hs1.size hk) HX.out).mono ?_; rintro e w5 ⟨ya, yc, rfl, hy, hb5⟩; have HY := hide hy; clear hy; have Z5 := (hb5.block _ (Array.getElem?_eq_some_iff.1 Z4).1).trans Z4; obtain ⟨⟨za0, za1, za2, za3, za4, za5, za6, za7, za8⟩, ⟨zb0, zb1, zb2, zb3, zb4, zb5, zb6, zb7, zb8⟩, _⟩ := sl9 Z5))
  · have e : Ps.unary sub (l.drop p) = .ok (Ps.lit ⟨2, -(nn : Int), ⟨#[]⟩⟩) (l.drop q4) := by rw [Ps.unary, if_pos HQ2.out, if_pos (by rw [← HI.out]; assumption), List.tail_drop, HQ4.out]; rfl
    exact ret_ex rfl rfl rfl Z5 (S := .slice none 0 0) e ((((Steps.refl B w).alloc _).then hb2).trans (((((Steps.refl B w2).then hb3).setCell (p := ⟨B, 1, none⟩) (.inr rfl) _).trans hs4).then hb5)) (Nat.le_refl _) HB.out (P := Fr (w.heap.size + 1)) (Nat.not_succ_le_self _) (fun _ hk => Nat.le_of_succ_le hk) (lit_ex _ _ _) (by omega) (HR4.out.later hb5) rfl
  · have e : Ps.unary sub (l.drop p) = .no c4 ts4 := by rw [Ps.unary, if_pos HQ2.out, if_pos (by rw [← HI.out]; assumption), List.tail_drop, HQ4.out]; rfl
    exact bodyPost_thrown rfl (by rw [e]; exact Ans.no ((((Steps.refl B w).alloc _).then hb2).trans ((((Steps.refl B w2).then hb3).setCell (p := ⟨B, 1, none⟩) (.inr rfl) _).trans hs4)))
  · have e : Ps.unary sub (l.drop p) = .ok (Ps.one 18 (Ps.Ex.mk o1 ⟨k1, n1, t1⟩ tb1 nm1 sl1 kd1 ag1) ) (l.drop q1) := by rw [Ps.unary, if_pos HQ2.out, if_neg (by rw [← HI.out]; simp [*]), HQ4.out]; rfl
    refine ret_ex rfl rfl rfl Z5 e ((((Steps.refl B w).alloc _).then hb2).trans (((Steps.refl B w2).then hb3).trans (hs1.then hb5))) (Nat.le_refl _) HB.out (P := Fr (w.heap.size + 1)) (Nat.not_succ_le_self _) (fun _ hk => Nat.le_of_succ_le hk) ?_ (by omega) (HR4.out.later hb5) rfl
    exact ExAt.mono (fun k hk => by have h2 : _ ≤ k := hk; have h3 := hb3.size; have := hb2.size; simp at this; show _ ≤ k; omega) _ _ HY.out
  · have e : Ps.unary sub (l.drop p) = .no c1 ts1 := by rw [Ps.unary, if_pos HQ2.out, if_neg (by rw [← HI.out]; simp [*]), HQ4.out]; rfl
    exact bodyPost_thrown rfl (by rw [e]; exact Ans.no ((((Steps.refl B w).alloc _).then hb2).trans (((Steps.refl B w2).then hb3).trans hs1)))
  · have e : Ps.unary sub (l.drop p) = .ok (Ps.Ex.mk o1 ⟨k1, n1, t1⟩ tb1 nm1 sl1 kd1 ag1) (l.drop q1) := by rw [Ps.unary, if_neg (by rw [show Ps.has [45] (l.drop p) = false from HQ2.out]; decide)]; exact HQ.out
    refine ret_ex rfl rfl rfl Z3 e ((((Steps.refl B w).alloc _).then hb2).trans hs1) (Nat.le_refl _) HB.out (P := Fr (w.heap.size + 1)) (Nat.not_succ_le_self _) (fun _ hk => Nat.le_of_succ_le hk) ?_ (by omega) HR3.out rfl
    exact ExAt.mono (fun k hk => by have h2 : _ ≤ k := hk; have := hb2.size; simp at this; show _ ≤ k; omega) _ _ HX.out
  · have e : Ps.unary sub (l.drop p) = .no c1 ts1 := by rw [Ps.unary, if_neg (by rw [show Ps.has [45] (l.drop p) = false from HQ2.out]; decide)]; exact HQ.out
    exact bodyPost_thrown rfl (by rw [e]; exact Ans.no ((((Steps.refl B w).alloc _).then hb2).trans hs1))
end Go.Proofs.YtedamaccflhmfaaGreatDoor
