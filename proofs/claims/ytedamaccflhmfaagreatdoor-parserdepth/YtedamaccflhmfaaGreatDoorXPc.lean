/-
  Package parser: nullness, isOfNumber, deeper. .. and what follows from it.
-/
import Derived.Test.YtedamaccflhmfaaGreatDoorXPb
namespace Go.Proofs.YtedamaccflhmfaaGreatDoor
open Go.RowKit
attribute [local go_sem ↓] Go.wp_at_zero Go.wp_at_succ

abbrev Wanted (B : Nat) (l : List Lx.Tk) (len d : Nat) : Prop := ∀ (wx : World) (q : Nat) (s : ByteArray) (g : Nat), Rd wx B l q len d → wx.heap[g]? = some (.cells #[.string s] 9 (0, 0)) → Calls Tryz.prog 79 #[.pointer (some ⟨B, 0, none⟩), .slice (some ⟨g, 0, none⟩) 1 1] wx (Ans unitIs B l len d wx q (Ps.want s.data.toList (l.drop q)))
theorem wanted_any (B : Nat) (l : List Lx.Tk) (len d : Nat) : Wanted B l len d := fun wx q s g h hg => want_any wx B l q len d h s g hg
/-- What took answers, in two ways. -/
abbrev Takes (B : Nat) (l : List Lx.Tk) (len d : Nat) : Prop := ∀ (wx : World) (q : Nat) (s : ByteArray), Rd wx B l q len d → Calls Tryz.prog 50 #[.pointer (some ⟨B, 0, none⟩), .string s] wx fun e w' => (Ps.has s.data.toList (l.drop q) = true ∧ e = .returned (.bool true) ∧ Rd w' B l (q + 1) len d ∧ Steps B wx w') ∨ (Ps.has s.data.toList (l.drop q) = false ∧ e = .returned (.bool false) ∧ Rd w' B l q len d ∧ Steps B wx w')
theorem takes_any (B : Nat) (l : List Lx.Tk) (len d : Nat) : Takes B l len d := fun wx q s h => (took_any wx B l q len d h s _ rfl).mono fun e w' ⟨he, hr, hs⟩ => by
  by_cases hb : Ps.has s.data.toList (l.drop q) = true
  · rw [hb] at he; rw [if_pos hb] at hr; exact .inl ⟨hb, he, hr, hs⟩
  · have hf : Ps.has s.data.toList (l.drop q) = false := by simpa using hb
    rw [hf] at he; rw [if_neg hb] at hr; exact .inr ⟨hf, he, hr, hs⟩
abbrev Hass (B : Nat) (l : List Lx.Tk) (len d : Nat) : Prop := ∀ (wx : World) (q : Nat) (s : ByteArray), Rd wx B l q len d → Calls Tryz.prog 81 #[.pointer (some ⟨B, 0, none⟩), .string s] wx fun e w' => Below wx.heap.size wx w' ∧ ((Ps.has s.data.toList (l.drop q) = true ∧ e = .returned (.bool true)) ∨ (Ps.has s.data.toList (l.drop q) = false ∧ e = .returned (.bool false)))
theorem hass_any (B : Nat) (l : List Lx.Tk) (len d : Nat) : Hass B l len d := fun wx q s h => (has_any wx B l q len d h s).mono fun e w' ⟨he, hb⟩ => by
  cases hq : Ps.has s.data.toList (l.drop q) with
  | true => rw [hq] at he; exact ⟨hb, .inl ⟨rfl, he⟩⟩
  | false => rw [hq] at he; exact ⟨hb, .inr ⟨rfl, he⟩⟩
def opIs (_ : Nat) (_ : World) (op : Int) (V : Value) : Prop := V = .int .u8 op

set_option maxHeartbeats 6400000 in
theorem nullness_any (w : World) (B : Nat) (l : List Lx.Tk) (p len d : Nat) (h : Rd w B l p len d) : Calls Tryz.prog 187 #[.pointer (some ⟨B, 0, none⟩)] w (Ans opIs B l len d w p (Ps.nullness (l.drop p))) := by
  have TK := hide (takes_any B l len d)
  have WN := hide (wanted_any B l len d)
  have H0 := hide h
  clear h
  go_enter Tryz.func187, Tryz.ntmps187
  go_wp2_with (first
    | (go_at_call 50; refine (TK.out _ _ _ H0.out).mono ?_; rintro e w2 (⟨h2, rfl, hr2, hs2⟩ | ⟨h2, rfl, hr2, hs2⟩) <;> (have HR2 := hide hr2; have Q2 := hide h2; clear hr2 h2))
    | (go_at_call 79; refine (WN.out _ _ _ _ (HR2.out.alloc _) (heap_new rfl)).mono ?_; rintro e w3 hA; rcases hA.elim with ⟨n, p2, V, hq, rfl, rfl, hp2, hr3, hs3⟩ | ⟨c, ts, hq, rfl, hs3⟩ <;> (have HQ := hide hq; clear hq hA)))
  · go_ret
    rw [show Ps.nullness (l.drop p) = .ok 20 (l.drop p2) from by rw [Ps.nullness, if_pos Q2.out, List.tail_drop]; exact (congrArg (fun z => Ps.R.map z fun _ => (20 : Int)) HQ.out)]
    exact Ans.ok p2 ((hs2.alloc _).trans hs3) rfl (by omega) hr3
  · refine bodyPost_thrown rfl ?_
    rw [show Ps.nullness (l.drop p) = .no c ts from by rw [Ps.nullness, if_pos Q2.out, List.tail_drop]; exact (congrArg (fun z => Ps.R.map z fun _ => (20 : Int)) HQ.out)]
    exact Ans.no ((hs2.alloc _).trans hs3)
  · go_ret
    rw [show Ps.nullness (l.drop p) = .ok 19 (l.drop p2) from by rw [Ps.nullness, if_neg (by rw [Q2.out]; decide)]; exact (congrArg (fun z => Ps.R.map z fun _ => (19 : Int)) HQ.out)]
    exact Ans.ok p2 ((hs2.alloc _).trans hs3) rfl (by omega) hr3
  · refine bodyPost_thrown rfl ?_
    rw [show Ps.nullness (l.drop p) = .no c ts from by rw [Ps.nullness, if_neg (by rw [Q2.out]; decide)]; exact (congrArg (fun z => Ps.R.map z fun _ => (19 : Int)) HQ.out)]
    exact Ans.no ((hs2.alloc _).trans hs3)

theorem isNum_is (l : List Lx.Tk) (p : Nat) : Ps.isNum (l.drop p) = if h : p + 1 < l.length then (l[p + 1]).k == 2 else false := by
  by_cases h : p + 1 < l.length
  · rw [dif_pos h, List.drop_eq_getElem_cons (by omega), List.drop_eq_getElem_cons h]; rfl
  · rw [dif_neg h]
    by_cases h1 : p < l.length
    · rw [List.drop_eq_getElem_cons h1, List.drop_of_length_le (by omega)]; rfl
    · rw [List.drop_of_length_le (by omega)]; rfl

set_option maxHeartbeats 6400000 in
theorem isOfNumber_any (w : World) (B : Nat) (l : List Lx.Tk) (p len d : Nat) (h : Rd w B l p len d) : Calls Tryz.prog 207 #[.pointer (some ⟨B, 0, none⟩)] w fun e w' => e = .returned (.bool (Ps.isNum (l.drop p))) ∧ Below w.heap.size w w' := by
  rw [isNum_is]
  have hll := h.ll
  have hpl := h.pl
  obtain ⟨⟨a, cap, h1, h2⟩, _⟩ := h
  obtain ⟨c0, c1, c2, c3, f0, f1, f2, f3, hlt⟩ := slot4 h1
  clear h1
  by_cases hp : p + 1 < l.length
  · rw [dif_pos hp]
    obtain ⟨b, off, rfl, hne, ht⟩ := h2 (by intro e; rw [e] at hp; simp at hp)
    obtain ⟨t0, _, _, _⟩ := ht (p + 1) hp
    obtain ⟨k, hk⟩ : ∃ k, k = (l[p + 1]).k := ⟨_, rfl⟩
    rw [← hk] at t0 ⊢
    have hpi : (p : Int) + 1 < l.length := by omega
    clear ht h2 hk
    go_enter Tryz.func207, Tryz.ntmps207
    go_wp2
    go_ret
    exact ⟨rfl, Below.refl _ _⟩
  · rw [dif_neg hp]
    have hpi : ¬ (p : Int) + 1 < l.length := by omega
    clear h2
    go_enter Tryz.func207, Tryz.ntmps207
    go_wp2
    go_ret
    exact ⟨rfl, Below.refl _ _⟩

/-- A call that reads an expression. -/
abbrev Reads (f : FuncId) (B : Nat) (l : List Lx.Tk) (len d : Nat) (r : List Lx.Tk → Ps.R Ps.Ex) : Prop := ∀ (wx : World) (q : Nat), Rd wx B l q len d → Calls Tryz.prog f #[.pointer (some ⟨B, 0, none⟩)] wx (Ans exIs B l len d wx q (r (l.drop q)))
theorem go_fold {α : Type} {r : Ps.R α} {x : α} {ts : List Lx.Tk} (h : r = .ok x ts) : r = .ok x ts := h

set_option maxHeartbeats 6400000 in
theorem deeper_end (f : FuncId) (w : World) (B : Nat) (l : List Lx.Tk) (p len : Nat) (h : Rd w B l p len 40) : Calls Tryz.prog 171 #[.pointer (some ⟨B, 0, none⟩), .func (.func f) #[.pointer (some ⟨B, 0, none⟩)] #[]] w (Ans exIs B l len 40 w p (.no 241 (l.drop p))) := by
  have TH := hide (thrown_any B l p len 40)
  have H0 := hide (h.alloc (.cells #[.int .u8 0, .int .u8 0, .int .i64 0, .string ⟨#[]⟩, .string ⟨#[]⟩, .string ⟨#[]⟩, .int .i64 0, .int .u8 0, .slice none 0 0] 34))
  obtain ⟨v0, c0, c1, c2, c3, f0, f1, f2, f3, hlt⟩ := h.cells
  clear h
  go_enter Tryz.func171, Tryz.ntmps171
  go_wp2_with (go_at_call 83; refine (TH.out _ _ H0.out).mono ?_; rintro e w4 ⟨rfl, hy⟩)
  exact bodyPost_thrown rfl (Ans.no (((Steps.refl B w).alloc _).then hy))

set_option maxRecDepth 100000 in
set_option maxHeartbeats 6400000 in
theorem deeper_any (f : FuncId) (EG : ∀ (args : Array Value) (w : World), (callFunc f args).run Tryz.prog w = .ok (.enter f args) w) (r : List Lx.Tk → Ps.R Ps.Ex) (w : World) (B : Nat) (l : List Lx.Tk) (p len d : Nat) (h : Rd w B l p len d) (hd : d < 40) (hp : p < l.length) (hr : Reads f B l len (d + 1) r) : Calls Tryz.prog 171 #[.pointer (some ⟨B, 0, none⟩), .func (.func f) #[.pointer (some ⟨B, 0, none⟩)] #[]] w (Ans exIs B l len d w p (r (l.drop (p + 1)))) := by
  have RD := hide hr
  have hll := h.ll
  obtain ⟨v0, c0, c1, c2, c3, f0, f1, f2, f3, hlt⟩ := h.cells
  have H1 := hide (((h.put (q := p + 1) hp).deep (q := d + 1) hd).alloc (.cells #[.int .u8 0, .int .u8 0, .int .i64 0, .string ⟨#[]⟩, .string ⟨#[]⟩, .string ⟨#[]⟩, .int .i64 0, .int .u8 0, .slice none 0 0] 34))
  have hd2 : ¬ (d : Int) = 40 := by omega
  clear h hr
  go_enter Tryz.func171, Tryz.ntmps171
  obtain ⟨R0, hR0⟩ : ∃ R0, R0 = r (l.drop (p + 1)) := ⟨_, rfl⟩
  have RD1 : Hid (∀ wx, Rd wx B l (p + 1) len (d + 1) → Calls Tryz.prog f #[.pointer (some ⟨B, 0, none⟩)] wx (Ans exIs B l len (d + 1) wx (p + 1) R0)) := fun wx hx => by rw [hR0]; exact RD.out wx _ hx
  rw [← hR0]
  clear RD hR0
  have hne : w.heap.size ≠ B := by omega
  cases R0 with
  | no c ts =>
    go_wp2_with (guard_target =~ Calls _ _ _ _ _; refine (RD1.out _ H1.out).mono ?_; intro e w2 hA; obtain ⟨rfl, hs⟩ := hA.of_no)
    exact bodyPost_thrown rfl (Ans.no ((((Steps.refl B w).setCell (p := ⟨B, 1, none⟩) (.inr rfl) _).setCell (p := ⟨B, 3, none⟩) (.inr rfl) _).alloc _ |>.trans hs))
  | ok x ts =>
    obtain ⟨o, ⟨k, n, t⟩, tb, nm, sl, kd, ag⟩ := x
    obtain ⟨tbs, htb⟩ : ∃ z : ByteArray, z = ⟨tb.toArray⟩ := ⟨_, rfl⟩
    obtain ⟨nms, hnm⟩ : ∃ z : ByteArray, z = ⟨nm.toArray⟩ := ⟨_, rfl⟩
    have HT := hide htb
    have HN := hide hnm
    have RD2 : Hid (∀ wx, Rd wx B l (p + 1) len (d + 1) → Calls Tryz.prog f #[.pointer (some ⟨B, 0, none⟩)] wx fun e w' => ∃ a c p', ts = l.drop p' ∧ e = .returned (.agg #[.int .u8 o, .int .u8 k, .int .i64 n, .string t, .string tbs, .string nms, .int .i64 sl, .int .u8 kd, .slice a ag.length c]) ∧ ExAt (Fr wx.heap.size) w' (.mk o ⟨k, n, t⟩ tb nm sl kd ag) (.slice a ag.length c) ∧ p + 1 ≤ p' ∧ Rd w' B l p' len (d + 1) ∧ Steps B wx w') := fun wx hx => (RD1.out wx hx).mono fun e w' hA => by
      obtain ⟨p', V, ht, he, hi, hp', hr', hs⟩ := hA.of_ok
      obtain ⟨a, c, hV, hx⟩ := hi.laid
      exact ⟨a, c, p', ht, by rw [he, hV, htb, hnm], hx, hp', hr', hs⟩
    clear RD1 htb hnm
    go_wp2_with (guard_target =~ Calls _ _ _ _ _; refine (RD2.out _ H1.out).mono ?_; rintro e w2 ⟨sa, sc, p', ht, rfl, hx, hp', hr', hs⟩; have HX := hide hx; have HTS := hide ht; have HR := hide hr'; have Z2 := hs.keeps (heap_new (by simp)) hne; obtain ⟨u0, g0, g1, g2, g3, k0, k1, k2, k3, hlt2⟩ := hr'.cells; obtain ⟨⟨e0, e1, e2, e3, e4, e5, e6, e7, e8⟩, ⟨d0, d1, d2, d3, d4, d5, d6, d7, d8⟩, _⟩ := sl9 Z2; clear hx ht hr')
    refine ret_exA rfl rfl rfl (heap_set_other Z2 hne _) (x := .mk o ⟨k, n, t⟩ tb nm sl kd ag) (p' := p') (congrArg _ HTS.out) (((((Steps.refl B w).setCell (p := ⟨B, 1, none⟩) (.inr rfl) _).setCell (p := ⟨B, 3, none⟩) (.inr rfl) _).alloc _ |>.trans hs).setCell (p := ⟨B, 3, none⟩) (.inr rfl) _) (Nat.le_refl _) hlt (P := Fr (w.heap.size + 1)) (Nat.not_succ_le_self _) (fun _ hk => Nat.le_of_succ_le hk) ?_ (by omega) (HR.out.deep (q := d) (by omega)) (by rw [HT.out, HN.out]; rfl)
    refine ExAt.keep (w := w2) (P := Fr (w.heap.size + 1)) (fun k hk _ => Below.heap_setCell _ _ _ _ (by show k ≠ B; have : _ ≤ k := hk; omega)) (fun _ h _ => h) _ _ (ExAt.mono (fun k hk => ?_) _ _ HX.out)
    have h2 : _ ≤ k := hk
    show _ ≤ k
    simpa [World.setCell] using h2
end Go.Proofs.YtedamaccflhmfaaGreatDoor
namespace Go.Proofs.YtedamaccflhmfaaGreatDoor
open Go.RowKit
attribute [local go_sem ↓] Go.wp_at_zero Go.wp_at_succ

/-- A call that reads an expression, its answer laid open. -/
abbrev Laid (f : FuncId) (B : Nat) (l : List Lx.Tk) (len d : Nat) (r : List Lx.Tk → Ps.R Ps.Ex) : Prop := ∀ (wx : World) (q : Nat), Rd wx B l q len d → Calls Tryz.prog f #[.pointer (some ⟨B, 0, none⟩)] wx fun e w' => (∃ (o k n : Int) (t : ByteArray) (tb nm : List UInt8) (sl kd : Int) (ag : List Ps.Ex) (sa : Option Addr) (sc : Nat) (p' : Nat), r (l.drop q) = .ok (Ps.Ex.mk o ⟨k, n, t⟩ tb nm sl kd ag) (l.drop p') ∧ e = .returned (.agg #[.int .u8 o, .int .u8 k, .int .i64 n, .string t, .string ⟨tb.toArray⟩, .string ⟨nm.toArray⟩, .int .i64 sl, .int .u8 kd, .slice sa ag.length sc]) ∧ ExAt (Fr wx.heap.size) w' (Ps.Ex.mk o ⟨k, n, t⟩ tb nm sl kd ag) (.slice sa ag.length sc) ∧ q ≤ p' ∧ Rd w' B l p' len d ∧ Steps B wx w') ∨ (∃ c ts, r (l.drop q) = .no c ts ∧ e = .panicked [{ v := .iface 41 (.agg #[.int .i64 c, .int .i64 (Ps.faultAt len ts)]), recovered := false }] ∧ Steps B wx w')
theorem Reads.laid {f : FuncId} {B : Nat} {l : List Lx.Tk} {len d : Nat} {r : List Lx.Tk → Ps.R Ps.Ex} (h : Reads f B l len d r) : Laid f B l len d r := fun wx q hx => (h wx q hx).mono fun e w' hA => by
  rcases hA.elim with ⟨x, p', V, hq, he, hi, hp, hr, hs⟩ | ⟨c, ts, hq, he, hs⟩
  · obtain ⟨o, ⟨k, n, t⟩, tb, nm, sl, kd, ag⟩ := x
    obtain ⟨a, c, hV, hx⟩ := hi.laid
    exact .inl ⟨o, k, n, t, tb, nm, sl, kd, ag, a, c, p', hq, by rw [he, hV], hx, hp, hr, hs⟩
  · exact .inr ⟨c, ts, hq, he, hs⟩
/-- What an answer is, laid open. -/
abbrev LaidA (B : Nat) (l : List Lx.Tk) (len d : Nat) (w0 : World) (q : Nat) (R : Ps.R Ps.Ex) (e : Ending) (w' : World) : Prop := (∃ (o k n : Int) (t : ByteArray) (tb nm : List UInt8) (sl kd : Int) (ag : List Ps.Ex) (sa : Option Addr) (sc : Nat) (p' : Nat), R = .ok (Ps.Ex.mk o ⟨k, n, t⟩ tb nm sl kd ag) (l.drop p') ∧ e = .returned (.agg #[.int .u8 o, .int .u8 k, .int .i64 n, .string t, .string ⟨tb.toArray⟩, .string ⟨nm.toArray⟩, .int .i64 sl, .int .u8 kd, .slice sa ag.length sc]) ∧ ExAt (Fr w0.heap.size) w' (Ps.Ex.mk o ⟨k, n, t⟩ tb nm sl kd ag) (.slice sa ag.length sc) ∧ q ≤ p' ∧ Rd w' B l p' len d ∧ Steps B w0 w') ∨ (∃ c ts, R = .no c ts ∧ e = .panicked [{ v := .iface 41 (.agg #[.int .i64 c, .int .i64 (Ps.faultAt len ts)]), recovered := false }] ∧ Steps B w0 w')
theorem Ans.laid {B : Nat} {l : List Lx.Tk} {len d : Nat} {w0 : World} {q : Nat} {R : Ps.R Ps.Ex} {e : Ending} {w' : World} (h : Ans exIs B l len d w0 q R e w') : LaidA B l len d w0 q R e w' := by
  rcases h.elim with ⟨x, p', V, hq, he, hi, hp, hr, hs⟩ | ⟨c, ts, hq, he, hs⟩
  · obtain ⟨o, ⟨k, n, t⟩, tb, nm, sl, kd, ag⟩ := x
    obtain ⟨a, c, hV, hx⟩ := hi.laid
    exact .inl ⟨o, k, n, t, tb, nm, sl, kd, ag, a, c, p', hq, by rw [he, hV], hx, hp, hr, hs⟩
  · exact .inr ⟨c, ts, hq, he, hs⟩
theorem ExAt.slice {P : Nat → Prop} {w : World} {op : Int} {v : Val} {tb nm : List UInt8} {sl kd : Int} {ag : List Ps.Ex} {S : Value} (h : ExAt P w (.mk op v tb nm sl kd ag) S) : ∃ a c, S = .slice a ag.length c := by
  rw [ExAt] at h
  obtain ⟨a, c, e, _⟩ := h
  exact ⟨a, c, e⟩
theorem ofTwo_laid (w : World) (op : Int) (x y : Ps.Ex) (S S2 : Value) (P : Nat → Prop) (hl : ∀ k, w.heap.size ≤ k → P k) (hx : ExAt P w x S) (hy : ExAt P w y S2) : Calls Tryz.prog 138 #[.int .u8 op, exV x S, exV y S2] w fun e w' => ∃ a c, e = .returned (.agg #[.int .u8 op, .int .u8 0, .int .i64 0, .string ⟨#[]⟩, .string ⟨#[]⟩, .string ⟨#[]⟩, .int .i64 0, .int .u8 0, .slice a 2 c]) ∧ ExAt P w' (Ps.two op x y) (.slice a 2 c) ∧ Below w.heap.size w w' := (ofTwo_any w op x y S S2 P hl hx hy).mono fun e w' ⟨⟨V, he, hi⟩, hb⟩ => by
  obtain ⟨a, c, rfl⟩ := ExAt.slice hi
  exact ⟨a, c, he, hi, hb⟩
theorem ofOne_laid (w : World) (op : Int) (x : Ps.Ex) (S : Value) (P : Nat → Prop) (hl : ∀ k, w.heap.size ≤ k → P k) (hx : ExAt P w x S) : Calls Tryz.prog 170 #[.int .u8 op, exV x S] w fun e w' => ∃ a c, e = .returned (.agg #[.int .u8 op, .int .u8 0, .int .i64 0, .string ⟨#[]⟩, .string ⟨#[]⟩, .string ⟨#[]⟩, .int .i64 0, .int .u8 0, .slice a 1 c]) ∧ ExAt P w' (Ps.one op x) (.slice a 1 c) ∧ Below w.heap.size w w' := (ofOne_any w op x S P hl hx).mono fun e w' ⟨⟨V, he, hi⟩, hb⟩ => by
  obtain ⟨a, c, rfl⟩ := ExAt.slice hi
  exact ⟨a, c, he, hi, hb⟩

/-- How many tokens the reader has read. -/
def placeOf (w : World) (B : Nat) : Nat := (intOf ((w.cell? ⟨B, 1, none⟩).getD undef)).toNat
theorem Rd.place {w : World} {B : Nat} {l : List Lx.Tk} {p len d : Nat} (h : Rd w B l p len d) : placeOf w B = p := by
  obtain ⟨v0, c0, c1, _⟩ := h.cells
  unfold placeOf; rw [c1]; simp [intOf]

theorem opAt_lt {rank : Nat} {l : List Lx.Tk} {q : Nat} {op : Int} (h : Ps.opAt rank (l.drop q) = some op) : q < l.length := by
  unfold Ps.opAt at h
  obtain ⟨o, ho, _⟩ := Option.map_eq_some_iff.1 h
  have := List.find?_some ho
  simp only [Bool.and_eq_true] at this
  exact has_lt this.2
theorem chain_stop {rank : Nat} {r : List Lx.Tk → Ps.R Ps.Ex} {ts : List Lx.Tk} (h : Ps.opAt rank ts = none) (x : Ps.Ex) : ∀ f, Ps.chainG rank r f x ts = .ok x ts
  | 0 => rfl
  | f + 1 => by rw [Ps.chainG, h]
theorem chain_step {rank : Nat} {r : List Lx.Tk → Ps.R Ps.Ex} {l : List Lx.Tk} {q : Nat} {op : Int} (h : Ps.opAt rank (l.drop q) = some op) {x : Ps.Ex} {res : Ps.R Ps.Ex} : (∃ f, l.length - q ≤ f ∧ Ps.chainG rank r f x (l.drop q) = res) → ∃ f, l.length - (q + 1) ≤ f ∧ (r (l.drop (q + 1))).bind (fun y ts => Ps.chainG rank r f (Ps.two op x y) ts) = res := by
  rintro ⟨f, hf, e⟩
  have := opAt_lt h
  match f, hf with
  | 0, hf => omega
  | f + 1, hf =>
    rw [Ps.chainG, h] at e
    simp only [List.tail_drop] at e
    exact ⟨f, by omega, e⟩

/-- The chain on its way: R the result's block, X the block of what is read so far. -/
structure ChS (w : World) (B : Nat) (l : List Lx.Tk) (len d rank : Nat) (r1 : List Lx.Tk → Ps.R Ps.Ex) (res : Ps.R Ps.Ex) (p R X : Nat) (wr : World) (q : Nat) (x : Ps.Ex) (S : Value) : Prop where
  rd : Rd wr B l q len d
  st : Steps B w wr
  zr : wr.heap[R]? = some (.cells #[.int .u8 0, .int .u8 0, .int .i64 0, .string ⟨#[]⟩, .string ⟨#[]⟩, .string ⟨#[]⟩, .int .i64 0, .int .u8 0, .slice none 0 0] 34 (0, 0))
  zx : wr.heap[X]? = some (.cells (exC x S).toArray 34 (0, 0))
  ex : ExAt (fun b => R < b ∧ b ≠ X) wr x S
  pq : p ≤ q
  eq : ∃ f, l.length - q ≤ f ∧ Ps.chainG rank r1 f x (l.drop q) = res

set_option maxRecDepth 100000 in
set_option maxHeartbeats 12800000 in
theorem chain_any (f : FuncId) (EG : ∀ (args : Array Value) (w : World), (callFunc f args).run Tryz.prog w = .ok (.enter f args) w) (r : List Lx.Tk → Ps.R Ps.Ex) (w : World) (B : Nat) (l : List Lx.Tk) (p len d rank : Nat) (h : Rd w B l p len d) (hrk : rank ≤ 5) (hr : Reads f B l len d r) : Calls Tryz.prog 84 #[.pointer (some ⟨B, 0, none⟩), .int .i64 rank, .func (.func f) #[.pointer (some ⟨B, 0, none⟩)] #[]] w (Ans exIs B l len d w p (Ps.chain rank r (l.drop p))) := by
  have LD := hide hr.laid
  have OP := hide (fun wx q hx z hz => operation_any wx B l q len d hx rank hrk z hz)
  have H0 := hide (h.alloc (.cells #[.int .u8 0, .int .u8 0, .int .i64 0, .string ⟨#[]⟩, .string ⟨#[]⟩, .string ⟨#[]⟩, .int .i64 0, .int .u8 0, .slice none 0 0] 34))
  have hne : w.heap.size ≠ B := ne_of_lt' h.lt
  have HB := hide h.lt
  obtain ⟨res, hres⟩ : ∃ res, res = Ps.chain rank r (l.drop p) := ⟨_, rfl⟩
  rw [← hres]
  have HRES : Hid (∀ x q, r (l.drop p) = .ok x (l.drop q) → Ps.chainG rank r (l.drop q).length x (l.drop q) = res) := fun x q e => by rw [hres, Ps.chain, e]; rfl
  have HNO : Hid (∀ c ts, r (l.drop p) = .no c ts → res = .no c ts) := fun c ts e => by rw [hres, Ps.chain, e]; rfl
  clear h hr hres
  go_enter Tryz.func84, Tryz.ntmps84
  go_wp2_with (guard_target =~ Calls _ _ _ _ _; refine (LD.out _ _ H0.out).mono ?_; rintro e w2 (⟨o, k, n, t, tb, nm, sl, kd, ag, sa, sc, q, hq, rfl, hx, hpq, hr2, hs⟩ | ⟨c, ts, hq, rfl, hs⟩) <;> (have HQ := hide hq; clear hq))
  · have S0 : ChS w B l len d rank r res p w.heap.size w2.heap.size (w2.alloc (.cells #[.int .u8 o, .int .u8 k, .int .i64 n, .string t, .string ⟨tb.toArray⟩, .string ⟨nm.toArray⟩, .int .i64 sl, .int .u8 kd, .slice sa ag.length sc] 34)) q (Ps.Ex.mk o ⟨k, n, t⟩ tb nm sl kd ag) (.slice sa ag.length sc) := by
      refine ⟨hr2.alloc _, (((Steps.refl B w).alloc _).trans hs).alloc _, alloc_keeps (hs.keeps (heap_new rfl) hne) _, heap_new rfl, ?_, hpq, _, Nat.le_of_eq (List.length_drop).symm, HRES.out _ _ HQ.out⟩
      refine ExAt.keep (Kept.of ((Below.refl _ _).alloc (Nat.le_refl _) _)) (fun k hk hl => ⟨?_, by omega⟩) _ _ hx
      have h2 : _ ≤ k := hk
      simp at h2; omega
    obtain ⟨X, hX⟩ : ∃ X, X = w2.heap.size := ⟨_, rfl⟩
    have hRX : w.heap.size < X := by rw [hX]; have := hs.size; simp at this; omega
    have hXB : X ≠ B := by rw [hX]; exact ne_of_lt' hr2.lt
    rw [← hX] at S0 ⊢
    have HS0 := hide S0
    clear hX hx hr2 hs HQ S0 HRES HNO H0
    go_loopw [] (fun wr => ∃ (o k n : Int) (t : ByteArray) (tb nm : List UInt8) (sl kd : Int) (ag : List Ps.Ex) (sa : Option Addr) (sc q : Nat), ChS w B l len d rank r res p w.heap.size X wr q (Ps.Ex.mk o ⟨k, n, t⟩ tb nm sl kd ag) (.slice sa ag.length sc)) (fun wr => l.length - placeOf wr B)
    case atStart => exact ⟨_, _, _, _, _, _, _, _, _, _, _, _, HS0.out⟩
    case round =>
      clear HS0
      obtain ⟨o, k, n, t, tb, nm, sl, kd, ag, sa, sc, q, CS⟩ := hrel
      have CH := hide CS
      have HRD := hide CS.rd
      clear CS
      go_wp2_with (go_at_call 137; refine (OP.out _ _ HRD.out _ rfl).mono ?_; intro e w3 hA; rcases hz : Ps.opAt rank (l.drop q) with _ | op <;> (rw [hz] at hA; obtain ⟨hs3, rfl, hr3⟩ := hA; have HZ := hide hz; have HR3 := hide hr3; have X3 := hs3.keeps CH.out.zx hXB; have Z3 := hs3.keeps CH.out.zr hne; obtain ⟨⟨a0, a1, a2, a3, a4, a5, a6, a7, a8⟩, ⟨b0, b1, b2, b3, b4, b5, b6, b7, b8⟩, _⟩ := sl9 X3; obtain ⟨⟨c0, c1, c2, c3, c4, c5, c6, c7, c8⟩, ⟨d0, d1, d2, d3, d4, d5, d6, d7, d8⟩, _⟩ := sl9 Z3; clear hz hr3))
      · refine ret_ex rfl rfl rfl Z3 (p' := q) (x := (Ps.Ex.mk o ⟨k, n, t⟩ tb nm sl kd ag) ) (by obtain ⟨f', _, e⟩ := CH.out.eq; rw [← e]; exact chain_stop HZ.out _ _) (CH.out.st.trans hs3) (Nat.le_refl _) HB.out (P := fun b => w.heap.size < b ∧ b ≠ X) (fun h => absurd h.1 (Nat.lt_irrefl _)) (fun k hk => Nat.le_of_lt hk.1) ?_ CH.out.pq HR3.out rfl
        exact ExAt.keep (Kept.steps hs3 (fun h => absurd h.1 (by have := HB.out; omega))) (fun _ h _ => h) _ _ CH.out.ex
      · have HST := hide (chain_step HZ.out CH.out.eq)
        have HXE : Hid (∀ wx, Steps B w3 wx → ExAt (fun b => w.heap.size < b ∧ b ≠ X) wx (Ps.Ex.mk o ⟨k, n, t⟩ tb nm sl kd ag) (.slice sa ag.length sc)) := fun wx h => ExAt.keep (Kept.steps (hs3.trans h) (fun h => absurd h.1 (by have := HB.out; omega))) (fun _ h _ => h) _ _ CH.out.ex
        have HSX := hide (CH.out.st.trans hs3)
        have HPQ := hide CH.out.pq
        have HX3 := hide X3
        have HZ3 := hide Z3
        have LQ := hide (fun wx hx => LD.out wx (q + 1) hx)
        have hqp : placeOf wr B = q := HRD.out.place
        have HQP := hide hqp
        have HCR := hide (show X < w3.heap.size from (Array.getElem?_eq_some_iff.1 X3).1)
        have HLT := hide (opAt_lt HZ.out)
        clear HZ CH HRD LD OP hs3 X3 Z3 hqp
        rcases hq2 : r (l.drop (q + 1)) with ⟨⟨o2, ⟨k2, n2, t2⟩, tb2, nm2, sl2, kd2, ag2⟩, ts2⟩ | ⟨c, ts⟩
        · have LO : Hid (∀ wx, Rd wx B l (q + 1) len d → Calls Tryz.prog f #[.pointer (some ⟨B, 0, none⟩)] wx fun e w' => ∃ sa2 sc2 q2, ts2 = l.drop q2 ∧ e = .returned (.agg #[.int .u8 o2, .int .u8 k2, .int .i64 n2, .string t2, .string ⟨tb2.toArray⟩, .string ⟨nm2.toArray⟩, .int .i64 sl2, .int .u8 kd2, .slice sa2 ag2.length sc2]) ∧ ExAt (Fr wx.heap.size) w' (Ps.Ex.mk o2 ⟨k2, n2, t2⟩ tb2 nm2 sl2 kd2 ag2) (.slice sa2 ag2.length sc2) ∧ q + 1 ≤ q2 ∧ Rd w' B l q2 len d ∧ Steps B wx w') := fun wx hx => (LQ.out wx hx).mono fun e w' hA => by
            rcases hA with ⟨o', k', n', t', tb', nm', sl', kd', ag', sa', sc', p', hq, he, hx', hp', hr', hs'⟩ | ⟨c, ts, hq, _⟩
            · rw [hq2] at hq
              injection hq with e1 e2
              injection e1 with e3 e4 e5 e6 e7 e8 e9
              injection e4 with e10 e11 e12
              subst e3 e5 e6 e7 e8 e9 e10 e11 e12
              exact ⟨sa', sc', p', e2, he, hx', hp', hr', hs'⟩
            · rw [hq2] at hq; cases hq
          rw [hq2] at HST
          have TW : Hid (∀ wx sa2 sc2, Steps B w3 wx → X < wx.heap.size → ExAt (Fr w3.heap.size) wx (Ps.Ex.mk o2 ⟨k2, n2, t2⟩ tb2 nm2 sl2 kd2 ag2) (.slice sa2 ag2.length sc2) → Calls Tryz.prog 138 #[.int .u8 op, .agg #[.int .u8 o, .int .u8 k, .int .i64 n, .string t, .string ⟨tb.toArray⟩, .string ⟨nm.toArray⟩, .int .i64 sl, .int .u8 kd, .slice sa ag.length sc], .agg #[.int .u8 o2, .int .u8 k2, .int .i64 n2, .string t2, .string ⟨tb2.toArray⟩, .string ⟨nm2.toArray⟩, .int .i64 sl2, .int .u8 kd2, .slice sa2 ag2.length sc2]] wx fun e w' => ∃ a c, e = .returned (.agg #[.int .u8 op, .int .u8 0, .int .i64 0, .string ⟨#[]⟩, .string ⟨#[]⟩, .string ⟨#[]⟩, .int .i64 0, .int .u8 0, .slice a 2 c]) ∧ ExAt (fun b => w.heap.size < b ∧ b ≠ X) w' (Ps.two op (Ps.Ex.mk o ⟨k, n, t⟩ tb nm sl kd ag) (Ps.Ex.mk o2 ⟨k2, n2, t2⟩ tb2 nm2 sl2 kd2 ag2) ) (.slice a 2 c) ∧ Below wx.heap.size wx w') := fun wx sa2 sc2 h hX hy =>
            ofTwo_laid wx op (Ps.Ex.mk o ⟨k, n, t⟩ tb nm sl kd ag) (Ps.Ex.mk o2 ⟨k2, n2, t2⟩ tb2 nm2 sl2 kd2 ag2) (.slice sa ag.length sc) (.slice sa2 ag2.length sc2) _ (fun k hk => ⟨by omega, by omega⟩) (HXE.out wx h) (ExAt.mono (fun k hk => by have h1 : _ ≤ k := hk; have h2 : X < w3.heap.size := HCR.out; exact ⟨by omega, by omega⟩) _ _ hy)
          clear LQ hq2
          go_region_with (first
            | (go_at_call 138; refine (TW.out _ _ _ ?_ ?_ ?_).mono ?_; exact (Steps.refl B w3).drew.trans hs4; (have h1 := HCR.out; have h2 := hs4.size; exact Nat.lt_of_lt_of_le h1 h2); exact HY.out; rintro e w5 ⟨za, zc, rfl, hz5, hb5⟩; have HZ5 := hide hz5; clear hz5; have X5 := (hb5.block _ (Array.getElem?_eq_some_iff.1 X4).1).trans X4; clear a0 a1 a2 a3 a4 a5 a6 a7 a8 b0 b1 b2 b3 b4 b5 b6 b7 b8; obtain ⟨⟨a0, a1, a2, a3, a4, a5, a6, a7, a8⟩, ⟨b0, b1, b2, b3, b4, b5, b6, b7, b8⟩, _⟩ := sl9 X5)
            | (guard_target =~ Calls _ _ _ _ _; refine (LO.out _ (HR3.out.later (Below.refl _ _).drew)).mono ?_; rintro e w4 ⟨sa2, sc2, q2, hts, rfl, hy, hq2, hr4, hs4⟩; have HY := hide hy; have HTS := hide hts; have HR4 := hide hr4; clear hy hts hr4; have X4 := hs4.keeps (show w3.drew.heap[X]? = _ from HX3.out) hXB; clear a0 a1 a2 a3 a4 a5 a6 a7 a8 b0 b1 b2 b3 b4 b5 b6 b7 b8; obtain ⟨⟨a0, a1, a2, a3, a4, a5, a6, a7, a8⟩, ⟨b0, b1, b2, b3, b4, b5, b6, b7, b8⟩, _⟩ := sl9 X4))
          all_goals
            have hRB : B < w.heap.size := HB.out
            have Z5 := (hb5.block _ (Array.getElem?_eq_some_iff.1 (hs4.keeps (show w3.drew.heap[w.heap.size]? = _ from HZ3.out) hne)).1).trans (hs4.keeps (show w3.drew.heap[w.heap.size]? = _ from HZ3.out) hne)
            have RD5 := (HR4.out.later hb5).keep (put9_below w5 (b := B + 1) (R := X) (by omega) (.int .u8 op) (.int .u8 0) (.int .i64 0) (.string ⟨#[]⟩) (.string ⟨#[]⟩) (.string ⟨#[]⟩) (.int .i64 0) (.int .u8 0) (.slice za 2 zc))
            have CS5 : ChS w B l len d rank r res p w.heap.size X (put9 w5 X (.int .u8 op) (.int .u8 0) (.int .i64 0) (.string ⟨#[]⟩) (.string ⟨#[]⟩) (.string ⟨#[]⟩) (.int .i64 0) (.int .u8 0) (.slice za 2 zc)) q2 (Ps.two op (Ps.Ex.mk o ⟨k, n, t⟩ tb nm sl kd ag) (Ps.Ex.mk o2 ⟨k2, n2, t2⟩ tb2 nm2 sl2 kd2 ag2) ) (.slice za 2 zc) := by
              refine ⟨RD5, put9_steps ((HSX.out.drew.trans hs4).then hb5) (Nat.le_of_lt hRX) _ _ _ _ _ _ _ _ _, put9_other Z5 (Nat.ne_of_lt hRX) _ _ _ _ _ _ _ _ _, put9_heap X5 _ _ _ _ _ _ _ _ _, ?_, by have := HPQ.out; omega, ?_⟩
              · exact ExAt.keep (put9_kept w5 (fun h => h.2 rfl) _ _ _ _ _ _ _ _ _) (fun _ h _ => h) _ _ HZ5.out
              · obtain ⟨f', hf', e⟩ := HST.out
                exact ⟨f', by omega, by rw [← HTS.out]; exact e⟩
            have hpl : l.length - placeOf (put9 w5 X (.int .u8 op) (.int .u8 0) (.int .i64 0) (.string ⟨#[]⟩) (.string ⟨#[]⟩) (.string ⟨#[]⟩) (.int .i64 0) (.int .u8 0) (.slice za 2 zc)) B < l.length - placeOf wr B := by
              rw [RD5.place, HQP.out]; have := HLT.out; omega
            have HC := hide CS5
            have HL := hide hpl
            clear CS5 hpl RD5 Z5
            go_wp2_with (fail)
            exact ⟨⟨_, _, _, _, _, _, _, _, _, _, _, _, HC.out⟩, HL.out⟩
        · have LN : Hid (∀ wx, Rd wx B l (q + 1) len d → Calls Tryz.prog f #[.pointer (some ⟨B, 0, none⟩)] wx fun e w' => e = .panicked [{ v := .iface 41 (.agg #[.int .i64 c, .int .i64 (Ps.faultAt len ts)]), recovered := false }] ∧ Steps B wx w') := fun wx hx => (LQ.out wx hx).mono fun e w' hA => by
            rcases hA with ⟨o', k', n', t', tb', nm', sl', kd', ag', sa', sc', p', hq, he, _⟩ | ⟨c', ts', hq, he, hs'⟩
            · rw [hq2] at hq; cases hq
            · rw [hq2] at hq
              injection hq with e1 e2
              subst e1 e2
              exact ⟨he, hs'⟩
          have HNR : Hid (res = .no c ts) := by obtain ⟨_, _, e⟩ := HST.out; rw [hq2] at e; exact e.symm
          clear LQ hq2
          refine wp_region_any (by kernel_rfl) ?_
          change wpAny _ _ _ _ _ _ _ (World.drew _)
          refine wpAny_take (i := 0) (v := ?vz0_0) rfl (by kernel_rfl) (by kernel_rfl) (by kernel_rfl) (fun _ _ _ h => h) (Or.inl ⟨by rfl, ?hyz0_0⟩) ?restz0_0
          case hyz0_0 => (intro w; go_simp; try with_reducible rfl)
          refine wpAny_take (i := 2) (v := ?vz1_2) rfl (by kernel_rfl) (by kernel_rfl) (by kernel_rfl) (fun _ _ _ h => h) (Or.inl ⟨by rfl, ?hyz1_2⟩) ?restz1_2
          case hyz1_2 => (intro w; go_simp; try with_reducible rfl)
          refine wpAny_ready (rs := [1, 3]) (by kernel_rfl) (by simp) ?_
          refine AllReady.cons rfl (fun K hK => ?_) ?morez
          · go_simp
            refine hK _ _ ?_
            clear hK K
            refine wpAny_ready (rs := [3]) (by kernel_rfl) (by simp) ?_
            refine AllReady.cons rfl (fun K hK => ?_) AllReady.nil
            go_simp
            refine (LN.out _ (HR3.out.later (Below.refl _ _).drew)).mono ?_
            rintro e wz hA
            obtain ⟨rfl, hsz⟩ := hA
            exact bodyPost_thrown (P := Tryz.prog) (fn := Tryz.f84) (R := Ans exIs B l len d w p res) rfl (by rw [HNR.out]; exact Ans.no (HSX.out.drew.trans hsz))
          refine AllReady.cons rfl (fun K hK => ?_) AllReady.nil
          go_simp
          refine (LN.out _ (HR3.out.later (Below.refl _ _).drew)).mono ?_
          rintro e wz hA
          obtain ⟨rfl, hsz⟩ := hA
          exact bodyPost_thrown (P := Tryz.prog) (fn := Tryz.f84) (R := Ans exIs B l len d w p res) rfl (by rw [HNR.out]; exact Ans.no (HSX.out.drew.trans hsz))
  · exact bodyPost_thrown rfl (by rw [HNO.out _ _ HQ.out]; exact Ans.no (((Steps.refl B w).alloc _).trans hs))
end Go.Proofs.YtedamaccflhmfaaGreatDoor
