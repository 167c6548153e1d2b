/-
  Package parser: the reader at its place: over, next, fault, has, took. .. and what follows from it.
-/
import Derived.Test.YtedamaccflhmfaaGreatDoorXF
import Derived.Test.YtedamaccflhmfaaGreatDoorPsP
namespace Go.Proofs.YtedamaccflhmfaaGreatDoor
open Go.RowKit
attribute [local go_sem ↓] Go.wp_at_zero Go.wp_at_succ

/-! ### What the reading turns -/
/-- Of what was there only block B may have turned. -/
structure Steps (B : Nat) (w w' : World) : Prop where
  os : w'.os = w.os
  tape : w'.tape = w.tape
  output : w'.output = w.output
  size : w.heap.size ≤ w'.heap.size
  block : ∀ k, k < w.heap.size → k ≠ B → w'.heap[k]? = w.heap[k]?
theorem Steps.refl (B : Nat) (w : World) : Steps B w w := ⟨rfl, rfl, rfl, Nat.le_refl _, fun _ _ _ => rfl⟩
theorem Steps.trans {B : Nat} {a b c : World} (h : Steps B a b) (k : Steps B b c) : Steps B a c :=
  ⟨k.os.trans h.os, k.tape.trans h.tape, k.output.trans h.output, Nat.le_trans h.size k.size, fun i hi hn => (k.block i (Nat.lt_of_lt_of_le hi h.size) hn).trans (h.block i hi hn)⟩
theorem Steps.of {B : Nat} {w w' : World} (h : Below w.heap.size w w') : Steps B w w' := ⟨h.os, h.tape, h.output, h.size, fun k hk _ => h.block k hk⟩
theorem Steps.then {B : Nat} {a b c : World} (h : Steps B a b) (k : Below b.heap.size b c) : Steps B a c := h.trans (.of k)
theorem Steps.alloc {B : Nat} {a w : World} (h : Steps B a w) (o : Obj) : Steps B a (w.alloc o) := h.then ((Below.refl _ _).alloc (Nat.le_refl _) _)
theorem Steps.drew {B : Nat} {a w : World} (h : Steps B a w) : Steps B a w.drew := h.then (Below.refl _ _).drew
theorem Steps.setCell {B : Nat} {a w : World} (h : Steps B a w) {p : Addr} (hp : a.heap.size ≤ p.block ∨ p.block = B) (u : Value) : Steps B a (w.setCell p u) :=
  ⟨h.os, h.tape, h.output, by simpa [World.setCell] using h.size, fun k hk hn => (Below.heap_setCell _ _ _ _ (by omega)).trans (h.block k hk hn)⟩
theorem Steps.below {B b : Nat} {w w' : World} (h : Steps B w w') (hB : b ≤ B) (hw : b ≤ w.heap.size) : Below b w w' := ⟨h.os, h.tape, h.output, h.size, fun k hk => h.block k (by omega) (by omega)⟩
/-- A block of one's own stays over calls. -/
theorem Steps.keeps {B : Nat} {w w' : World} {k : Nat} {o : Obj} (h : Steps B w w') (e : w.heap[k]? = some o) (hn : k ≠ B) : w'.heap[k]? = some o :=
  (h.block k (Array.getElem?_eq_some_iff.1 e).1 hn).trans e

/-! ### The tables of the package -/
def opsC : List Value := Ps.ops.flatMap fun o => [.int .u8 o.1, .string ⟨o.2.1.toArray⟩, .int .i64 o.2.2]
def aggsC : List Value := Ps.aggs.flatMap fun o => [.int .u8 o.1, .string ⟨o.2.toArray⟩]
def kindL : List (Int × List UInt8) := [(2, [105, 110, 116]), (3, [116, 101, 120, 116]), (1, [98, 111, 111, 108])]
def kindsC : List Value := kindL.flatMap fun o => [.int .u8 o.1, .string ⟨o.2.toArray⟩]
structure PsTab (w : World) : Prop where
  ops : w.heap[5]? = some (.cells opsC.toArray 202 (0, 0))
  aggs : w.heap[4]? = some (.cells aggsC.toArray 201 (0, 0))
  kinds : w.heap[6]? = some (.cells kindsC.toArray 228 (0, 0))
/-- All of them lie below. -/
def tabB : Nat := max (max 5 4) 6 + 1
theorem PsTab.keep {w w' : World} (h : PsTab w) (e : ∀ k, k < tabB → w'.heap[k]? = w.heap[k]?) : PsTab w' :=
  ⟨(e _ (by decide)).trans h.ops, (e _ (by decide)).trans h.aggs, (e _ (by decide)).trans h.kinds⟩
theorem PsTab.later {w w' : World} (h : PsTab w) (hb : Below w.heap.size w w') : PsTab w' :=
  ⟨(hb.block _ (Array.getElem?_eq_some_iff.1 h.ops).1).trans h.ops, (hb.block _ (Array.getElem?_eq_some_iff.1 h.aggs).1).trans h.aggs, (hb.block _ (Array.getElem?_eq_some_iff.1 h.kinds).1).trans h.kinds⟩

/-- A reader at its block: all tokens, how many are read, the text's length, the depth. -/
structure Rd (w : World) (B : Nat) (l : List Lx.Tk) (p len d : Nat) : Prop where
  lies : ∃ a cap, w.heap[B]? = some (.cells #[.slice a l.length cap, .int .i64 p, .int .i64 len, .int .i64 d] 121 (0, 0)) ∧ (l ≠ [] → ∃ b off, a = some ⟨b, off, none⟩ ∧ b < B ∧ TksAt w b off l)
  pl : p ≤ l.length
  ll : l.length ≤ 65536
  nl : len ≤ 65536
  dl : d ≤ 40
  tb : tabB ≤ B
  tab : PsTab w
theorem Rd.later {w w' : World} {B : Nat} {l : List Lx.Tk} {p len d : Nat} (h : Rd w B l p len d) (hb : Below w.heap.size w w') : Rd w' B l p len d := by
  obtain ⟨⟨a, cap, h1, h2⟩, h3, h4, h5, h6, h7, h8⟩ := h
  exact ⟨⟨a, cap, (hb.block _ (Array.getElem?_eq_some_iff.1 h1).1).trans h1, fun hn => by obtain ⟨b, off, e, hne, ht⟩ := h2 hn; exact ⟨b, off, e, hne, ht.later hb⟩⟩, h3, h4, h5, h6, h7, h8.later hb⟩
theorem Rd.keep {w w' : World} {B : Nat} {l : List Lx.Tk} {p len d : Nat} (h : Rd w B l p len d) (hb : Below (B + 1) w w') : Rd w' B l p len d := by
  obtain ⟨⟨a, cap, h1, h2⟩, h3, h4, h5, h6, h7, h8⟩ := h
  refine ⟨⟨a, cap, (hb.block _ (by omega)).trans h1, fun hn => ?_⟩, h3, h4, h5, h6, h7, h8.keep fun k hk => hb.block k (by omega)⟩
  obtain ⟨b, off, e, hne, ht⟩ := h2 hn
  refine ⟨b, off, e, hne, fun j hj => ?_⟩
  obtain ⟨e0, e1, e2, e3⟩ := ht j hj
  exact ⟨(hb.cell (by show b < _; omega)).trans e0, (hb.cell (by show b < _; omega)).trans e1, (hb.cell (by show b < _; omega)).trans e2, (hb.cell (by show b < _; omega)).trans e3⟩
theorem Rd.alloc {w : World} {B : Nat} {l : List Lx.Tk} {p len d : Nat} (h : Rd w B l p len d) (o : Obj) : Rd (w.alloc o) B l p len d := h.later ((Below.refl _ _).alloc (Nat.le_refl _) _)
theorem Rd.lt {w : World} {B : Nat} {l : List Lx.Tk} {p len d : Nat} (h : Rd w B l p len d) : B < w.heap.size := by
  obtain ⟨⟨a, cap, h1, _⟩, _⟩ := h
  exact (Array.getElem?_eq_some_iff.1 h1).1
theorem TksAt.steps {w w' : World} {B b off : Nat} {l : List Lx.Tk} (h : TksAt w b off l) (hs : Steps B w w') (hn : b ≠ B) : TksAt w' b off l := fun j hj => by
  obtain ⟨h0, h1, h2, h3⟩ := h j hj
  have e : w'.heap[b]? = w.heap[b]? := hs.block b (World.block_lt_of_cell? w _ h0) hn
  exact ⟨(World.cell?_of_block (w := w) e).trans h0, (World.cell?_of_block (w := w) e).trans h1, (World.cell?_of_block (w := w) e).trans h2, (World.cell?_of_block (w := w) e).trans h3⟩
theorem heap_set {w : World} {B i : Nat} {cs : Array Value} {T : TypeId} (h : w.heap[B]? = some (.cells cs T (0, 0))) (v : Value) : (w.setCell ⟨B, i, none⟩ v).heap[B]? = some (.cells (cs.setIfInBounds i v) T (0, 0)) := by
  simp only [World.setCell, Array.getElem?_modify, if_pos, h]
  rfl
/-- The reader goes on by a token, or deeper, or back. -/
theorem Rd.put {w : World} {B : Nat} {l : List Lx.Tk} {p len d : Nat} (h : Rd w B l p len d) {q : Nat} (hq : q ≤ l.length) : Rd (w.setCell ⟨B, 1, none⟩ (.int .i64 q)) B l q len d := by
  obtain ⟨⟨a, cap, h1, h2⟩, h3, h4, h5, h6, h7, h8⟩ := h
  exact ⟨⟨a, cap, heap_set h1 _, fun hn => by obtain ⟨b, off, e, hne, ht⟩ := h2 hn; exact ⟨b, off, e, hne, ht.steps ((Steps.refl B w).setCell (.inr rfl) _) (by omega)⟩⟩, hq, h4, h5, h6, h7, h8.keep fun k hk => Below.heap_setCell _ _ _ _ (by show k ≠ B; omega)⟩
theorem Rd.deep {w : World} {B : Nat} {l : List Lx.Tk} {p len d : Nat} (h : Rd w B l p len d) {q : Nat} (hq : q ≤ 40) : Rd (w.setCell ⟨B, 3, none⟩ (.int .i64 q)) B l p len q := by
  obtain ⟨⟨a, cap, h1, h2⟩, h3, h4, h5, h6, h7, h8⟩ := h
  exact ⟨⟨a, cap, heap_set h1 _, fun hn => by obtain ⟨b, off, e, hne, ht⟩ := h2 hn; exact ⟨b, off, e, hne, ht.steps ((Steps.refl B w).setCell (.inr rfl) _) (by omega)⟩⟩, h3, h4, h5, hq, h7, h8.keep fun k hk => Below.heap_setCell _ _ _ _ (by show k ≠ B; omega)⟩

/-- The token at the place, or none. -/
def headT : List Lx.Tk → Lx.Tk
  | [] => ⟨0, [], 0, 0⟩
  | x :: _ => x
theorem head_drop {l : List Lx.Tk} {p : Nat} (h : p < l.length) : headT (l.drop p) = l[p] := by rw [List.drop_eq_getElem_cons h]; rfl
theorem head_over {l : List Lx.Tk} {p : Nat} (h : l.length ≤ p) : headT (l.drop p) = ⟨0, [], 0, 0⟩ := by rw [List.drop_of_length_le h]; rfl
theorem has_head (s : List UInt8) (ts : List Lx.Tk) : Ps.has s ts = ((headT ts).t == s && ((headT ts).k == 1 || (headT ts).k == 4)) := by
  cases ts with
  | nil => simp [Ps.has, headT]
  | cons x r => rfl
theorem has_lt {s : List UInt8} {l : List Lx.Tk} {p : Nat} (h : Ps.has s (l.drop p) = true) : p < l.length := by
  by_cases hp : p < l.length
  · exact hp
  · rw [List.drop_of_length_le (by omega)] at h; cases h

set_option maxHeartbeats 1600000 in
theorem over_any (w : World) (B : Nat) (l : List Lx.Tk) (p len d : Nat) (h : Rd w B l p len d) : Calls Tryz.prog 82 #[.pointer (some ⟨B, 0, none⟩)] w fun e w' => e = .returned (.bool (decide (p = l.length))) ∧ Below w.heap.size w w' := by
  obtain ⟨⟨a, cap, h1, _⟩, _⟩ := h
  obtain ⟨c0, c1, c2, c3, f0, f1, f2, f3, hlt⟩ := slot4 h1
  clear h1
  obtain ⟨b, hb⟩ : ∃ b, b = decide (p = l.length) := ⟨_, rfl⟩
  have HB : Hid (((p : Int) == (l.length : Int)) = b) := by
    show _ = _
    rw [hb, Bool.eq_iff_iff, beq_iff_eq, decide_eq_true_iff]; omega
  rw [← hb]
  clear hb
  go_enter Tryz.func82, Tryz.ntmps82
  go_wp2
  go_quiet (fail)
  go_wp2
  go_ret
  exact ⟨congrArg (fun z => Ending.returned (.bool z)) HB.out, ⟨rfl, rfl, rfl, Nat.le_refl _, fun _ _ => rfl⟩⟩

set_option maxHeartbeats 3200000 in
theorem next_any (w : World) (B : Nat) (l : List Lx.Tk) (p len d : Nat) (h : Rd w B l p len d) : Calls Tryz.prog 135 #[.pointer (some ⟨B, 0, none⟩)] w fun e w' => e = .returned (tokV (headT (l.drop p))) ∧ Below w.heap.size w w' := by
  have OV := hide (fun wx hx => over_any wx B l p len d hx)
  have B0 : Below w.heap.size w (w.alloc tk0) := (Below.refl _ _).alloc (Nat.le_refl _) _
  have H0 := hide (h.later B0)
  by_cases hp : p = l.length
  · have HE : Hid (tokV (headT (l.drop p)) = noTok) := by show _ = _; rw [head_over (by omega)]; rfl
    have hd : decide (p = l.length) = true := decide_eq_true hp
    rw [hd] at OV
    rw [HE.out]
    clear h hp hd HE
    go_enter Tryz.func135, Tryz.ntmps135
    go_wp2_with (go_at_call 82; refine (OV.out _ H0.out).mono ?_; rintro e w2 ⟨rfl, hz⟩; obtain ⟨pz, bb⟩ := tk_mid hz; obtain ⟨y0, y1, y2, y3, u0, u1, u2, u3, ltw⟩ := slot4 pz; clear hz)
    exact bodyPost_ret (v := noTok) (by simp [results, Tryz.results135, go_sem, y0, y1, y2, y3, noTok]; try rfl) rfl ⟨rfl, by first | exact bb | exact below4 bb (Nat.le_refl _) _ _ _ _⟩
  · have hlt : p < l.length := by have := h.pl; omega
    have hd : decide (p = l.length) = false := decide_eq_false hp
    rw [hd] at OV
    obtain ⟨x, hx⟩ : ∃ x, x = l[p] := ⟨_, rfl⟩
    rw [head_drop hlt, ← hx]
    obtain ⟨xs, hxs⟩ : ∃ xs : ByteArray, xs = ⟨x.t.toArray⟩ := ⟨_, rfl⟩
    have hT : tokV x = .agg #[.int .u8 x.k, .string xs, .int .u64 x.n, .int .i64 x.at'] := by rw [hxs]; rfl
    rw [hT]
    obtain ⟨⟨a, cap, h1, h2⟩, _, hll, _⟩ := h
    obtain ⟨b, off, rfl, hne, ht⟩ := h2 (by intro e; rw [e] at hlt; simp at hlt)
    have hlti : (p : Int) < l.length := by omega
    have HT := hide ht
    have HX := hide hx
    have HXS := hide hxs
    have hl1 := hide h1
    clear h1 h2 hT ht hx hxs hd hp
    go_enter Tryz.func135, Tryz.ntmps135
    go_wp2_with (go_at_call 82; refine (OV.out _ H0.out).mono ?_; rintro e w2 ⟨rfl, hz⟩; obtain ⟨pz, bb⟩ := tk_mid hz; obtain ⟨y0, y1, y2, y3, u0, u1, u2, u3, ltw⟩ := slot4 pz; obtain ⟨c0, c1, c2, c3, f0, f1, f2, f3, hltB⟩ := slot4 ((bb.block _ (Array.getElem?_eq_some_iff.1 hl1.out).1).trans hl1.out); obtain ⟨t0, t1, t2, t3⟩ := (HT.out.later bb) p hlt; rw [← HX.out] at t0 t1 t2 t3; rw [← HXS.out] at t1; clear hz)
    go_region
    all_goals
      go_wp2
      exact bodyPost_ret (v := .agg #[.int .u8 x.k, .string xs, .int .u64 x.n, .int .i64 x.at']) (by simp [results, Tryz.results135, go_sem, y0, y1, y2, y3]; try rfl) rfl ⟨rfl, by first | exact below4 bb (Nat.le_refl _) _ _ _ _ | exact below4 bb.drew (Nat.le_refl _) _ _ _ _⟩

/-- A fault as a value. -/
def fltV (e at' : Int) : Value := .agg #[.int .i64 e, .int .i64 at']
theorem fault_at {l : List Lx.Tk} {p : Nat} (h : p < l.length) (len : Nat) : Ps.faultAt len (l.drop p) = (l[p]).at' := by rw [List.drop_eq_getElem_cons h]; rfl
theorem fault_end {l : List Lx.Tk} {p : Nat} (h : l.length ≤ p) (len : Nat) : Ps.faultAt len (l.drop p) = len := by rw [List.drop_of_length_le h]; rfl
theorem two_mid {w w2 : World} {x y : Value} {t : TypeId} (hb : Below (w.alloc (.cells #[x, y] t)).heap.size (w.alloc (.cells #[x, y] t)) w2) : w2.heap[w.heap.size]? = some (.cells #[x, y] t (0, 0)) ∧ Below w.heap.size w w2 := by
  refine ⟨(hb.block _ (by simp)).trans ?_, ((Below.refl _ w).alloc (Nat.le_refl _) _).trans (hb.mono (by simp))⟩
  show (w.heap.push _)[w.heap.size]? = _
  simp
theorem slotP {w : World} {B : Nat} {x y : Value} {t : TypeId} (h : w.heap[B]? = some (.cells #[x, y] t (0, 0))) : w.cell? ⟨B, 0, none⟩ = some x ∧ w.cell? ⟨B, 1, none⟩ = some y ∧ w.frozen? ⟨B, 0, none⟩ = false ∧ w.frozen? ⟨B, 1, none⟩ = false ∧ B < w.heap.size :=
  ⟨Joins.cell_of_block h 0, Joins.cell_of_block h 1, Joins.unfrozen_of_block h 0, Joins.unfrozen_of_block h 1, (Array.getElem?_eq_some_iff.1 h).1⟩

set_option maxRecDepth 100000 in
set_option maxHeartbeats 3200000 in
theorem fault_any (w : World) (B : Nat) (l : List Lx.Tk) (p len d : Nat) (h : Rd w B l p len d) (c : Int) : Calls Tryz.prog 83 #[.pointer (some ⟨B, 0, none⟩), .int .i64 c] w fun e w' => e = .returned (fltV c (Ps.faultAt len (l.drop p))) ∧ Below w.heap.size w w' := by
  have OV := hide (fun wx hx => over_any wx B l p len d hx)
  have NX := hide (fun wx hx => next_any wx B l p len d hx)
  have H0 := hide (h.alloc (.cells #[.int .i64 0, .int .i64 0] 41))
  by_cases hp : p = l.length
  · have hd : decide (p = l.length) = true := decide_eq_true hp
    rw [hd] at OV
    rw [fault_end (by omega)]
    obtain ⟨⟨a, cap, h1, h2⟩, _⟩ := h
    have HL := hide h1
    clear h1 h2 hp hd NX
    go_enter Tryz.func83, Tryz.ntmps83
    go_wp2_with (go_at_call 82; refine (OV.out _ H0.out).mono ?_; rintro e w2 ⟨rfl, hz⟩; obtain ⟨pz, bb⟩ := two_mid hz; obtain ⟨y0, y1, u0, u1, ltw⟩ := slotP pz; obtain ⟨c0, c1, c2, c3, f0, f1, f2, f3, hltB⟩ := slot4 ((bb.block _ (Array.getElem?_eq_some_iff.1 HL.out).1).trans HL.out); clear hz)
    try go_quiet (fail)
    try go_wp2
    exact bodyPost_ret (v := .agg #[.int .i64 c, .int .i64 len]) (by simp [results, Tryz.results83, go_sem, y0, y1]; try rfl) rfl ⟨rfl, by first | exact (bb.setCell (Nat.le_refl _) _).setCell (Nat.le_refl _) _ | exact (bb.drew.setCell (Nat.le_refl _) _).setCell (Nat.le_refl _) _⟩
  · have hlt : p < l.length := by have := h.pl; omega
    have hd : decide (p = l.length) = false := decide_eq_false hp
    rw [hd] at OV
    obtain ⟨x, hx⟩ : ∃ x, x = l[p] := ⟨_, rfl⟩
    rw [fault_at hlt, ← hx]
    rw [head_drop hlt, ← hx] at NX
    have NX2 : Hid (∀ wx, Rd wx B l p len d → Calls Tryz.prog 135 #[.pointer (some ⟨B, 0, none⟩)] wx fun e w' => e = .returned (.agg #[.int .u8 x.k, .string ⟨x.t.toArray⟩, .int .u64 x.n, .int .i64 x.at']) ∧ Below wx.heap.size wx w') := NX
    clear h hx hp hd NX
    have FD : ∀ (a b c d : Value) (w : World), (Instr.field 60 (.agg #[a, b, c, d]) 3).run Tryz.prog w = .ok d w := fun _ _ _ _ _ => rfl
    go_enter Tryz.func83, Tryz.ntmps83
    go_wp2_with (first
      | (go_at_call 82; refine (OV.out _ H0.out).mono ?_; rintro e w2 ⟨rfl, hz⟩; have H2 := hide (H0.out.later hz))
      | (go_at_call 135; refine (NX2.out _ H2.out).mono ?_; rintro e w3 ⟨rfl, hy⟩; obtain ⟨pz, bb⟩ := two_mid (hz.trans (hy.mono hz.size)); obtain ⟨y0, y1, u0, u1, ltw⟩ := slotP pz; clear hz hy))
    try go_wp2
    exact bodyPost_ret (v := .agg #[.int .i64 c, .int .i64 x.at']) (by simp [results, Tryz.results83, go_sem, y0, y1]; try rfl) rfl ⟨rfl, by first | exact (bb.setCell (Nat.le_refl _) _).setCell (Nat.le_refl _) _ | exact (bb.drew.setCell (Nat.le_refl _) _).setCell (Nat.le_refl _) _⟩

set_option maxHeartbeats 3200000 in
theorem has_any (w : World) (B : Nat) (l : List Lx.Tk) (p len d : Nat) (h : Rd w B l p len d) (s : ByteArray) : Calls Tryz.prog 81 #[.pointer (some ⟨B, 0, none⟩), .string s] w fun e w' => e = .returned (.bool (Ps.has s.data.toList (l.drop p))) ∧ Below w.heap.size w w' := by
  have NX := hide (fun wx hx => next_any wx B l p len d hx)
  obtain ⟨x, hx⟩ : ∃ x, x = headT (l.drop p) := ⟨_, rfl⟩
  rw [has_head, ← hx]
  rw [← hx] at NX
  obtain ⟨xs, hxs⟩ : ∃ xs : ByteArray, xs = ⟨x.t.toArray⟩ := ⟨_, rfl⟩
  have NX2 : Hid (∀ wx, Rd wx B l p len d → Calls Tryz.prog 135 #[.pointer (some ⟨B, 0, none⟩)] wx fun e w' => e = .returned (.agg #[.int .u8 x.k, .string xs, .int .u64 x.n, .int .i64 x.at']) ∧ Below wx.heap.size wx w') := by rw [hxs]; exact NX
  have HX : Hid (x.t = xs.data.toList) := by show _ = _; rw [hxs]
  have H0 := hide h
  clear h hx hxs NX
  rw [HX.out]
  go_enter Tryz.func81, Tryz.ntmps81
  go_wp2_with (go_at_call 135; refine (NX2.out _ H0.out).mono ?_; rintro e w2 ⟨rfl, hz⟩)
  all_goals
    go_ret
    refine ⟨?_, hz.alloc hz.size _⟩
    rw [← ByteArray.toList_eq, ← ByteArray.toList_eq]
    first | rfl | simp_all
end Go.Proofs.YtedamaccflhmfaaGreatDoor
namespace Go.Proofs.YtedamaccflhmfaaGreatDoor
open Go.RowKit

/-- An expression's nine cells, and the expression as a value; S: the slice of its arguments. -/
def exC : Ps.Ex → Value → List Value
  | .mk op v tb nm slot kd _, S => [.int .u8 op, .int .u8 v.k, .int .i64 v.n, .string v.t, .string ⟨tb.toArray⟩, .string ⟨nm.toArray⟩, .int .i64 slot, .int .u8 kd, S]
def exV (x : Ps.Ex) (S : Value) : Value := .agg (exC x S).toArray
theorem exC_len (x : Ps.Ex) (S : Value) : (exC x S).length = 9 := by cases x; rfl
mutual
/-- The slice S has the expression's arguments, in blocks of which P holds. -/
def ExAt (P : Nat → Prop) (w : World) : Ps.Ex → Value → Prop
  | .mk _ _ _ _ _ _ args, S => ∃ a cap, S = .slice a args.length cap ∧ (args ≠ [] → ∃ b off, a = some ⟨b, off, none⟩ ∧ P b ∧ ExsAt P w args b off)
def ExsAt (P : Nat → Prop) (w : World) : List Ps.Ex → Nat → Nat → Prop
  | [], _, _ => True
  | x :: r, b, off => (∃ S, (∀ i, i < 9 → w.cell? ⟨b, off + i, none⟩ = (exC x S)[i]?) ∧ ExAt P w x S) ∧ ExsAt P w r b (off + 9)
end
/-- A slice of expressions. -/
def ExsIn (P : Nat → Prop) (w : World) (l : List Ps.Ex) (S : Value) : Prop := ∃ a cap, S = .slice a l.length cap ∧ (l ≠ [] → ∃ b off, a = some ⟨b, off, none⟩ ∧ P b ∧ ExsAt P w l b off)
theorem exAt_mk (P : Nat → Prop) (w : World) (op : Int) (v : Val) (tb nm : List UInt8) (slot kd : Int) (args : List Ps.Ex) (S : Value) : ExAt P w (.mk op v tb nm slot kd args) S = ExsIn P w args S := by rw [ExAt]; rfl
/-- The blocks from lo on. -/
abbrev Fr (lo : Nat) : Nat → Prop := fun b => lo ≤ b

/-- In the blocks of which P holds the world w' is as w was. -/
def Kept (P : Nat → Prop) (w w' : World) : Prop := ∀ k, P k → k < w.heap.size → w'.heap[k]? = w.heap[k]?
theorem ExsAt.lt {P : Nat → Prop} {w : World} : ∀ (l : List Ps.Ex) (b off : Nat), l ≠ [] → ExsAt P w l b off → b < w.heap.size
  | [], _, _, hn, _ => absurd rfl hn
  | x :: r, b, off, _, h => by
    rw [ExsAt] at h
    obtain ⟨⟨S, hc, hx⟩, hr⟩ := h
    have h0 := hc 0 (by omega)
    have h1 : (exC x S)[0]? = some ((exC x S)[0]'(by rw [exC_len]; omega)) := List.getElem?_eq_getElem _
    rw [h1] at h0
    exact World.block_lt_of_cell? w _ h0
mutual
/-- Where it stood it stands; Q: of all blocks that were there and of which P holds. -/
theorem ExAt.keep {P Q : Nat → Prop} {w w' : World} (hk : Kept P w w') (hq : ∀ k, P k → k < w.heap.size → Q k) : ∀ (x : Ps.Ex) (S : Value), ExAt P w x S → ExAt Q w' x S
  | .mk _ _ _ _ _ _ args, S, h => by
    rw [ExAt] at h ⊢
    obtain ⟨a, cap, e, hf⟩ := h
    refine ⟨a, cap, e, fun hn => ?_⟩
    obtain ⟨b, off, e2, hb, hx⟩ := hf hn
    exact ⟨b, off, e2, hq b hb (ExsAt.lt args b off hn hx), ExsAt.keep hk hq args b off hb hx⟩
theorem ExsAt.keep {P Q : Nat → Prop} {w w' : World} (hk : Kept P w w') (hq : ∀ k, P k → k < w.heap.size → Q k) : ∀ (l : List Ps.Ex) (b off : Nat), P b → ExsAt P w l b off → ExsAt Q w' l b off
  | [], _, _, _, _ => by rw [ExsAt]; trivial
  | x :: r, b, off, hb, h => by
    rw [ExsAt] at h ⊢
    obtain ⟨⟨S, hc, hx⟩, hr⟩ := h
    refine ⟨⟨S, fun i hi => ?_, ExAt.keep hk hq x S hx⟩, ExsAt.keep hk hq r b (off + 9) hb hr⟩
    have h0 := hc i hi
    have h1 : (exC x S)[i]? = some ((exC x S)[i]'(by rw [exC_len]; exact hi)) := List.getElem?_eq_getElem _
    rw [h1] at h0 ⊢
    exact (World.cell?_of_block (w := w) (hk b hb (World.block_lt_of_cell? w _ h0))).trans h0
end
theorem ExsIn.keep {P Q : Nat → Prop} {w w' : World} {l : List Ps.Ex} {S : Value} (h : ExsIn P w l S) (hk : Kept P w w') (hq : ∀ k, P k → k < w.heap.size → Q k) : ExsIn Q w' l S := by
  obtain ⟨a, cap, e, hf⟩ := h
  exact ⟨a, cap, e, fun hn => by obtain ⟨b, off, e2, hb, hx⟩ := hf hn; exact ⟨b, off, e2, hq b hb (ExsAt.lt _ _ _ hn hx), hx.keep hk hq _ _ _ hb⟩⟩
theorem Kept.refl (P : Nat → Prop) (w : World) : Kept P w w := fun _ _ _ => rfl
theorem ExAt.mono {P Q : Nat → Prop} {w : World} (hq : ∀ k, P k → Q k) (x : Ps.Ex) (S : Value) (h : ExAt P w x S) : ExAt Q w x S := h.keep (Kept.refl P w) (fun k hk _ => hq k hk) x S
theorem ExsIn.mono {P Q : Nat → Prop} {w : World} {l : List Ps.Ex} {S : Value} (h : ExsIn P w l S) (hq : ∀ k, P k → Q k) : ExsIn Q w l S := h.keep (Kept.refl P w) fun k hk _ => hq k hk
theorem Kept.of {P : Nat → Prop} {w w' : World} (h : Below w.heap.size w w') : Kept P w w' := fun k _ hk => h.block k hk
theorem Kept.steps {P : Nat → Prop} {B : Nat} {w w' : World} (h : Steps B w w') (hB : ¬ P B) : Kept P w w' := fun k hl hk => h.block k hk (fun e => hB (e ▸ hl))

/-- What a reader's call answers: what is read, or the fault thrown. -/
def Ans {α : Type} (val : Nat → World → α → Value → Prop) (B : Nat) (l : List Lx.Tk) (len d : Nat) (w0 : World) (p : Nat) (r : Ps.R α) (e : Ending) (w' : World) : Prop :=
  Steps B w0 w' ∧ match r with
    | .ok a ts => (∃ V, e = .returned V ∧ val w0.heap.size w' a V) ∧ ∃ p', p ≤ p' ∧ ts = l.drop p' ∧ Rd w' B l p' len d
    | .no c ts => e = .panicked [{ v := .iface 41 (fltV c (Ps.faultAt len ts)), recovered := false }]
/-- An expression as an answer. -/
def exIs (lo : Nat) (w : World) (x : Ps.Ex) (V : Value) : Prop := ∃ S, V = exV x S ∧ ExAt (Fr lo) w x S
def strIs (_ : Nat) (_ : World) (s : List UInt8) (V : Value) : Prop := V = .string ⟨s.toArray⟩
def natIs (_ : Nat) (_ : World) (n : Nat) (V : Value) : Prop := V = .int .u64 n
def unitIs (_ : Nat) (_ : World) (_ : Unit) (V : Value) : Prop := V = .tuple #[]

theorem Ans.ok {α : Type} {val : Nat → World → α → Value → Prop} {B : Nat} {l : List Lx.Tk} {len d : Nat} {w0 : World} {p : Nat} {a : α} {w' : World} {V : Value} (p' : Nat) (hs : Steps B w0 w') (hv : val w0.heap.size w' a V) (hp : p ≤ p') (hr : Rd w' B l p' len d) : Ans val B l len d w0 p (.ok a (l.drop p')) (.returned V) w' := ⟨hs, ⟨V, rfl, hv⟩, p', hp, rfl, hr⟩
theorem Ans.no {α : Type} {val : Nat → World → α → Value → Prop} {B : Nat} {l : List Lx.Tk} {len d : Nat} {w0 : World} {p : Nat} {c : Int} {ts : List Lx.Tk} {w' : World} (hs : Steps B w0 w') : Ans val B l len d w0 p (.no c ts) (.panicked [{ v := .iface 41 (.agg #[.int .i64 c, .int .i64 (Ps.faultAt len ts)]), recovered := false }]) w' := ⟨hs, rfl⟩
theorem bodyPost_thrown {P : Program} {fn : Func} {R : Ending → World → Prop} {ch : List PanicEntry} {a : Act} {w : World} (hd : a.defers = []) (h : R (.panicked ch) w) : bodyPost P fn R (.panic ch) a w := ⟨hd, h⟩
theorem Ans.elim {α : Type} {val : Nat → World → α → Value → Prop} {B : Nat} {l : List Lx.Tk} {len d : Nat} {w0 : World} {p : Nat} {r : Ps.R α} {e : Ending} {w' : World} (h : Ans val B l len d w0 p r e w') :
    (∃ a p' V, r = .ok a (l.drop p') ∧ e = .returned V ∧ val w0.heap.size w' a V ∧ p ≤ p' ∧ Rd w' B l p' len d ∧ Steps B w0 w') ∨ (∃ c ts, r = .no c ts ∧ e = .panicked [{ v := .iface 41 (.agg #[.int .i64 c, .int .i64 (Ps.faultAt len ts)]), recovered := false }] ∧ Steps B w0 w') := by
  cases r with
  | ok a ts =>
    obtain ⟨hs, ⟨V, hv, hi⟩, p', hp, rfl, hr⟩ := h
    exact .inl ⟨a, p', V, rfl, hv, hi, hp, hr, hs⟩
  | no c ts => exact .inr ⟨c, ts, rfl, h.2, h.1⟩
theorem Ans.of_ok {α : Type} {val : Nat → World → α → Value → Prop} {B : Nat} {l : List Lx.Tk} {len d : Nat} {w0 : World} {p : Nat} {a : α} {ts : List Lx.Tk} {e : Ending} {w' : World} (h : Ans val B l len d w0 p (.ok a ts) e w') : ∃ p' V, ts = l.drop p' ∧ e = .returned V ∧ val w0.heap.size w' a V ∧ p ≤ p' ∧ Rd w' B l p' len d ∧ Steps B w0 w' := by
  obtain ⟨hs, ⟨V, hv, hi⟩, p', hp, ht, hr⟩ := h
  exact ⟨p', V, ht, hv, hi, hp, hr, hs⟩
theorem Ans.of_no {α : Type} {val : Nat → World → α → Value → Prop} {B : Nat} {l : List Lx.Tk} {len d : Nat} {w0 : World} {p : Nat} {c : Int} {ts : List Lx.Tk} {e : Ending} {w' : World} (h : Ans val B l len d w0 p (.no c ts) e w') : e = .panicked [{ v := .iface 41 (.agg #[.int .i64 c, .int .i64 (Ps.faultAt len ts)]), recovered := false }] ∧ Steps B w0 w' := ⟨h.2, h.1⟩
/-- An expression that was answered, laid open. -/
theorem exIs.laid {lo : Nat} {w : World} {op : Int} {v : Val} {tb nm : List UInt8} {sl kd : Int} {ag : List Ps.Ex} {V : Value} (h : exIs lo w (.mk op v tb nm sl kd ag) V) : ∃ a c, V = .agg #[.int .u8 op, .int .u8 v.k, .int .i64 v.n, .string v.t, .string ⟨tb.toArray⟩, .string ⟨nm.toArray⟩, .int .i64 sl, .int .u8 kd, .slice a ag.length c] ∧ ExAt (Fr lo) w (.mk op v tb nm sl kd ag) (.slice a ag.length c) := by
  obtain ⟨S, rfl, hx⟩ := h
  have hx2 := hx
  rw [ExAt] at hx2
  obtain ⟨a, c, rfl, _⟩ := hx2
  exact ⟨a, c, rfl, hx⟩
end Go.Proofs.YtedamaccflhmfaaGreatDoor
namespace Go.Proofs.YtedamaccflhmfaaGreatDoor
open Go.RowKit
attribute [local go_sem ↓] Go.wp_at_zero Go.wp_at_succ

theorem Rd.cells {w : World} {B : Nat} {l : List Lx.Tk} {p len d : Nat} (h : Rd w B l p len d) : ∃ v : Value, w.cell? ⟨B, 0, none⟩ = some v ∧ w.cell? ⟨B, 1, none⟩ = some (.int .i64 p) ∧ w.cell? ⟨B, 2, none⟩ = some (.int .i64 len) ∧ w.cell? ⟨B, 3, none⟩ = some (.int .i64 d) ∧ w.frozen? ⟨B, 0, none⟩ = false ∧ w.frozen? ⟨B, 1, none⟩ = false ∧ w.frozen? ⟨B, 2, none⟩ = false ∧ w.frozen? ⟨B, 3, none⟩ = false ∧ B < w.heap.size := by
  obtain ⟨⟨a, cap, h1, _⟩, _⟩ := h
  exact ⟨_, slot4 h1⟩

set_option maxHeartbeats 3200000 in
theorem took_any (w : World) (B : Nat) (l : List Lx.Tk) (p len d : Nat) (h : Rd w B l p len d) (s : ByteArray) (b : Bool) (hb : b = Ps.has s.data.toList (l.drop p)) : Calls Tryz.prog 50 #[.pointer (some ⟨B, 0, none⟩), .string s] w fun e w' => e = .returned (.bool b) ∧ Rd w' B l (if b then p + 1 else p) len d ∧ Steps B w w' := by
  have HA := hide (has_any w B l p len d h s)
  rw [← hb] at HA
  have H0 := hide h
  cases b with
  | false =>
    clear h hb
    go_enter Tryz.func50, Tryz.ntmps50
    go_wp2_with (go_at_call 81; refine HA.out.mono ?_; rintro e w2 ⟨rfl, hz⟩)
    go_ret
    exact ⟨rfl, H0.out.later hz, .of hz⟩
  | true =>
    have hlt := has_lt hb.symm
    have hl := h.ll
    clear h hb
    go_enter Tryz.func50, Tryz.ntmps50
    go_wp2_with (go_at_call 81; refine HA.out.mono ?_; rintro e w2 ⟨rfl, hz⟩; obtain ⟨v0, c0, c1, c2, c3, f0, f1, f2, f3, hB⟩ := (H0.out.later hz).cells)
    go_ret
    refine ⟨rfl, ?_, Steps.setCell (B := B) (p := ⟨B, 1, none⟩) (.of hz) (.inr rfl) _⟩
    exact (H0.out.later hz).put (q := p + 1) hlt

/-- The call that throws. -/
abbrev Thrown (B : Nat) (l : List Lx.Tk) (p len d : Nat) : Prop := ∀ (wx : World) (c : Int), Rd wx B l p len d → Calls Tryz.prog 83 #[.pointer (some ⟨B, 0, none⟩), .int .i64 c] wx fun e w' => e = .returned (.agg #[.int .i64 c, .int .i64 (Ps.faultAt len (l.drop p))]) ∧ Below wx.heap.size wx w'
theorem thrown_any (B : Nat) (l : List Lx.Tk) (p len d : Nat) : Thrown B l p len d := fun wx c h => fault_any wx B l p len d h c

theorem drop_nil {l : List Lx.Tk} {p : Nat} (h : p = l.length) : l.drop p = [] := List.drop_of_length_le (by omega)
theorem drop_ne {l : List Lx.Tk} {p : Nat} (h : p < l.length) : (l.drop p).isEmpty = false := by rw [List.drop_eq_getElem_cons h]; rfl
set_option maxHeartbeats 3200000 in
theorem end_any (w : World) (B : Nat) (l : List Lx.Tk) (p len d : Nat) (h : Rd w B l p len d) (r : Ps.R Unit) (hr : r = if (l.drop p).isEmpty then .ok () [] else .no 240 (l.drop p)) : Calls Tryz.prog 51 #[.pointer (some ⟨B, 0, none⟩)] w (Ans unitIs B l len d w p r) := by
  have OV := hide (over_any w B l p len d h)
  have TH := hide (thrown_any B l p len d)
  have H0 := hide h
  by_cases hp : p = l.length
  · have e0 := drop_nil hp
    have hd : decide (p = l.length) = true := decide_eq_true hp
    rw [hd] at OV
    rw [e0, List.isEmpty_nil, if_pos rfl, ← e0] at hr
    subst hr
    clear h hd hp e0
    go_enter Tryz.func51, Tryz.ntmps51
    go_wp2_with (go_at_call 82; refine OV.out.mono ?_; rintro e w2 ⟨rfl, hz⟩)
    exact bodyPost_end (v := .tuple #[]) (by simp [results, Tryz.results51]) rfl (Ans.ok p (.of hz) rfl (Nat.le_refl _) (H0.out.later hz))
  · have hlt : p < l.length := by have := h.pl; omega
    have hd : decide (p = l.length) = false := decide_eq_false hp
    rw [hd] at OV
    rw [drop_ne hlt, if_neg (by decide)] at hr
    subst hr
    clear h hd hp
    go_enter Tryz.func51, Tryz.ntmps51
    go_wp2_with (first
      | (go_at_call 82; refine OV.out.mono ?_; rintro e w2 ⟨rfl, hz⟩)
      | (go_at_call 83; refine (TH.out _ _ (H0.out.later hz)).mono ?_; rintro e w3 ⟨rfl, hy⟩))
    exact bodyPost_thrown rfl (Ans.no (.of (hz.trans (hy.mono hz.size))))

theorem name_nil (p : Nat) {l : List Lx.Tk} (h : l.length ≤ p) : Ps.name (l.drop p) = .no 240 (l.drop p) := by rw [List.drop_of_length_le h]; rfl
theorem name_head {l : List Lx.Tk} {p : Nat} (h : p < l.length) : Ps.name (l.drop p) = if (l[p]).k == 1 && !resL.contains (l[p]).t then .ok (l[p]).t (l.drop (p + 1)) else .no 240 (l.drop p) := by
  rw [List.drop_eq_getElem_cons h]; rfl
theorem name_is (l : List Lx.Tk) (p : Nat) : Ps.name (l.drop p) = if (headT (l.drop p)).k == 1 && !resL.contains (headT (l.drop p)).t then .ok (headT (l.drop p)).t (l.drop (p + 1)) else .no 240 (l.drop p) := by
  by_cases h : p < l.length
  · rw [name_head h, head_drop h]
  · rw [name_nil p (by omega), head_over (by omega)]; rfl
theorem head_lt {l : List Lx.Tk} {p : Nat} {k : Int} (hk : k ≠ 0) (h : (headT (l.drop p)).k = k) : p < l.length := by
  by_cases h1 : p < l.length
  · exact h1
  · rw [head_over (by omega)] at h; exact absurd h.symm hk

set_option maxHeartbeats 3200000 in
theorem name_any (w : World) (B : Nat) (l : List Lx.Tk) (p len d : Nat) (h : Rd w B l p len d) : Calls Tryz.prog 80 #[.pointer (some ⟨B, 0, none⟩)] w (Ans strIs B l len d w p (Ps.name (l.drop p))) := by
  have TH := hide (thrown_any B l p len d)
  have NX := hide (next_any w B l p len d h)
  have H0 := hide h
  have hl := h.ll
  have hpl := h.pl
  have LT : Hid ((headT (l.drop p)).k = 1 → p < l.length) := head_lt (by decide)
  rw [name_is]
  obtain ⟨x, hx⟩ : ∃ x, x = headT (l.drop p) := ⟨_, rfl⟩
  rw [← hx] at NX LT ⊢
  obtain ⟨xs, hxs⟩ : ∃ xs : ByteArray, xs = ⟨x.t.toArray⟩ := ⟨_, rfl⟩
  have NX2 : Hid (Calls Tryz.prog 135 #[.pointer (some ⟨B, 0, none⟩)] w fun e w' => e = .returned (.agg #[.int .u8 x.k, .string xs, .int .u64 x.n, .int .i64 x.at']) ∧ Below w.heap.size w w') := by rw [hxs]; exact NX
  have RV := hide (fun wx => reserved_any wx xs)
  have HX : Hid (xs = ⟨x.t.toArray⟩) := hxs
  have hxt : xs.data.toList = x.t := by rw [hxs]
  rw [hxt] at RV
  obtain ⟨b, hb⟩ : ∃ b, b = resL.contains x.t := ⟨_, rfl⟩
  rw [← hb] at RV ⊢
  obtain ⟨k, hk⟩ : ∃ k, k = x.k := ⟨_, rfl⟩
  rw [← hk] at NX2 LT ⊢
  obtain ⟨r, hr⟩ : ∃ r : Ps.R (List UInt8), r = if k == 1 && !b then .ok x.t (l.drop (p + 1)) else .no 240 (l.drop p) := ⟨_, rfl⟩
  rw [← hr]
  have R1 : Hid (k = 1 → b = false → r = .ok x.t (l.drop (p + 1))) := fun e1 e2 => by rw [hr, e1, e2]; rfl
  have R2 : Hid (b = true → r = .no 240 (l.drop p)) := fun e1 => by rw [hr, e1]; simp
  have R3 : Hid (¬ k = 1 → r = .no 240 (l.drop p)) := fun e1 => by rw [hr, if_neg (by simp [e1])]
  clear h hx hxs NX hb hxt hk hr
  go_enter Tryz.func80, Tryz.ntmps80
  go_wp2_with (first
    | (go_at_call 135; refine NX2.out.mono ?_; rintro e w2 ⟨rfl, hz⟩; have H2 := hide (H0.out.later hz); obtain ⟨v0, c0, c1, c2, c3, f0, f1, f2, f3, hB⟩ := H2.out.cells)
    | (go_at_call 136; refine (RV.out _).mono ?_; rintro e w3 ⟨rfl, rfl⟩)
    | (go_at_call 83; refine (TH.out _ _ (H2.out.alloc _)).mono ?_; rintro e w4 ⟨rfl, hy⟩))
  · rw [R2.out (by assumption)]
    exact bodyPost_thrown rfl (Ans.no (((Steps.of hz).alloc _).then hy))
  · rename_i e1 e2
    rw [R1.out e1 e2]
    go_ret
    refine Ans.ok (p + 1) ((Steps.setCell (B := B) (p := ⟨B, 1, none⟩) (.of hz) (.inr rfl) _).alloc _) ?_ (by omega) ((H2.out.put (LT.out e1)).alloc _)
    show _ = _
    rw [HX.out]; rfl
  · rw [R3.out (by assumption)]
    exact bodyPost_thrown rfl (Ans.no (((Steps.of hz).alloc _).then hy))

theorem number_is (most : Nat) (l : List Lx.Tk) (p : Nat) : Ps.number most (l.drop p) = if (headT (l.drop p)).k == 2 then (if (headT (l.drop p)).n ≤ most then .ok (headT (l.drop p)).n (l.drop (p + 1)) else .no 233 (l.drop p)) else .no 240 (l.drop p) := by
  by_cases h : p < l.length
  · rw [head_drop h, List.drop_eq_getElem_cons h]; rfl
  · rw [head_over (by omega), List.drop_of_length_le (by omega)]; rfl

set_option maxHeartbeats 3200000 in
theorem number_any (w : World) (B : Nat) (l : List Lx.Tk) (p len d : Nat) (h : Rd w B l p len d) (most : Nat) : Calls Tryz.prog 128 #[.pointer (some ⟨B, 0, none⟩), .int .u64 most] w (Ans natIs B l len d w p (Ps.number most (l.drop p))) := by
  have TH := hide (thrown_any B l p len d)
  have NX := hide (next_any w B l p len d h)
  have H0 := hide h
  have hl := h.ll
  have hpl := h.pl
  have LT : Hid ((headT (l.drop p)).k = 2 → p < l.length) := head_lt (by decide)
  rw [number_is]
  obtain ⟨x, hx⟩ : ∃ x, x = headT (l.drop p) := ⟨_, rfl⟩
  rw [← hx] at NX LT ⊢
  obtain ⟨xs, hxs⟩ : ∃ xs : ByteArray, xs = ⟨x.t.toArray⟩ := ⟨_, rfl⟩
  have NX2 : Hid (Calls Tryz.prog 135 #[.pointer (some ⟨B, 0, none⟩)] w fun e w' => e = .returned (.agg #[.int .u8 x.k, .string xs, .int .u64 x.n, .int .i64 x.at']) ∧ Below w.heap.size w w') := by rw [hxs]; exact NX
  obtain ⟨k, hk⟩ : ∃ k, k = x.k := ⟨_, rfl⟩
  obtain ⟨n, hn⟩ : ∃ n, n = x.n := ⟨_, rfl⟩
  rw [← hn] at NX2 ⊢
  rw [← hk] at NX2 LT ⊢
  obtain ⟨r, hr⟩ : ∃ r : Ps.R Nat, r = if k == 2 then (if n ≤ most then .ok n (l.drop (p + 1)) else .no 233 (l.drop p)) else .no 240 (l.drop p) := ⟨_, rfl⟩
  rw [← hr]
  have K2 : (k != 2) = false → k = 2 := fun e => by simpa using e
  have R1 : Hid ((k != 2) = false → ¬ most < n → r = .ok n (l.drop (p + 1))) := fun e1 e2 => by rw [hr, K2 e1, if_pos (by decide), if_pos (by omega)]
  have R2 : Hid ((k != 2) = false → most < n → r = .no 233 (l.drop p)) := fun e1 e2 => by rw [hr, K2 e1, if_pos (by decide), if_neg (by omega)]
  have R3 : Hid ((k != 2) = true → r = .no 240 (l.drop p)) := fun e1 => by rw [hr, if_neg (by intro e; simp at e e1; exact e1 e)]
  have LT2 : Hid ((k != 2) = false → p < l.length) := fun e => LT.out (K2 e)
  clear h hx hxs NX hk hr hn LT K2
  go_enter Tryz.func128, Tryz.ntmps128
  go_wp2_with (first
    | (go_at_call 135; refine NX2.out.mono ?_; rintro e w2 ⟨rfl, hz⟩; have H2 := hide (H0.out.later hz); obtain ⟨v0, c0, c1, c2, c3, f0, f1, f2, f3, hB⟩ := H2.out.cells)
    | (go_at_call 83; refine (TH.out _ _ (H2.out.alloc _)).mono ?_; rintro e w4 ⟨rfl, hy⟩))
  · rw [R3.out (by assumption)]
    exact bodyPost_thrown rfl (Ans.no (((Steps.of hz).alloc _).then hy))
  · rw [R2.out (by assumption) (by assumption)]
    exact bodyPost_thrown rfl (Ans.no (((Steps.of hz).alloc _).then hy))
  · rw [R1.out (by assumption) (by assumption)]
    go_ret
    exact Ans.ok (p + 1) ((Steps.setCell (B := B) (p := ⟨B, 1, none⟩) (.of hz) (.inr rfl) _).alloc _) rfl (by omega) ((H2.out.put (LT2.out (by assumption))).alloc _)

set_option maxHeartbeats 3200000 in
theorem room_any (w : World) (B : Nat) (l : List Lx.Tk) (p len d : Nat) (h : Rd w B l p len d) (n most : Nat) (r : Ps.R Unit) (hr : r = if Ps.room n most (l.drop p) then .ok () (l.drop p) else .no 3 (l.drop p)) : Calls Tryz.prog 164 #[.pointer (some ⟨B, 0, none⟩), .int .i64 n, .int .i64 most] w (Ans unitIs B l len d w p r) := by
  have OV := hide (over_any w B l p len d h)
  have TH := hide (thrown_any B l p len d)
  have H0 := hide h
  have HP := hide h.pl
  have R1 : Hid (¬ most ≤ n → r = .ok () (l.drop p)) := fun e => by rw [hr, if_pos (by unfold Ps.room; simp; omega)]
  have R2 : Hid ((!decide (p = l.length)) = false → r = .ok () (l.drop p)) := fun e => by rw [hr, if_pos (by unfold Ps.room; rw [drop_nil (by simpa using e)]; simp)]
  have R3 : Hid (most ≤ n → (!decide (p = l.length)) = true → r = .no 3 (l.drop p)) := fun e e2 => by
    have e3 : ¬ p = l.length := by simpa using e2
    have e4 := h.pl
    rw [hr, if_neg (by unfold Ps.room; rw [drop_ne (by omega)]; simp; omega)]
  obtain ⟨b, hb⟩ : ∃ b, b = decide (p = l.length) := ⟨_, rfl⟩
  rw [← hb] at OV R2 R3
  clear h hr hb
  go_enter Tryz.func164, Tryz.ntmps164
  go_wp2_with (first
    | (go_at_call 82; refine OV.out.mono ?_; rintro e w2 ⟨rfl, hz⟩)
    | (go_at_call 83; refine (TH.out _ _ (H0.out.later hz)).mono ?_; rintro e w3 ⟨rfl, hy⟩))
  · rw [R3.out (by assumption) (by assumption)]
    exact bodyPost_thrown rfl (Ans.no (.of (hz.trans (hy.mono hz.size))))
  · rw [R2.out (by assumption)]
    exact bodyPost_end (v := .tuple #[]) (by simp [results, Tryz.results164]) rfl (Ans.ok p (.of hz) rfl (Nat.le_refl _) (H0.out.later hz))
  · rw [R1.out (by assumption)]
    exact bodyPost_end (v := .tuple #[]) (by simp [results, Tryz.results164]) rfl (Ans.ok p (Steps.refl _ _) rfl (Nat.le_refl _) H0.out)

theorem want_is (s : List UInt8) (l : List Lx.Tk) (p : Nat) : Ps.want s (l.drop p) = if Ps.has s (l.drop p) then .ok () (l.drop (p + 1)) else .no 240 (l.drop p) := by
  unfold Ps.want
  split
  · rename_i h
    rw [List.tail_drop]
  · rfl

set_option maxHeartbeats 3200000 in
theorem want_any (w : World) (B : Nat) (l : List Lx.Tk) (p len d : Nat) (h : Rd w B l p len d) (s : ByteArray) (g : Nat) (hg : w.heap[g]? = some (.cells #[.string s] 9 (0, 0))) : Calls Tryz.prog 79 #[.pointer (some ⟨B, 0, none⟩), .slice (some ⟨g, 0, none⟩) 1 1] w (Ans unitIs B l len d w p (Ps.want s.data.toList (l.drop p))) := by
  have TH := hide (thrown_any B l p len d)
  have TK := hide (fun wx hx b hb => took_any wx B l p len d hx s b hb)
  have H0 := hide h
  have hs : w.cell? ⟨g, 0, none⟩ = some (.string s) := Joins.cell_of_block hg 0
  obtain ⟨r, hr⟩ : ∃ r, r = Ps.want s.data.toList (l.drop p) := ⟨_, rfl⟩
  rw [← hr]
  rw [want_is] at hr
  obtain ⟨b, hb⟩ : ∃ b, b = Ps.has s.data.toList (l.drop p) := ⟨_, rfl⟩
  have HB := hide hb
  rw [← hb] at hr
  cases b with
  | false =>
    rw [if_neg (by decide)] at hr
    subst hr
    clear h hg hb
    go_enter Tryz.func79, Tryz.ntmps79
    go_wp2
    go_loopw [8] (fun i wr => i = .int .i64 0 ∧ wr = w) (fun i _ => 1 - (intOf i).toNat)
    case atStart => exact ⟨rfl, rfl⟩
    case round =>
      obtain ⟨rfl, rfl⟩ := hrel
      go_wp2_with (first
        | (go_at_call 50; refine (TK.out _ H0.out _ HB.out).mono ?_; rintro e w2 ⟨rfl, hR, hz⟩; have H2 := hide hR; clear hR)
        | (go_at_call 83; refine (TH.out _ _ H2.out).mono ?_; rintro e w4 ⟨rfl, hy⟩))
      exact bodyPost_thrown rfl (Ans.no (hz.then hy))
  | true =>
    rw [if_pos rfl] at hr
    subst hr
    clear h hg hb
    go_enter Tryz.func79, Tryz.ntmps79
    go_wp2
    go_loopw [8] (fun i wr => (i = .int .i64 0 ∧ wr = w) ∨ (i = .int .i64 1 ∧ Rd wr B l (p + 1) len d ∧ Steps B w wr)) (fun i _ => 1 - (intOf i).toNat)
    case atStart => exact .inl ⟨rfl, rfl⟩
    case round =>
      rcases hrel with ⟨rfl, rfl⟩ | ⟨rfl, hR, hS⟩
      · go_wp2_with (go_at_call 50; refine (TK.out _ H0.out _ HB.out).mono ?_; rintro e w2 ⟨rfl, hR, hz⟩; have H2 := hide hR; clear hR)
        exact ⟨.inr ⟨rfl, H2.out, hz⟩, by decide⟩
      · have HR := hide hR
        clear hR
        go_wp2
        exact bodyPost_end (v := .tuple #[]) (by simp [results, Tryz.results79]) rfl (Ans.ok (p + 1) hS rfl (by omega) HR.out)
end Go.Proofs.YtedamaccflhmfaaGreatDoor
