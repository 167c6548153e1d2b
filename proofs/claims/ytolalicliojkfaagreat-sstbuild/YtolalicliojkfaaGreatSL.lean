/-
  The latest version of a key up to a number, asked of a table: what the call answers, and what it leaves. .. and what follows from it.
-/
import Derived.Test.YtolalicliojkfaaGreatSRead
namespace Go.Proofs.YtolalicliojkfaaGreat
open Go.RowKit
namespace Ss
open Mm (Ent)
/-- What is so of every table that Open answers. -/
structure TabOk (t : Tab) : Prop where
  some : 1 ≤ t.parts.length
  most : t.parts.length ≤ 65536
  blks : t.blocks.length ≤ 1000000000
  filt : Bm.ok t.filter = true
  flen : t.filter.length ≤ 1048576
  part : ∀ p ∈ t.parts, 1 ≤ p.size ∧ p.size ≤ p.fin ∧ p.fin ≤ t.blocks.length
  up : t.parts.Pairwise fun p q => Mm.ahead p.ent q.ent = true
/-- The first block whose last entry is not ahead of one. -/
def placeN (ps : List Prt) (W : Ent) : Nat := ps.findIdx fun p => !Mm.ahead p.ent W
/-- What Get answers: the entry, the error, how many blocks are read. -/
def getX (t : Tab) (k : Bs) (q : Int) : Option Ent :=
  match t.parts[placeN t.parts ⟨k, [], q, false⟩]? with
  | none => none
  | some p => if Bm.has t.filter k && readOk t p then findE (readL t p) k q else none
def getE (t : Tab) (k : Bs) (q : Int) : Int :=
  match t.parts[placeN t.parts ⟨k, [], q, false⟩]? with
  | none => 0
  | some p => if Bm.has t.filter k && !readOk t p then 6 else 0
def getN (t : Tab) (k : Bs) (q : Int) : Nat :=
  match t.parts[placeN t.parts ⟨k, [], q, false⟩]? with
  | none => 0
  | some _ => if Bm.has t.filter k then 1 else 0
end Ss

theorem find_first {ps : List Ss.Prt} (f : Ss.Prt → Bool) (r : Nat) (hr : r ≤ ps.length) (h1 : ∀ k (h : k < ps.length), k < r → f ps[k] = false) (h2 : ∀ k (h : k < ps.length), r ≤ k → f ps[k] = true) : ps.findIdx f = r := by
  rcases Nat.lt_or_ge r ps.length with h | h
  · rw [List.findIdx_eq h]
    exact ⟨h2 r h (Nat.le_refl _), fun j hj => h1 j (by omega) hj⟩
  · have e : r = ps.length := by omega
    rw [e, List.findIdx_eq_length]
    intro x hx
    obtain ⟨j, hj, rfl⟩ := List.mem_iff_getElem.1 hx
    exact h1 j hj (by omega)
theorem not_ahead_mono {a b W : Mm.Ent} (h : Mm.ahead a b = true) (ha : Mm.ahead a W = false) : Mm.ahead b W = false := by
  cases hb : Mm.ahead b W with
  | false => rfl
  | true => have := Mm.ahead_trans h hb; rw [ha] at this; cases this
theorem up_of_ord {l : List Mm.Ent} (h : Bk.InOrd l) : Mm.Up l := by
  have key : ∀ d i (hi : i + d + 1 < l.length), Mm.ahead (l[i]'(by omega)) (l[i + d + 1]) = true := by
    intro d
    induction d with
    | zero => intro i hi; exact h i hi
    | succ d ih =>
      intro i hi
      exact Mm.ahead_trans (ih i (by omega)) (h (i + d + 1) (by omega))
  unfold Mm.Up
  rw [List.pairwise_iff_getElem]
  intro i j hi hj hij
  have := key (j - i - 1) i (by omega)
  have e : i + (j - i - 1) + 1 = j := by omega
  simpa [e] using this
theorem readL_ok {t : Ss.Tab} {p : Ss.Prt} (h : Ss.readOk t p = true) : Bk.checkE (Ss.readL t p) = 0 := by
  unfold Ss.readOk at h
  rw [Bool.and_eq_true, Bool.and_eq_true] at h
  exact (Bk.enc_back _ h.2.1).1
/-- Four cells stored anew. -/
def set4 (w : World) (B : Nat) (e : Mm.Ent) : World := (((w.setCell ⟨B, 0, none⟩ (str e.key)).setCell ⟨B, 1, none⟩ (str e.value)).setCell ⟨B, 2, none⟩ (.int .i64 e.seq)).setCell ⟨B, 3, none⟩ (.bool e.del)
theorem store4 {w : World} {B : Nat} {x : Mm.Ent} (h : w.heap[B]? = some (eO x)) (e : Mm.Ent) : (set4 w B e).heap[B]? = some (eO e) ∧ w.grownBy (set4 w B e) (some B) :=
  ⟨(Joins.block_setCell (Joins.block_setCell (Joins.block_setCell (Joins.block_setCell h _) _) _) _).trans rfl, grownBy_trans (grownBy_trans (grownBy_trans (grown_set _ B _ _) (grown_set _ B _ _) (.inl rfl)) (grown_set _ B _ _) (.inl rfl)) (grown_set _ B _ _) (.inl rfl)⟩
end Go.Proofs.YtolalicliojkfaaGreat
namespace Go.Proofs.YtolalicliojkfaaGreat
open Go.RowKit

def zeroE : Mm.Ent := ⟨[], [], 0, false⟩
def GetAns (w : World) (B n : Nat) (t : Ss.Tab) (k : List UInt8) (q : Int) (e : Ending) (w' : World) : Prop :=
  e = .returned (.tuple #[entV ((Ss.getX t k q).getD zeroE), .bool (Ss.getX t k q).isSome, .int .i64 (Ss.getE t k q)]) ∧ Turned B (n + Ss.getN t k q) w w'
theorem GetAns.of {w w' : World} {B n : Nat} {t : Ss.Tab} {k : List UInt8} {q : Int} (x : Option Mm.Ent) (E : Int) (m : Nat) (h1 : Ss.getX t k q = x) (h2 : Ss.getE t k q = E) (h3 : Ss.getN t k q = m) (u : Turned B (n + m) w w') : GetAns w B n t k q (.returned (.tuple #[entV (x.getD zeroE), .bool x.isSome, .int .i64 E])) w' := by
  unfold GetAns
  rw [h1, h2, h3]
  exact ⟨rfl, u⟩

set_option maxRecDepth 100000 in
set_option maxHeartbeats 8000000 in
theorem sget_any (w : World) (base B n : Nat) (t : Ss.Tab) (h : TabAt w base B t n) (ok : Ss.TabOk t) (k : List UInt8) (q : Int) (hk : k.length ≤ 140737488355328) (hn : n ≤ 1000000000) :
    Calls Tryz.prog 18 #[.pointer (some ⟨B, 0, none⟩), str k, .int .i64 q] w fun e w' => GetAns w B n t k q e w' := by
  have hmf : ∀ (fn : Fn) (first cap : Array Value) (w : World), (Instr.makeFunc fn first cap).run Tryz.prog w = .ok (.func fn first cap) w := fun _ _ _ _ => rfl
  have hlt := h.lt
  obtain ⟨R, hR⟩ : ∃ R, R = w.heap.size := ⟨_, rfl⟩
  obtain ⟨W1, hW1⟩ : ∃ W1, W1 = w.alloc (.cells #[.string ⟨#[]⟩, .string ⟨#[]⟩, .int .i64 0, .bool false] 42) := ⟨_, rfl⟩
  have a1 : Below w.heap.size w W1 := by rw [hW1]; exact (Below.refl _ _).alloc (Nat.le_refl _) _
  obtain ⟨W2, hW2⟩ : ∃ W2, W2 = W1.alloc (.cells #[str k, .string ⟨#[]⟩, .int .i64 q, .bool false] 42) := ⟨_, rfl⟩
  have a2 : Below W1.heap.size W1 W2 := by rw [hW2]; exact (Below.refl _ _).alloc (Nat.le_refl _) _
  have z1 : W1.heap.size = w.heap.size + 1 := by rw [hW1]; simp
  have R1 : W1.heap[R]? = some (eO zeroE) := by rw [hW1, hR]; exact World.alloc_heap_new w _
  have R2 := keepB a2 R1
  have K2 : W2.heap[w.heap.size + 1]? = some (.cells #[str k, str [], .int .i64 q, .bool false] 42 (0, 0)) := by rw [hW2, ← z1]; exact World.alloc_heap_new W1 _
  have T1 := h.later a1
  have T2 := T1.later a2
  have U2 := h.turned.below (a1.trans (a2.mono a1.size))
  obtain ⟨ba, bc', fa, fc, pa, pc, ⟨c0, _⟩, _⟩ := T1.cells
  have MD := smade_yes W1 B c0
  have SR := getSearch_any W2 base B n t T2 (.pointer (some ⟨w.heap.size + 1, 0, none⟩)) (by have := ok.most; omega) (fun i => if hi : i < t.parts.length then !Mm.ahead (Ss.Prt.ent t.parts[i]) ⟨k, [], q, false⟩ else true)
    (fun i j hij hi => by
      by_cases hj : j < t.parts.length
      · have hi' : i < t.parts.length := by omega
        rw [dif_pos hi'] at hi
        rw [dif_pos hj]
        rcases Nat.lt_or_ge i j with hlt | hge
        · have := List.pairwise_iff_getElem.1 ok.up i j hi' hj hlt
          have h2 := not_ahead_mono (W := ⟨k, [], q, false⟩) this (by simpa using hi)
          rw [h2]; rfl
        · have : i = j := by omega
          subst this
          exact hi
      · rw [dif_neg hj])
    (fun wx hx i hi => by
      rw [dif_pos hi]
      exact get1_any wx (w.heap.size + 1) ⟨k, [], q, false⟩ _ (keepB hx K2))
  subst hR
  rw [hW1] at MD
  have c0' := hide c0
  clear c0
  go_enter Tryz.func18, Tryz.ntmps18
  go_wp2_with (first
    | (go_at_call 45; refine MD.mono ?_; rintro e w' ⟨rfl, rfl⟩; clear MD))
  have SR' := SR
  rw [hW2, hW1] at SR'
  refine SR'.mono ?_
  rintro e w3 ⟨r, rfl, hr1, hr2, hr3, b3⟩
  rw [← hW1, ← hW2] at b3
  have hpl : Ss.placeN t.parts ⟨k, [], q, false⟩ = r := find_first _ r hr1 (fun i hi h => by have := hr2 i h; rw [dif_pos hi] at this; exact this) (fun i hi h => by have := hr3 i h hi; rw [dif_pos hi] at this; exact this)
  have T3 := T2.later b3
  have R3 := keepB b3 R2
  have U3 := U2.below b3
  have X0 : Hid (∀ x, t.parts[r]? = x → Ss.getX t k q = (match x with | none => none | some p => if Bm.has t.filter k && Ss.readOk t p then findE (Ss.readL t p) k q else none) ∧ Ss.getE t k q = (match x with | none => 0 | some p => if Bm.has t.filter k && !Ss.readOk t p then 6 else 0) ∧ Ss.getN t k q = (match x with | none => 0 | some _ => if Bm.has t.filter k then 1 else 0)) := fun x hx => by
    unfold Ss.getX Ss.getE Ss.getN
    rw [hpl, hx]
    exact ⟨rfl, rfl, rfl⟩
  clear SR SR' hr2 hr3 hW1 hW2 a1 a2 T1 T2 R1 R2 K2 U2 c0' hpl z1
  obtain ⟨ba, bc', fa, fc, pa, pc, ⟨c0, c1, c2, c3, c4, c5⟩, f5, o1, o2, o3⟩ := T3.cells
  have HA := has_any w3 fa fc t.filter ⟨k.toArray⟩ (bytes_of_own o2 (by have := ok.flen; omega)) (row_form o2).2 (by show k.toArray.size ≤ _; simpa using hk)
  rw [ok.filt, Bool.true_and] at HA
  have eke : (⟨k.toArray⟩ : ByteArray).data.toList = k := by simp
  rw [eke, show okE t.filter = 0 from okE_ok ok.filt] at HA
  clear eke
  obtain ⟨p0, p1, p2, p3, g0, g1, g2, g3⟩ := slot4 R3
  cases hhas : Bm.has t.filter k with
  | false =>
    rw [hhas] at HA X0
    have hx : Ss.getX t k q = none ∧ Ss.getE t k q = 0 ∧ Ss.getN t k q = 0 := by
      obtain ⟨x1, x2, x3⟩ := X0.out _ rfl
      rw [x1, x2, x3]
      cases t.parts[r]? <;> exact ⟨rfl, rfl, rfl⟩
    have HXX := hide hx
    clear hx X0 hhas
    go_wp2_with (first
      | (go_at_call 49; refine HA.mono ?_; rintro e w4 ⟨rfl, b4⟩; have R4 := keepB b4 R3; obtain ⟨p0, p1, p2, p3, g0, g1, g2, g3⟩ := slot4 R4; clear HA))
    obtain ⟨F1, F2⟩ := store4 R4 zeroE
    have U4 := (U3.below b4).new F2 (Nat.le_refl _) hlt
    obtain ⟨t0, t1, t2, t3, _⟩ := slot4 F1
    simp only [set4, zeroE] at t0 t1 t2 t3 U4
    refine bodyPost_ret (v := .tuple #[entV ⟨[], [], 0, false⟩, .bool false, .int .i64 0]) (by simp [results, Tryz.results18, go_sem, t0, t1, t2, t3]) rfl ?_
    exact GetAns.of none 0 0 HXX.out.1 HXX.out.2.1 HXX.out.2.2 U4
  | true =>
    rw [hhas] at HA X0
    clear hhas
    by_cases hrl : r < t.parts.length
    · have hx := X0.out _ (List.getElem?_eq_getElem hrl)
      obtain ⟨x1, x2, x3⟩ := hx
      simp only [Bool.true_and, if_true] at x1 x2 x3
      have hpm := ok.part _ (List.getElem_mem hrl)
      have hri : ((r : Int) == (t.parts.length : Int)) = false := by simp; omega
      obtain ⟨⟨pa', pc', hv, hpc, hpf⟩⟩ := PartsAt.own o3
      obtain ⟨pg, rfl, hg1, hcell⟩ := hpf (by intro e; rw [e] at hrl; simp at hrl)
      simp only [Value.slice.injEq, true_and] at hv
      obtain ⟨rfl, rfl⟩ := hv
      obtain ⟨d0, d1, d2, d3, d4, d5⟩ := hcell r hrl
      have RA : Hid (∀ wx, TabAt wx base B t n → Calls Tryz.prog 50 #[.pointer (some ⟨B, 0, none⟩), prtV t.parts[r]] wx fun e w' => ReadAns wx B t n t.parts[r] e w') := fun wx hx => sread_any wx base B n t hx t.parts[r] hpm.1 hpm.2.1 hpm.2.2 ok.blks hn
      have X1 := hide x1
      have X2 := hide x2
      have X3 := hide x3
      have RK := hide (fun (e : Ss.readOk t t.parts[r] = true) => readL_ok e)
      have KC : Hid (∀ wx, Below w3.heap.size w3 wx → (wx.cell? ⟨pg, r * 6, none⟩ = _ ∧ wx.cell? ⟨pg, r * 6 + 1, none⟩ = _ ∧ wx.cell? ⟨pg, r * 6 + 2, none⟩ = _ ∧ wx.cell? ⟨pg, r * 6 + 3, none⟩ = _ ∧ wx.cell? ⟨pg, r * 6 + 4, none⟩ = _ ∧ wx.cell? ⟨pg, r * 6 + 5, none⟩ = _) ∧ wx.cell? ⟨B, 3, none⟩ = _) := fun wx hw => ⟨⟨keepC hw d0, keepC hw d1, keepC hw d2, keepC hw d3, keepC hw d4, keepC hw d5⟩, keepC hw c3⟩
      generalize t.parts[r] = p at *
      clear d0 d1 d2 d3 d4 d5 hcell hpf o1 o2 o3 x1 x2 x3 X0 hpm c0 c1 c3 c4 c5 f5 hg1 p0 p1 p2 p3 g0 g1 g2 g3
      obtain ⟨L, hL⟩ : ∃ L, L = t.parts.length := ⟨_, rfl⟩
      rw [← hL] at hri hrl KC hpc
      have k1 : (r : Int) < (L : Int) := by omega
      have k2 : (0 : Int) ≤ (r : Int) := by omega
      unfold prtV at RA
      clear hL
      go_wp2_with (first
        | (go_at_call 49; refine HA.mono ?_; rintro e w4 ⟨rfl, b4⟩; have R4 := keepB b4 R3; have T4 := T3.later b4; have U4 := U3.below b4; obtain ⟨⟨d0, d1, d2, d3, d4, d5⟩, c3⟩ := KC.out _ b4; clear HA KC))
      refine (RA.out _ T4).mono ?_
      rintro e w5 ⟨v5, E5, rfl, HD, u5⟩
      have U5 := U4.trans u5
      have R5 : w5.heap[w.heap.size]? = some (eO zeroE) := (u5.1.block _ (Array.getElem?_eq_some_iff.1 R4).1 (by simp; omega)).trans R4
      obtain ⟨p0, p1, p2, p3, g0, g1, g2, g3⟩ := slot4 R5
      clear RA d0 d1 d2 d3 d4 d5 c3 T4 U4 u5 T3 U3 R3
      rcases HD.out with ⟨hok, rfl, o5⟩ | ⟨hok, rfl, rfl⟩
      · have hck := RK.out hok
        rw [hok] at X1 X2
        simp only [if_true] at X1
        obtain ⟨n1, n2, n3, n4⟩ := Bk.checkE_ok hck
        obtain ⟨va, vc, rfl⟩ := row_shape o5
        have FD := find_any w5 va vc _ (Ss.readL t p) (EntsAt.own o5) rfl (by omega) (fun x hx => by
          have := Bk.may_parts (List.all_eq_true.1 n3 x hx)
          omega) (up_of_ord ((Bk.inOrd_iff _).1 n4)) k q
        clear HD o5 n3 n4 hck RK
        cases hf : findE (Ss.readL t p) k q with
        | none =>
          rw [hf] at FD X1
          clear hf
          have FD' := FD
          go_wp2_with (first
            | (go_at_call 51; refine FD'.mono ?_; rintro e w6 ⟨rfl, b6⟩; have R6 := keepB b6 R5; obtain ⟨p0, p1, p2, p3, g0, g1, g2, g3⟩ := slot4 R6; have lt6 := (Array.getElem?_eq_some_iff.1 R6).1; have ne6 : ¬ w6.heap.size = w.heap.size := (by omega); clear FD FD'))
          obtain ⟨F1, F2⟩ := store4 R6 ⟨[], [], 0, false⟩
          have aM : Below (set4 w6 w.heap.size ⟨[], [], 0, false⟩).heap.size (set4 w6 w.heap.size ⟨[], [], 0, false⟩) ((set4 w6 w.heap.size ⟨[], [], 0, false⟩).alloc (eO ⟨[], [], 0, false⟩)) := (Below.refl _ _).alloc (Nat.le_refl _) _
          have U7 := ((U5.below b6).new F2 (Nat.le_refl _) hlt).below aM
          have F3 := keepB aM F1
          obtain ⟨t0, t1, t2, t3, _⟩ := slot4 F3
          simp only [set4] at t0 t1 t2 t3 U7
          refine bodyPost_ret (v := .tuple #[entV ⟨[], [], 0, false⟩, .bool false, .int .i64 0]) (by simp [results, Tryz.results18, go_sem, t0, t1, t2, t3]) rfl ?_
          exact GetAns.of none 0 1 X1.out X2.out X3.out U7
        | some x =>
          obtain ⟨XK, XV, XQ, XD⟩ := x
          rw [hf] at FD X1
          clear hf
          have FD' := FD
          go_wp2_with (first
            | (go_at_call 51; refine FD'.mono ?_; rintro e w6 ⟨rfl, b6⟩; have R6 := keepB b6 R5; obtain ⟨p0, p1, p2, p3, g0, g1, g2, g3⟩ := slot4 R6; have lt6 := (Array.getElem?_eq_some_iff.1 R6).1; have ne6 : ¬ w6.heap.size = w.heap.size := (by omega); clear FD FD'))
          obtain ⟨F1, F2⟩ := store4 R6 ⟨XK, XV, XQ, XD⟩
          have aM : Below (set4 w6 w.heap.size ⟨XK, XV, XQ, XD⟩).heap.size (set4 w6 w.heap.size ⟨XK, XV, XQ, XD⟩) ((set4 w6 w.heap.size ⟨XK, XV, XQ, XD⟩).alloc (eO ⟨XK, XV, XQ, XD⟩)) := (Below.refl _ _).alloc (Nat.le_refl _) _
          have U7 := ((U5.below b6).new F2 (Nat.le_refl _) hlt).below aM
          have F3 := keepB aM F1
          obtain ⟨t0, t1, t2, t3, _⟩ := slot4 F3
          simp only [set4] at t0 t1 t2 t3 U7
          refine bodyPost_ret (v := .tuple #[entV ⟨XK, XV, XQ, XD⟩, .bool true, .int .i64 0]) (by simp [results, Tryz.results18, go_sem, t0, t1, t2, t3]) rfl ?_
          exact GetAns.of (some ⟨XK, XV, XQ, XD⟩) 0 1 X1.out X2.out X3.out U7

      · rw [hok] at X1 X2
        clear HD
        go_wp2_with (fail)
        obtain ⟨F1, F2⟩ := store4 R5 zeroE
        have U6 := U5.new F2 (Nat.le_refl _) hlt
        obtain ⟨t0, t1, t2, t3, _⟩ := slot4 F1
        simp only [set4, zeroE] at t0 t1 t2 t3 U6
        refine bodyPost_ret (v := .tuple #[entV ⟨[], [], 0, false⟩, .bool false, .int .i64 6]) (by simp [results, Tryz.results18, go_sem, t0, t1, t2, t3]) rfl ?_
        exact GetAns.of none 6 1 X1.out X2.out X3.out U6
    · have e : r = t.parts.length := by omega
      subst e
      have hx := X0.out none (List.getElem?_eq_none (Nat.le_refl _))
      have HXX := hide hx
      clear hx X0
      go_wp2_with (first
        | (go_at_call 49; refine HA.mono ?_; rintro e w4 ⟨rfl, b4⟩; have R4 := keepB b4 R3; have c3' := keepC b4 c3; obtain ⟨p0, p1, p2, p3, g0, g1, g2, g3⟩ := slot4 R4; clear HA))
      obtain ⟨F1, F2⟩ := store4 R4 zeroE
      have U4 := (U3.below b4).new F2 (Nat.le_refl _) hlt
      obtain ⟨t0, t1, t2, t3, _⟩ := slot4 F1
      simp only [set4, zeroE] at t0 t1 t2 t3 U4
      refine bodyPost_ret (v := .tuple #[entV ⟨[], [], 0, false⟩, .bool false, .int .i64 0]) (by simp [results, Tryz.results18, go_sem, t0, t1, t2, t3]) rfl ?_
      exact GetAns.of none 0 0 HXX.out.1 HXX.out.2.1 HXX.out.2.2 U4
end Go.Proofs.YtolalicliojkfaaGreat
