/-
  Plain: a token ends with a byte below 128; how the tokens of a text come one by one. .. and what follows from it.
-/
import Derived.Test.YtedamaccflhmfaaGreatDoorXA
import Derived.Test.YtedamaccflhmfaaGreatDoorXC
namespace Go.Proofs.YtedamaccflhmfaaGreatDoor.Lx

theorem scanT_last : ∀ (l said : List UInt8) (n : Nat), scanT l = some (said, n) → l[n - 1]? = some 39
  | [], _, _, h => by simp [scanT] at h
  | [c], said, n, h => by
    rw [scanT] at h
    split at h
    · rename_i hc
      simp only [Option.some.injEq, Prod.mk.injEq] at h; obtain ⟨_, rfl⟩ := h; rw [hc]; rfl
    · cases h
  | c :: d :: q, said, n, h => by
    rw [scanT] at h
    split at h
    · rename_i hc
      split at h
      · cases hq : scanT q with
        | none => rw [hq] at h; cases h
        | some x =>
          obtain ⟨a, m⟩ := x
          have ih := scanT_last q a m hq
          have hm := scanT_le q a m hq
          rw [hq] at h
          simp only [Option.map_some, Option.some.injEq, Prod.mk.injEq] at h
          obtain ⟨_, rfl⟩ := h
          obtain ⟨k, rfl⟩ : ∃ k, m = k + 1 := ⟨m - 1, by omega⟩
          exact ih
      · simp only [Option.some.injEq, Prod.mk.injEq] at h
        obtain ⟨_, rfl⟩ := h
        rw [hc]; rfl
    · cases hq : scanT (d :: q) with
      | none => rw [hq] at h; cases h
      | some x =>
        obtain ⟨a, m⟩ := x
        have ih := scanT_last (d :: q) a m hq
        have hm := scanT_le (d :: q) a m hq
        rw [hq] at h
        simp only [Option.map_some, Option.some.injEq, Prod.mk.injEq] at h
        obtain ⟨_, rfl⟩ := h
        obtain ⟨k, rfl⟩ : ∃ k, m = k + 1 := ⟨m - 1, by omega⟩
        exact ih
theorem take_last {l : List UInt8} {p : UInt8 → Bool} (n : Nat) (h1 : 1 ≤ n) (hn : n = (l.takeWhile p).length) : ∃ c, l[n - 1]? = some c ∧ p c = true := by
  have ht := take_tw p l
  have hp := tw_all p l
  have hlt : n - 1 < (l.takeWhile p).length := by omega
  refine ⟨(l.takeWhile p)[n - 1], ?_, hp _ (List.getElem_mem _)⟩
  have e : (l.takeWhile p)[n - 1]? = some (l.takeWhile p)[n - 1] := List.getElem?_eq_getElem hlt
  rw [← e, ← ht, List.getElem?_take_of_lt (by omega)]
theorem isS_lo {l : List UInt8} (h : isS l = true) : ∀ c ∈ l, c.toNat < 128 := by
  have hl : l ∈ signs := by unfold isS at h; simpa using h
  unfold signs at hl
  simp only [List.mem_cons, List.not_mem_nil, or_false] at hl
  rcases hl with rfl | rfl | rfl | rfl | rfl | rfl | rfl | rfl | rfl | rfl | rfl | rfl | rfl | rfl | rfl | rfl | rfl <;> decide
/-- A token's last byte is below 128. -/
theorem next_last {l : List UInt8} {x : Tk} {n : Nat} (h : next l = .tok x n) : ∃ c, l[n - 1]? = some c ∧ c.toNat < 128 := by
  cases l with
  | nil => cases h
  | cons c q =>
    unfold next at h
    simp only at h
    split at h
    · rename_i hl
      unfold wordN at h
      split at h
      · cases h
      · simp only [Nx.tok.injEq] at h
        obtain ⟨_, hm⟩ := h
        obtain ⟨d, h1, h2⟩ := take_last (l := c :: q) (p := inw) n (by rw [← hm]; exact word_pos hl) hm.symm
        exact ⟨d, h1, inw_lo d h2⟩
    · split at h
      · rename_i hd
        unfold numN at h
        split at h
        · cases h
        · simp only [Nx.tok.injEq] at h
          obtain ⟨_, hm⟩ := h
          obtain ⟨d, h1, h2⟩ := take_last (l := c :: q) (p := dg) n (by rw [← hm]; exact num_pos hd) hm.symm
          exact ⟨d, h1, dg_lo d h2⟩
      · split at h
        · unfold textN at h
          split at h
          · cases h
          · rename_i said k hk
            have hlast := scanT_last _ said k hk
            have hle := scanT_le _ said k hk
            simp only [List.drop_succ_cons, List.drop_zero] at hlast
            split at h
            · split at h
              · cases h
              · simp only [Nx.tok.injEq] at h
                obtain ⟨_, hm⟩ := h
                refine ⟨39, ?_, by decide⟩
                obtain ⟨j, rfl⟩ : ∃ j, k = j + 1 := ⟨k - 1, by omega⟩
                subst hm
                exact hlast
            · cases h
        · unfold signN at h
          split at h
          · rename_i h2
            simp only [Nx.tok.injEq] at h
            obtain ⟨_, hm⟩ := h
            subst hm
            cases q with
            | nil => simp at h2
            | cons d r => exact ⟨d, rfl, isS_lo h2.2 d (by simp)⟩
          · split at h
            · rename_i h1
              simp only [Nx.tok.injEq] at h
              obtain ⟨_, hm⟩ := h
              subst hm
              exact ⟨c, rfl, isS_lo h1 c (by simp)⟩
            · cases h

theorem next_err {l : List UInt8} {e : Int} (h : next l = .err e) : e = 3 ∨ e = 230 ∨ e = 231 ∨ e = 232 ∨ e = 233 := by
  cases l with
  | nil => simp only [next, Nx.err.injEq] at h; omega
  | cons c q =>
    unfold next at h
    simp only at h
    split at h
    · unfold wordN at h
      split at h
      · simp only [Nx.err.injEq] at h; omega
      · cases h
    · split at h
      · unfold numN at h
        split at h
        · simp only [Nx.err.injEq] at h; omega
        · cases h
      · split at h
        · unfold textN at h
          split at h
          · simp only [Nx.err.injEq] at h; omega
          · split at h
            · split at h
              · simp only [Nx.err.injEq] at h; omega
              · cases h
            · simp only [Nx.err.injEq] at h; omega
        · unfold signN at h
          split at h
          · cases h
          · split at h
            · cases h
            · simp only [Nx.err.injEq] at h; omega

theorem lexG_no : ∀ (f : Nat) (l : List UInt8) (a : Nat) (x : Int) (p : Nat), lexG f l a = .error (x, p) → ¬ x = 0 ∧ a ≤ p ∧ p < a + l.length
  | 0, l, a, x, p, h => by cases h
  | f + 1, [], a, x, p, h => by cases h
  | f + 1, c :: r, a, x, p, h => by
    rw [lexG] at h
    split at h
    · have := lexG_no f r (a + 1) x p h
      simp only [List.length_cons]
      exact ⟨this.1, by omega, by omega⟩
    · cases hn : next (c :: r) with
      | err e =>
        rw [hn] at h
        simp only [Except.error.injEq, Prod.mk.injEq] at h
        obtain ⟨rfl, rfl⟩ := h
        have := next_err hn
        simp only [List.length_cons]
        exact ⟨by omega, by omega, by omega⟩
      | tok y n =>
        rw [hn] at h
        simp only at h
        have hw := next_width hn
        cases hg : lexG f ((c :: r).drop n) (a + n) with
        | ok q => rw [hg] at h; cases h
        | error z =>
          obtain ⟨x', p'⟩ := z
          rw [hg] at h
          simp only [Except.map, Except.error.injEq, Prod.mk.injEq] at h
          obtain ⟨rfl, rfl⟩ := h
          have := lexG_no f _ _ _ _ hg
          rw [List.length_drop] at this
          exact ⟨this.1, by omega, by omega⟩
theorem lexA_no {l : List UInt8} {x : Int} {p : Nat} (h : lexA l 0 = .error (x, p)) : ¬ x = 0 ∧ p < l.length := by
  have := lexG_no l.length l 0 x p h
  exact ⟨this.1, by omega⟩

/-! ### The loop over runes -/
/-- Behind so many bytes these tokens were told. -/
def Told (l : List UInt8) (q : List Tk) (P : Nat) : Prop := lexA l 0 = (lexA (l.drop P) P).map (q ++ ·)
theorem told_nil (l : List UInt8) : Told l [] 0 := by
  unfold Told
  rw [List.drop_zero]
  cases lexA l 0 <;> rfl
theorem told_blank {l : List UInt8} {q : List Tk} {P : Nat} {c : UInt8} {r : List UInt8} (h : Told l q P) (hd : l.drop P = c :: r) (hd2 : l.drop (P + 1) = r) (hb : bl c = true) : Told l q (P + 1) := by
  unfold Told at h ⊢
  rw [h, hd, lexA_blank r P hb, hd2]
theorem told_err {l : List UInt8} {q : List Tk} {P : Nat} {c : UInt8} {r : List UInt8} {e : Int} (h : Told l q P) (hd : l.drop P = c :: r) (hb : bl c = false) (hn : next (l.drop P) = .err e) : lexA l 0 = .error (e, P) := by
  unfold Told at h
  rw [h, hd, lexA_err P hb (by rw [← hd]; exact hn)]; rfl
theorem told_tok {l : List UInt8} {q : List Tk} {P : Nat} {x : Tk} {n : Nat} (h : Told l q P) (hn : next (l.drop P) = .tok x n) : Told l (q ++ [{ x with at' := P }]) (P + n) := by
  unfold Told at h ⊢
  rw [h, lexA_next P hn, List.drop_drop]
  cases lexA (l.drop (P + n)) (P + n) with
  | error e => rfl
  | ok z => simp [Except.map]
theorem told_end {l : List UInt8} {q : List Tk} {P : Nat} (h : Told l q P) (hP : l.length ≤ P) : lexA l 0 = .ok q := by
  unfold Told at h
  rw [h, List.drop_eq_nil_of_le hP, lexA_nil]
  simp [Except.map]
/-- A rune that begins ahead of a token's end does not go beyond it. -/
theorem rune_stays (s : ByteArray) (pos B : Nat) (h : pos < B) (hB : B ≤ s.size) (ha : ∃ c, s.data.toList[B - 1]? = some c ∧ c.toNat < 128) : pos + (Utf8.decode s pos).2 ≤ B := by
  obtain ⟨c, hc, hlo⟩ := ha
  have hlt : B - 1 < s.size := by omega
  have hg : s[B - 1]'hlt = c := by
    have := get_list s (B - 1) hlt
    rw [hc, get_big s (B - 1) hlt] at this
    exact (Option.some.inj this).symm
  by_cases he : pos = B - 1
  · subst he
    rw [decode_ascii s (B - 1) hlt (by rw [hg]; exact hlo)]
    simp only; omega
  · have := decode_stop s pos (B - 1) (by omega) hlt (by rw [hg]; exact hlo)
    omega
theorem last_drop {l : List UInt8} {P n : Nat} (h1 : 1 ≤ n) (h : ∃ c, (l.drop P)[n - 1]? = some c ∧ c.toNat < 128) : ∃ c, l[P + n - 1]? = some c ∧ c.toNat < 128 := by
  obtain ⟨c, hc, hlo⟩ := h
  rw [List.getElem?_drop] at hc
  exact ⟨c, by rw [show P + n - 1 = P + (n - 1) from by omega]; exact hc, hlo⟩
end Go.Proofs.YtedamaccflhmfaaGreatDoor.Lx
namespace Go.Proofs.YtedamaccflhmfaaGreatDoor
open Go.RowKit
attribute [local go_sem ↓] Go.wp_at_zero Go.wp_at_succ

def tkc (x : Lx.Tk) : List Value := [.int .u8 x.k, .string ⟨x.t.toArray⟩, .int .u64 x.n, .int .i64 x.at']
def tkcs (l : List Lx.Tk) : List Value := l.flatMap tkc
theorem tkcs_app (l : List Lx.Tk) (x : Lx.Tk) : tkcs (l ++ [x]) = tkcs l ++ tkc x := by simp [tkcs]
theorem tkcs_len (l : List Lx.Tk) : (tkcs l).length = l.length * 4 := by
  induction l with
  | nil => rfl
  | cons x l ih => show (tkc x ++ tkcs l).length = _; rw [List.length_append, ih, List.length_cons]; simp [tkc]; omega
theorem tkc_one (x : Lx.Tk) : ∀ u ∈ tkc x, u.oneCell' = true := by
  intro u hu
  simp only [tkc, List.mem_cons, List.not_mem_nil, or_false] at hu
  rcases hu with rfl | rfl | rfl | rfl <;> rfl
theorem own_laterT {w w' : World} {base n : Nat} {v : Value} {xs : List Value} (h : w.ownsRow base 60 4 v n xs) (hb : Below w.heap.size w w') : w'.ownsRow base 60 4 v n xs :=
  h.kept (w' := w') (row := none) ⟨hb.os, hb.tape, hb.output, hb.size, fun k hk _ => hb.block k hk⟩ (Classical.em _)
theorem own_iterT {w : World} {base n : Nat} {v : Value} {xs : List Value} (h : w.ownsRow base 60 4 v n xs) {k : Nat} (hk : k < base) (s : ByteArray) (p : Nat) : (w.iterAt k s p).ownsRow base 60 4 v n xs := by
  obtain ⟨h1, h2⟩ := h
  refine ⟨h1, ?_⟩
  rcases h2 with h2 | ⟨g, cap, cur, a, b, c, d⟩
  · exact .inl h2
  · exact .inr ⟨g, cap, cur, a, b, by rw [Lib.iterAt_other _ _ _ _ _ (by omega)]; exact c, d⟩
theorem own_baseT {w : World} {base base' : Nat} {v : Value} {n : Nat} {xs : List Value} (h : w.ownsRow base 60 4 v n xs) (hb : base' ≤ base) : w.ownsRow base' 60 4 v n xs := by
  refine ⟨h.1, ?_⟩
  rcases h.2 with h' | ⟨g, cap, cur, e, h1, h2⟩
  · exact .inl h'
  · exact .inr ⟨g, cap, cur, e, Nat.le_trans hb h1, h2⟩

/-- Lex on its way: its tokens, its iterator, its own fault, that nobody has written yet. -/
structure LexS (w0 wr : World) (s : ByteArray) (v : Value) (q : List Lx.Tk) (pos : Nat) : Prop where
  own : wr.ownsRow (w0.heap.size + 2) 60 4 v q.length (tkcs q)
  it : wr.heap[w0.heap.size + 1]? = some (.stringIter s pos)
  res : wr.heap[w0.heap.size]? = some (.cells #[.int .i64 0, .int .i64 0] 41 (0, 0))
  bel : Below w0.heap.size w0 wr
theorem LexS.next {w0 wr : World} {s : ByteArray} {v : Value} {q : List Lx.Tk} {pos : Nat} (h : LexS w0 wr s v q pos) (p : Nat) : LexS w0 (wr.iterAt (w0.heap.size + 1) s p) s v q p :=
  ⟨own_iterT h.own (by omega) s p, Lib.iterAt_heap wr (w0.heap.size + 1) s pos p h.it, (Lib.iterAt_other _ _ _ _ _ (by omega)).trans h.res, Lib.below_iterAt h.bel (by omega) s p⟩
theorem LexS.lt {w0 wr : World} {s : ByteArray} {v : Value} {q : List Lx.Tk} {pos : Nat} (h : LexS w0 wr s v q pos) : w0.heap.size + 1 < wr.heap.size := (Array.getElem?_eq_some_iff.1 h.it).1
theorem LexS.later {w0 wr w' : World} {s : ByteArray} {v : Value} {q : List Lx.Tk} {pos : Nat} (h : LexS w0 wr s v q pos) (hb : Below wr.heap.size wr w') : LexS w0 w' s v q pos :=
  ⟨own_laterT h.own hb, (hb.block _ h.lt).trans h.it, (hb.block _ (by have := h.lt; omega)).trans h.res, h.bel.trans (hb.mono (by have := h.lt; omega))⟩
theorem LexS.alloc {w0 wr : World} {s : ByteArray} {v : Value} {q : List Lx.Tk} {pos : Nat} (h : LexS w0 wr s v q pos) (o : Obj) : LexS w0 (wr.alloc o) s v q pos :=
  h.later ((Below.refl _ _).alloc (Nat.le_refl _) _)
theorem LexS.push {w0 wr w' : World} {s : ByteArray} {v v' : Value} {q : List Lx.Tk} {pos n : Nat} {x : Lx.Tk} (h : LexS w0 wr s v q pos) (hn : n = q.length) (o : w'.ownsRow (w0.heap.size + 2) 60 4 v' (n + 1) (tkcs q ++ tkc x)) (g : wr.grownBy w' v.ownBlock) : LexS w0 w' s v' (q ++ [x]) pos := by
  subst hn
  have hl := h.lt
  have no : ∀ k, k < w0.heap.size + 2 → some k ≠ v.ownBlock := fun k hk e => by have := (h.own.lt k e.symm).1; omega
  refine ⟨?_, (g.block _ hl (no _ (by omega))).trans h.it, (g.block _ (by omega) (no _ (by omega))).trans h.res, h.bel.trans ((Below.refl _ wr).grown g (by omega) (fun k hk => by have := (h.own.lt k hk).1; omega))⟩
  rw [tkcs_app, List.length_append]
  exact o

theorem slot2 {w : World} {B : Nat} {x y : Value} {t : TypeId} (h : w.heap[B]? = some (.cells #[x, y] t (0, 0))) : w.cell? ⟨B, 0, none⟩ = some x ∧ w.cell? ⟨B, 1, none⟩ = some y ∧ w.frozen? ⟨B, 0, none⟩ = false ∧ w.frozen? ⟨B, 1, none⟩ = false ∧ B < w.heap.size :=
  ⟨Joins.cell_of_block h 0, Joins.cell_of_block h 1, Joins.unfrozen_of_block h 0, Joins.unfrozen_of_block h 1, (Array.getElem?_eq_some_iff.1 h).1⟩
theorem below2 {w w2 : World} {B : Nat} (hb : Below B w w2) (hB : B ≤ w.heap.size) (a b : Value) : Below B w ((w2.setCell ⟨w.heap.size, 0, none⟩ a).setCell ⟨w.heap.size, 1, none⟩ b) :=
  (hb.setCell hB _).setCell hB _

theorem setCell_id {w : World} {g i : Nat} {cs : Array Value} {t : TypeId} {v : Value} (hb : w.heap[g]? = some (.cells cs t (0, 0))) (hv : cs[i]? = some v) : w.setCell ⟨g, i, none⟩ v = w := by
  have hg := (Array.getElem?_eq_some_iff.1 hb).1
  have hi := (Array.getElem?_eq_some_iff.1 hv).1
  have hc : cs.setIfInBounds i v = cs := by
    apply Array.ext_getElem?
    intro l
    by_cases hl : i = l
    · subst hl; rw [Array.getElem?_setIfInBounds_self_of_lt hi, hv]
    · rw [Array.getElem?_setIfInBounds_ne hl]
  have h1 := heap_setCell_same w g i cs t v hb
  rw [hc] at h1
  have h2 : (w.setCell ⟨g, i, none⟩ v).heap = w.heap := by
    apply Array.ext_getElem?
    intro l
    by_cases hl : l = g
    · subst hl; rw [h1, hb]
    · exact heap_setCell_other w _ l v hl
  have h3 : w.setCell ⟨g, i, none⟩ v = { w with heap := (w.setCell ⟨g, i, none⟩ v).heap } := rfl
  rw [h3, h2]
theorem info_tk : (Tryz.prog.info? 60).map (fun i => (i.zero, i.size, i.bytes)) = some (some (.agg #[.int .u8 0, .string ⟨#[]⟩, .int .u64 0, .int .i64 0]), 4, 40) := by kernel_rfl

/-- What Lex answers. -/
def lexV (w0 : World) (l : List UInt8) (v : Value) (e : Ending) (w' : World) : Prop := match Lx.lexA l 0 with
  | .ok q => e = .returned (.tuple #[v, .agg #[.int .i64 0, .int .i64 0]]) ∧ w'.ownsRow w0.heap.size 60 4 v q.length (tkcs q)
  | .error (x, p) => e = .returned (.tuple #[.slice none 0 0, .agg #[.int .i64 x, .int .i64 p]])

set_option maxRecDepth 100000 in
set_option maxHeartbeats 6400000 in
theorem lex_any (w : World) (s : ByteArray) (hs : s.size ≤ 65536) (hT : Tab2 w) : Calls Tryz.prog 15 #[.string s] w fun e w' => ∃ v, lexV w s.data.toList v e w' ∧ Below w.heap.size w w' := by
  have FI := hide (fun (t : ByteArray) (r : Int) (a : 0 < t.size) (b : t.size ≤ 100000) (c : r = ((Utf8.decode t 0).1 : Nat)) wx h => first_any wx t r a b c h)
  have BL := hide (fun wx r => isBlank_any wx r)
  obtain ⟨i0, hi, hz0, hz1, hz2⟩ := info_parts info_tk
  have TT := hide hT
  clear hT
  obtain ⟨R, hR⟩ : ∃ R : Value → Ending → World → Prop, R = fun v e w' => lexV w s.data.toList v e w' := ⟨_, rfl⟩
  have hsi : ¬ (s.size : Int) > 65536 := by omega
  go_enter Tryz.func15, Tryz.ntmps15
  go_wp2
  go_loopw [4, 5] (fun v bh wr => ∃ (pos B : Nat) (q : List Lx.Tk), bh = .int .i64 B ∧ pos ≤ s.size ∧ B ≤ s.size ∧ q.length ≤ B ∧ LexS w wr s v q pos ∧ Hid (Lx.Told s.data.toList q (if pos < B then B else pos)) ∧ (pos < B → Hid (∃ c, s.data.toList[B - 1]? = some c ∧ c.toNat < 128))) (fun _ _ wr => s.size - wr.iterPos (w.heap.size + 1))
  case atStart =>
    refine ⟨0, 0, [], rfl, Nat.zero_le _, Nat.zero_le _, by simp, ⟨World.ownsRow_nil _ _ _ _, ?_, ?_, ?_⟩, Lx.told_nil _, fun h => absurd h (by omega)⟩
    · have := World.iter_heap (w.alloc (.cells #[.int .i64 0, .int .i64 0] 41)) s 0
      simpa using this
    · rw [show ((w.alloc (.cells #[.int .i64 0, .int .i64 0] 41)).iter s 0).heap[w.heap.size]? = (w.alloc (.cells #[.int .i64 0, .int .i64 0] 41)).heap[w.heap.size]? from (((Below.refl _ (w.alloc (.cells #[.int .i64 0, .int .i64 0] 41))).alloc (Nat.le_refl _) (.stringIter s 0)).block _ (by simp))]
      show (w.heap.push _)[w.heap.size]? = _
      simp
    · exact ((Below.refl _ w).alloc (Nat.le_refl _) _).alloc (by simp) _
  case round =>
    obtain ⟨pos, B, q, rfl, hp, hB, hql, LS, HTO, HA⟩ := hrel
    have hpos0 := iterPos_at LS.it
    by_cases hlt : pos < s.size
    · have hnx : ∀ ty, (Instr.next (.pointer (some ⟨w.heap.size + 1, 0, none⟩)) true ty).run Tryz.prog wr = _ := fun ty => Lib.run_next_any_at wr (w.heap.size + 1) s pos ty LS.it hlt
      have LS2 := LS.next (pos + (Utf8.decode s pos).2)
      have hin := Lx.decode_in s pos hlt
      have hps := Lx.decode_pos s pos hlt
      obtain ⟨W1, hW1⟩ : ∃ W1, W1 = wr.iterAt (w.heap.size + 1) s (pos + (Utf8.decode s pos).2) := ⟨_, rfl⟩
      rw [← hW1] at hnx LS2
      clear hW1 LS
      by_cases hpB : pos < B
      · have hst := Lx.rune_stays s pos B hpB hB (HA hpB).out
        rw [if_pos hpB] at HTO
        obtain ⟨d, hd⟩ : ∃ d, d = (Utf8.decode s pos).2 := ⟨_, rfl⟩
        obtain ⟨r, hr⟩ : ∃ r : Int, r = ((Utf8.decode s pos).1 : Nat) := ⟨_, rfl⟩
        rw [← hr] at hnx
        rw [← hd] at LS2 hin hps hst
        have hTO : Hid (Lx.Told s.data.toList q (if pos + d < B then B else pos + d)) := by
          show Lx.Told _ _ _
          split
          · exact HTO.out
          · rw [show pos + d = B from by omega]; exact HTO.out
        have HA2 := HA hpB
        have hpBi : (pos : Int) < B := by omega
        have LSH := hide LS2
        have hit2 := hide LS2.it
        clear hd hr HTO HA LS2
        go_wp2
        go_roundw
        case rel => exact ⟨pos + d, B, q, rfl, hin, hB, hql, LSH.out, hTO, fun _ => HA2⟩
        case measure => rw [iterPos_at hit2.out, hpos0]; omega
      · rw [if_neg hpB] at HTO
        have hdr := Lx.drop_at s pos hlt
        have hblr := hide (Lx.rune_pred Lx.blR_c Lx.blR_hi s pos hlt)
        have hpBi : ¬ (pos : Int) < B := by omega
        cases hbl : Lx.bl (s[pos]'hlt)
        · obtain ⟨r, hr⟩ : ∃ r : Int, r = ((Utf8.decode s pos).1 : Nat) := ⟨_, rfl⟩
          rw [← hr] at hnx hblr
          have P1 : Hid (Lx.blR r = false) := hblr.out.trans hbl
          have hex := extract_mk s pos
          have hel : (s.extract pos s.size).data.toList = s.data.toList.drop pos := by rw [hex]
          have hes : (s.extract pos s.size).size = s.size - pos := by simp [ByteArray.size_extract]
          have hde : Utf8.decode (s.extract pos s.size) 0 = Utf8.decode s pos := by rw [hex]; exact Lib.decodeL_drop s pos
          have F2 := hide (FI.out (s.extract pos s.size) r (by omega) (by omega) (by rw [hde]; exact hr))
          rw [hel] at F2
          obtain ⟨d, hd⟩ : ∃ d, d = (Utf8.decode s pos).2 := ⟨_, rfl⟩
          have hst : ∀ n, 1 ≤ n → pos + n ≤ s.size → (∃ c, s.data.toList[pos + n - 1]? = some c ∧ c.toNat < 128) → pos + d ≤ pos + n := fun n h1 h2 h3 => by
            rw [hd]; exact Lx.rune_stays s pos (pos + n) (by omega) h2 h3
          rw [← hd] at LS2 hin hps
          have HST := hide hst
          clear hst hd hr hex hel hde
          have hposi : (pos : Int) ≤ s.size := by omega
          have hposn : ¬ (s.size : Int) = pos := by omega
          rcases nx_cases (Lx.next (s.data.toList.drop pos)) with ⟨x, n, hx⟩ | ⟨x, hx⟩
          · rw [hx] at F2
            have F3 : Hid (∀ wx, Tab2 wx → Calls Tryz.prog 28 #[.string (s.extract pos s.size), .int .i32 r] wx fun e w' => e = .returned (.tuple #[.agg #[.int .u8 x.k, .string ⟨x.t.toArray⟩, .int .u64 x.n, .int .i64 x.at'], .int .i64 n, .int .i64 0]) ∧ Below wx.heap.size wx w') := fun wx h => F2.out wx h
            have hnw := Lx.next_width hx
            have hnl : (s.data.toList.drop pos).length = s.size - pos := by rw [List.length_drop, l_size]
            have hn2 : pos + n ≤ s.size := by omega
            have hlast := Lx.last_drop hnw.1 (Lx.next_last hx)
            have hdn := HST.out n hnw.1 hn2 hlast
            have HL := hide hlast
            have HTO2 : Hid (Lx.Told s.data.toList (q ++ [{ x with at' := pos }]) (if pos + d < pos + n then pos + n else pos + d)) := by
              have h2 := Lx.told_tok HTO.out hx
              show Lx.Told _ _ _
              split
              · exact h2
              · rw [show pos + d = pos + n from by omega]; exact h2
            have hn1 := hnw.1
            have hT1 := hide (TT.out.later LS2.bel)
            have LSH := hide LS2
            obtain ⟨xk, xt, xn, xa⟩ := x
            simp only at F3 HTO2
            obtain ⟨xs, hxs⟩ : ∃ xs : ByteArray, xs = ⟨xt.toArray⟩ := ⟨_, rfl⟩
            have HXS := hide hxs
            rw [← hxs] at F3
            have m1 : q.length + 1 ≤ maxLen := by unfold maxLen; omega
            have m2 : (q.length + 1) * 40 ≤ 140737488355328 := by omega
            clear hbl hdr hblr HTO HA F2 hx FI LS2 hes hnl hlast HST hxs hnw
            go_wp2_with (first
              | (go_at_call 27; refine (BL.out _ _).mono ?_; rintro e w' ⟨rfl, rfl⟩; rw [P1.out])
              | (go_at_call 28; refine (F3.out _ hT1.out).mono ?_; rintro e w3 ⟨rfl, hz⟩; have LS3 := hide (LSH.out.later hz); have hl3 := LS3.out.lt; clear hz)
              | (at_builtin; refine wpList_append_own _ rfl (.tmp 44) (.tmp 46) 54 rfl (w.heap.size + 2) 60 i0 (.agg #[.int .u8 0, .string ⟨#[]⟩, .int .u64 0, .int .i64 0]) 4 40 Tryz.underlying54 hi hz0 hz1 hz2 rfl (by decide) _ q.length (tkcs q) rfl ((LS3.out.alloc _).alloc _).own ⟨w3.heap.size + 1, 0, none⟩ 1 1 (tkc ⟨xk, xt, xn, pos⟩) rfl rfl (by have := World.news_of_block (cs := #[.int .u8 xk, .string xs, .int .u64 xn, .int .i64 pos]) (heap_alloc_new (w3.alloc (.cells #[.int .u8 xk, .string xs, .int .u64 xn, .int .i64 pos] 60)) (.cells #[.int .u8 xk, .string xs, .int .u64 xn, .int .i64 pos] 60)); rw [HXS.out] at this; rw [HXS.out]; simpa [tkc] using this) (tkc_one _) m1 m2 (by simp; omega) ?_; intro v' w6 o1 g1 _; have LS6 := hide (((LS3.out.alloc _).alloc _).push rfl o1 g1); have it6 := hide LS6.out.it; clear o1 g1))
            go_roundw
            case rel => exact ⟨pos + d, pos + n, _, by go_num, hin, hn2, by simp; omega, LS6.out, HTO2, fun _ => HL⟩
            case measure => rw [iterPos_at it6.out, hpos0]; omega
          · rw [hx] at F2
            have F3 : Hid (∀ wx, Tab2 wx → Calls Tryz.prog 28 #[.string (s.extract pos s.size), .int .i32 r] wx fun e w' => e = .returned (.tuple #[.agg #[.int .u8 0, .string ⟨#[]⟩, .int .u64 0, .int .i64 0], .int .i64 0, .int .i64 x]) ∧ Below wx.heap.size wx w') := fun wx h => F2.out wx h
            have HE : Hid (Lx.lexA s.data.toList 0 = .error (x, pos)) := Lx.told_err HTO.out hdr hbl hx
            have hx0 : ¬ x = 0 := by have := Lx.next_err hx; omega
            have hT1 := hide (TT.out.later LS2.bel)
            have LSH := hide LS2
            clear hbl hdr hblr HTO HA F2 hx FI LS2 hes
            go_wp2_with (first
              | (go_at_call 27; refine (BL.out _ _).mono ?_; rintro e w' ⟨rfl, rfl⟩; rw [P1.out])
              | (go_at_call 28; refine (F3.out _ hT1.out).mono ?_; rintro e w3 ⟨rfl, hz⟩; have LS3 := hide (LSH.out.later hz); obtain ⟨z0, z1, f0, f1, hl2⟩ := slot2 LS3.out.res; have hl3 := LS3.out.lt; have bel3 := LS3.out.bel; clear hz))
            exact bodyPost_ret (v := .tuple #[.slice none 0 0, .agg #[.int .i64 x, .int .i64 pos]]) (by simp [results, Tryz.results15, go_sem, z0, z1, hl2]; try rfl) rfl ⟨.slice none 0 0, by unfold lexV; rw [HE.out], by first | exact bel3 | exact (below2 bel3 (Nat.le_refl _) _ _).alloc (by simp; omega) _⟩
        · have hd1 := Lx.small_one Lx.bl_lo s pos hlt hbl
          rw [hd1] at LS2 hin hps
          obtain ⟨r, hr⟩ : ∃ r : Int, r = ((Utf8.decode s pos).1 : Nat) := ⟨_, rfl⟩
          rw [← hr] at hnx hblr
          have P1 : Hid (Lx.blR r = true) := hblr.out.trans hbl
          have hTO : Hid (Lx.Told s.data.toList q (if pos + 1 < B then B else pos + 1)) := by
            show Lx.Told _ _ _
            rw [if_neg (by omega)]
            exact Lx.told_blank HTO.out hdr rfl hbl
          have LSH := hide LS2
          have hit2 := hide LS2.it
          clear hr hblr hbl hdr hd1 HTO HA LS2
          go_wp2_with (go_at_call 27; refine (BL.out _ _).mono ?_; rintro e w' ⟨rfl, rfl⟩; rw [P1.out])
          go_roundw
          case rel => exact ⟨pos + 1, B, q, rfl, hin, hB, hql, LSH.out, hTO, fun h => absurd h (by omega)⟩
          case measure => rw [iterPos_at hit2.out, hpos0]; omega
    · have hnx : ∀ ty, (Instr.next (.pointer (some ⟨w.heap.size + 1, 0, none⟩)) true ty).run Tryz.prog wr = _ := fun ty => Lib.run_next_end_at wr (w.heap.size + 1) s pos ty LS.it hlt
      have hpe : pos = s.size := by omega
      have HOK : Hid (Lx.lexA s.data.toList 0 = .ok q) := by
        show _ = _
        rw [if_neg (by omega)] at HTO
        exact Lx.told_end HTO.out (by rw [l_size]; omega)
      obtain ⟨z0, z1, f0, f1, hl2⟩ := slot2 LS.res
      have hlt2 := LS.lt
      have hbel := LS.bel
      have hown := hide LS.own
      have q0 : wr.setCell ⟨w.heap.size, 0, none⟩ (.int .i64 0) = wr := setCell_id LS.res rfl
      have q1 : wr.setCell ⟨w.heap.size, 1, none⟩ (.int .i64 0) = wr := setCell_id LS.res rfl
      clear HTO HA LS hpe
      go_wp2
      exact bodyPost_ret (v := .tuple #[u4, .agg #[.int .i64 0, .int .i64 0]]) (by simp [results, Tryz.results15, go_sem, z0, z1]; try rfl) rfl ⟨u4, by unfold lexV; rw [HOK.out]; exact ⟨rfl, own_baseT hown.out (Nat.le_add_right _ 2)⟩, by exact hbel⟩
end Go.Proofs.YtedamaccflhmfaaGreatDoor
