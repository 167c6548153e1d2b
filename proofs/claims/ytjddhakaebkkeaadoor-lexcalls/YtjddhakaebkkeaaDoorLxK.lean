/-
  Package lexer: Lex of any text: its tokens, or its first fault.
-/
import Derived.Test.YtjddhakaebkkeaaDoorLxJ
import Derived.Test.YtjddhakaebkkeaaDoorLxX
namespace Go.Proofs.YtjddhakaebkkeaaDoor
open Go.RowKit
attribute [local go_sem ↓] Go.wp_at_zero Go.wp_at_succ

def tkc (x : Lx.Tk) : List Value := [.int .u8 x.k, .string ⟨x.t.toArray⟩, .int .u64 x.n, .int .i64 x.at']
def tkcs (l : List Lx.Tk) : List Value := l.flatMap tkc
theorem tkcs_app (l : List Lx.Tk) (x : Lx.Tk) : tkcs (l ++ [x]) = tkcs l ++ tkc x := by simp [tkcs]
theorem tkcs_len (l : List Lx.Tk) : (tkcs l).length = l.length * 4 := by
  induction l with
  | nil => rfl
  | cons x l ih => show (tkc x ++ tkcs l).length = _; rw [List.length_append, ih, List.length_cons]; simp [tkc]; omega
theorem tkc_one (x : Lx.Tk) : ∀ u ∈ tkc x, u.oneCell' = true := by
  intro u hu
  simp only [tkc, List.mem_cons, List.not_mem_nil, or_false] at hu
  rcases hu with rfl | rfl | rfl | rfl <;> rfl
theorem own_laterT {w w' : World} {base n : Nat} {v : Value} {xs : List Value} (h : w.ownsRow base 27 4 v n xs) (hb : Below w.heap.size w w') : w'.ownsRow base 27 4 v n xs :=
  h.kept (w' := w') (row := none) ⟨hb.os, hb.tape, hb.output, hb.size, fun k hk _ => hb.block k hk⟩ (Classical.em _)
theorem own_iterT {w : World} {base n : Nat} {v : Value} {xs : List Value} (h : w.ownsRow base 27 4 v n xs) {k : Nat} (hk : k < base) (s : ByteArray) (p : Nat) : (w.iterAt k s p).ownsRow base 27 4 v n xs := by
  obtain ⟨h1, h2⟩ := h
  refine ⟨h1, ?_⟩
  rcases h2 with h2 | ⟨g, cap, cur, a, b, c, d⟩
  · exact .inl h2
  · exact .inr ⟨g, cap, cur, a, b, by rw [Lib.iterAt_other _ _ _ _ _ (by omega)]; exact c, d⟩
theorem own_baseT {w : World} {base base' : Nat} {v : Value} {n : Nat} {xs : List Value} (h : w.ownsRow base 27 4 v n xs) (hb : base' ≤ base) : w.ownsRow base' 27 4 v n xs := by
  refine ⟨h.1, ?_⟩
  rcases h.2 with h' | ⟨g, cap, cur, e, h1, h2⟩
  · exact .inl h'
  · exact .inr ⟨g, cap, cur, e, Nat.le_trans hb h1, h2⟩

/-- Lex on its way: its tokens, its iterator, its own fault, that nobody has written yet. -/
structure LexS (w0 wr : World) (s : ByteArray) (v : Value) (q : List Lx.Tk) (pos : Nat) : Prop where
  own : wr.ownsRow (w0.heap.size + 2) 27 4 v q.length (tkcs q)
  it : wr.heap[w0.heap.size + 1]? = some (.stringIter s pos)
  res : wr.heap[w0.heap.size]? = some (.cells #[.int .i64 0, .int .i64 0] 30 (0, 0))
  bel : Below w0.heap.size w0 wr
theorem LexS.next {w0 wr : World} {s : ByteArray} {v : Value} {q : List Lx.Tk} {pos : Nat} (h : LexS w0 wr s v q pos) (p : Nat) : LexS w0 (wr.iterAt (w0.heap.size + 1) s p) s v q p :=
  ⟨own_iterT h.own (by omega) s p, Lib.iterAt_heap wr (w0.heap.size + 1) s pos p h.it, (Lib.iterAt_other _ _ _ _ _ (by omega)).trans h.res, Lib.below_iterAt h.bel (by omega) s p⟩
theorem LexS.lt {w0 wr : World} {s : ByteArray} {v : Value} {q : List Lx.Tk} {pos : Nat} (h : LexS w0 wr s v q pos) : w0.heap.size + 1 < wr.heap.size := (Array.getElem?_eq_some_iff.1 h.it).1
theorem LexS.later {w0 wr w' : World} {s : ByteArray} {v : Value} {q : List Lx.Tk} {pos : Nat} (h : LexS w0 wr s v q pos) (hb : Below wr.heap.size wr w') : LexS w0 w' s v q pos :=
  ⟨own_laterT h.own hb, (hb.block _ h.lt).trans h.it, (hb.block _ (by have := h.lt; omega)).trans h.res, h.bel.trans (hb.mono (by have := h.lt; omega))⟩
theorem LexS.alloc {w0 wr : World} {s : ByteArray} {v : Value} {q : List Lx.Tk} {pos : Nat} (h : LexS w0 wr s v q pos) (o : Obj) : LexS w0 (wr.alloc o) s v q pos :=
  h.later ((Below.refl _ _).alloc (Nat.le_refl _) _)
theorem LexS.push {w0 wr w' : World} {s : ByteArray} {v v' : Value} {q : List Lx.Tk} {pos n : Nat} {x : Lx.Tk} (h : LexS w0 wr s v q pos) (hn : n = q.length) (o : w'.ownsRow (w0.heap.size + 2) 27 4 v' (n + 1) (tkcs q ++ tkc x)) (g : wr.grownBy w' v.ownBlock) : LexS w0 w' s v' (q ++ [x]) pos := by
  subst hn
  have hl := h.lt
  have no : ∀ k, k < w0.heap.size + 2 → some k ≠ v.ownBlock := fun k hk e => by have := (h.own.lt k e.symm).1; omega
  refine ⟨?_, (g.block _ hl (no _ (by omega))).trans h.it, (g.block _ (by omega) (no _ (by omega))).trans h.res, h.bel.trans ((Below.refl _ wr).grown g (by omega) (fun k hk => by have := (h.own.lt k hk).1; omega))⟩
  rw [tkcs_app, List.length_append]
  exact o

theorem slot2 {w : World} {B : Nat} {x y : Value} {t : TypeId} (h : w.heap[B]? = some (.cells #[x, y] t (0, 0))) : w.cell? ⟨B, 0, none⟩ = some x ∧ w.cell? ⟨B, 1, none⟩ = some y ∧ w.frozen? ⟨B, 0, none⟩ = false ∧ w.frozen? ⟨B, 1, none⟩ = false ∧ B < w.heap.size :=
  ⟨Joins.cell_of_block h 0, Joins.cell_of_block h 1, Joins.unfrozen_of_block h 0, Joins.unfrozen_of_block h 1, (Array.getElem?_eq_some_iff.1 h).1⟩
theorem below2 {w w2 : World} {B : Nat} (hb : Below B w w2) (hB : B ≤ w.heap.size) (a b : Value) : Below B w ((w2.setCell ⟨w.heap.size, 0, none⟩ a).setCell ⟨w.heap.size, 1, none⟩ b) :=
  (hb.setCell hB _).setCell hB _

theorem setCell_id {w : World} {g i : Nat} {cs : Array Value} {t : TypeId} {v : Value} (hb : w.heap[g]? = some (.cells cs t (0, 0))) (hv : cs[i]? = some v) : w.setCell ⟨g, i, none⟩ v = w := by
  have hg := (Array.getElem?_eq_some_iff.1 hb).1
  have hi := (Array.getElem?_eq_some_iff.1 hv).1
  have hc : cs.setIfInBounds i v = cs := by
    apply Array.ext_getElem?
    intro l
    by_cases hl : i = l
    · subst hl; rw [Array.getElem?_setIfInBounds_self_of_lt hi, hv]
    · rw [Array.getElem?_setIfInBounds_ne hl]
  have h1 := heap_setCell_same w g i cs t v hb
  rw [hc] at h1
  have h2 : (w.setCell ⟨g, i, none⟩ v).heap = w.heap := by
    apply Array.ext_getElem?
    intro l
    by_cases hl : l = g
    · subst hl; rw [h1, hb]
    · exact heap_setCell_other w _ l v hl
  have h3 : w.setCell ⟨g, i, none⟩ v = { w with heap := (w.setCell ⟨g, i, none⟩ v).heap } := rfl
  rw [h3, h2]
theorem info_tk : (Tryd.prog.info? 27).map (fun i => (i.zero, i.size, i.bytes)) = some (some (.agg #[.int .u8 0, .string ⟨#[]⟩, .int .u64 0, .int .i64 0]), 4, 40) := by kernel_rfl

/-- What Lex answers. -/
def lexV (w0 : World) (l : List UInt8) (v : Value) (e : Ending) (w' : World) : Prop := match Lx.lexA l 0 with
  | .ok q => e = .returned (.tuple #[v, .agg #[.int .i64 0, .int .i64 0]]) ∧ w'.ownsRow w0.heap.size 27 4 v q.length (tkcs q)
  | .error (x, p) => e = .returned (.tuple #[.slice none 0 0, .agg #[.int .i64 x, .int .i64 p]])

set_option maxRecDepth 100000 in
set_option maxHeartbeats 6400000 in
theorem lex_any (w : World) (s : ByteArray) (hs : s.size ≤ 65536) (hT : Tab2 w) : Calls Tryd.prog 5 #[.string s] w fun e w' => ∃ v, lexV w s.data.toList v e w' ∧ Below w.heap.size w w' := by
  have FI := hide (fun (t : ByteArray) (r : Int) (a : 0 < t.size) (b : t.size ≤ 100000) (c : r = ((Utf8.decode t 0).1 : Nat)) wx h => first_any wx t r a b c h)
  have BL := hide (fun wx r => isBlank_any wx r)
  obtain ⟨i0, hi, hz0, hz1, hz2⟩ := info_parts info_tk
  have TT := hide hT
  clear hT
  obtain ⟨R, hR⟩ : ∃ R : Value → Ending → World → Prop, R = fun v e w' => lexV w s.data.toList v e w' := ⟨_, rfl⟩
  have hsi : ¬ (s.size : Int) > 65536 := by omega
  go_enter Tryd.func5, Tryd.ntmps5
  go_wp2
  go_loopw [4, 5] (fun v bh wr => ∃ (pos B : Nat) (q : List Lx.Tk), bh = .int .i64 B ∧ pos ≤ s.size ∧ B ≤ s.size ∧ q.length ≤ B ∧ LexS w wr s v q pos ∧ Hid (Lx.Told s.data.toList q (if pos < B then B else pos)) ∧ (pos < B → Hid (∃ c, s.data.toList[B - 1]? = some c ∧ c.toNat < 128))) (fun _ _ wr => s.size - wr.iterPos (w.heap.size + 1))
  case atStart =>
    refine ⟨0, 0, [], rfl, Nat.zero_le _, Nat.zero_le _, by simp, ⟨World.ownsRow_nil _ _ _ _, ?_, ?_, ?_⟩, Lx.told_nil _, fun h => absurd h (by omega)⟩
    · have := World.iter_heap (w.alloc (.cells #[.int .i64 0, .int .i64 0] 30)) s 0
      simpa using this
    · rw [show ((w.alloc (.cells #[.int .i64 0, .int .i64 0] 30)).iter s 0).heap[w.heap.size]? = (w.alloc (.cells #[.int .i64 0, .int .i64 0] 30)).heap[w.heap.size]? from (((Below.refl _ (w.alloc (.cells #[.int .i64 0, .int .i64 0] 30))).alloc (Nat.le_refl _) (.stringIter s 0)).block _ (by simp))]
      show (w.heap.push _)[w.heap.size]? = _
      simp
    · exact ((Below.refl _ w).alloc (Nat.le_refl _) _).alloc (by simp) _
  case round =>
    obtain ⟨pos, B, q, rfl, hp, hB, hql, LS, HTO, HA⟩ := hrel
    have hpos0 := iterPos_at LS.it
    by_cases hlt : pos < s.size
    · have hnx : ∀ ty, (Instr.next (.pointer (some ⟨w.heap.size + 1, 0, none⟩)) true ty).run Tryd.prog wr = _ := fun ty => Lib.run_next_any_at wr (w.heap.size + 1) s pos ty LS.it hlt
      have LS2 := LS.next (pos + (Utf8.decode s pos).2)
      have hin := Lx.decode_in s pos hlt
      have hps := Lx.decode_pos s pos hlt
      obtain ⟨W1, hW1⟩ : ∃ W1, W1 = wr.iterAt (w.heap.size + 1) s (pos + (Utf8.decode s pos).2) := ⟨_, rfl⟩
      rw [← hW1] at hnx LS2
      clear hW1 LS
      by_cases hpB : pos < B
      · have hst := Lx.rune_stays s pos B hpB hB (HA hpB).out
        rw [if_pos hpB] at HTO
        obtain ⟨d, hd⟩ : ∃ d, d = (Utf8.decode s pos).2 := ⟨_, rfl⟩
        obtain ⟨r, hr⟩ : ∃ r : Int, r = ((Utf8.decode s pos).1 : Nat) := ⟨_, rfl⟩
        rw [← hr] at hnx
        rw [← hd] at LS2 hin hps hst
        have hTO : Hid (Lx.Told s.data.toList q (if pos + d < B then B else pos + d)) := by
          show Lx.Told _ _ _
          split
          · exact HTO.out
          · rw [show pos + d = B from by omega]; exact HTO.out
        have HA2 := HA hpB
        have hpBi : (pos : Int) < B := by omega
        have LSH := hide LS2
        have hit2 := hide LS2.it
        clear hd hr HTO HA LS2
        go_wp2
        go_roundw
        case rel => exact ⟨pos + d, B, q, rfl, hin, hB, hql, LSH.out, hTO, fun _ => HA2⟩
        case measure => rw [iterPos_at hit2.out, hpos0]; omega
      · rw [if_neg hpB] at HTO
        have hdr := Lx.drop_at s pos hlt
        have hblr := hide (Lx.rune_pred Lx.blR_c Lx.blR_hi s pos hlt)
        have hpBi : ¬ (pos : Int) < B := by omega
        cases hbl : Lx.bl (s[pos]'hlt)
        · obtain ⟨r, hr⟩ : ∃ r : Int, r = ((Utf8.decode s pos).1 : Nat) := ⟨_, rfl⟩
          rw [← hr] at hnx hblr
          have P1 : Hid (Lx.blR r = false) := hblr.out.trans hbl
          have hex := extract_mk s pos
          have hel : (s.extract pos s.size).data.toList = s.data.toList.drop pos := by rw [hex]
          have hes : (s.extract pos s.size).size = s.size - pos := by simp [ByteArray.size_extract]
          have hde : Utf8.decode (s.extract pos s.size) 0 = Utf8.decode s pos := by rw [hex]; exact Lib.decodeL_drop s pos
          have F2 := hide (FI.out (s.extract pos s.size) r (by omega) (by omega) (by rw [hde]; exact hr))
          rw [hel] at F2
          obtain ⟨d, hd⟩ : ∃ d, d = (Utf8.decode s pos).2 := ⟨_, rfl⟩
          have hst : ∀ n, 1 ≤ n → pos + n ≤ s.size → (∃ c, s.data.toList[pos + n - 1]? = some c ∧ c.toNat < 128) → pos + d ≤ pos + n := fun n h1 h2 h3 => by
            rw [hd]; exact Lx.rune_stays s pos (pos + n) (by omega) h2 h3
          rw [← hd] at LS2 hin hps
          have HST := hide hst
          clear hst hd hr hex hel hde
          have hposi : (pos : Int) ≤ s.size := by omega
          have hposn : ¬ (s.size : Int) = pos := by omega
          rcases nx_cases (Lx.next (s.data.toList.drop pos)) with ⟨x, n, hx⟩ | ⟨x, hx⟩
          · rw [hx] at F2
            have F3 : Hid (∀ wx, Tab2 wx → Calls Tryd.prog 13 #[.string (s.extract pos s.size), .int .i32 r] wx fun e w' => e = .returned (.tuple #[.agg #[.int .u8 x.k, .string ⟨x.t.toArray⟩, .int .u64 x.n, .int .i64 x.at'], .int .i64 n, .int .i64 0]) ∧ Below wx.heap.size wx w') := fun wx h => F2.out wx h
            have hnw := Lx.next_width hx
            have hnl : (s.data.toList.drop pos).length = s.size - pos := by rw [List.length_drop, l_size]
            have hn2 : pos + n ≤ s.size := by omega
            have hlast := Lx.last_drop hnw.1 (Lx.next_last hx)
            have hdn := HST.out n hnw.1 hn2 hlast
            have HL := hide hlast
            have HTO2 : Hid (Lx.Told s.data.toList (q ++ [{ x with at' := pos }]) (if pos + d < pos + n then pos + n else pos + d)) := by
              have h2 := Lx.told_tok HTO.out hx
              show Lx.Told _ _ _
              split
              · exact h2
              · rw [show pos + d = pos + n from by omega]; exact h2
            have hn1 := hnw.1
            have hT1 := hide (TT.out.later LS2.bel)
            have LSH := hide LS2
            obtain ⟨xk, xt, xn, xa⟩ := x
            simp only at F3 HTO2
            obtain ⟨xs, hxs⟩ : ∃ xs : ByteArray, xs = ⟨xt.toArray⟩ := ⟨_, rfl⟩
            have HXS := hide hxs
            rw [← hxs] at F3
            have m1 : q.length + 1 ≤ maxLen := by unfold maxLen; omega
            have m2 : (q.length + 1) * 40 ≤ 140737488355328 := by omega
            clear hbl hdr hblr HTO HA F2 hx FI LS2 hes hnl hlast HST hxs hnw
            go_wp2_with (first
              | (go_at_call 12; refine (BL.out _ _).mono ?_; rintro e w' ⟨rfl, rfl⟩; rw [P1.out])
              | (go_at_call 13; refine (F3.out _ hT1.out).mono ?_; rintro e w3 ⟨rfl, hz⟩; have LS3 := hide (LSH.out.later hz); have hl3 := LS3.out.lt; clear hz)
              | (at_builtin; refine wpList_append_own _ rfl (.tmp 44) (.tmp 46) 22 rfl (w.heap.size + 2) 27 i0 (.agg #[.int .u8 0, .string ⟨#[]⟩, .int .u64 0, .int .i64 0]) 4 40 Tryd.underlying22 hi hz0 hz1 hz2 rfl (by decide) _ q.length (tkcs q) rfl ((LS3.out.alloc _).alloc _).own ⟨w3.heap.size + 1, 0, none⟩ 1 1 (tkc ⟨xk, xt, xn, pos⟩) rfl rfl (by have := World.news_of_block (cs := #[.int .u8 xk, .string xs, .int .u64 xn, .int .i64 pos]) (heap_alloc_new (w3.alloc (.cells #[.int .u8 xk, .string xs, .int .u64 xn, .int .i64 pos] 27)) (.cells #[.int .u8 xk, .string xs, .int .u64 xn, .int .i64 pos] 27)); rw [HXS.out] at this; rw [HXS.out]; simpa [tkc] using this) (tkc_one _) m1 m2 (by simp; omega) ?_; intro v' w6 o1 g1 _; have LS6 := hide (((LS3.out.alloc _).alloc _).push rfl o1 g1); have it6 := hide LS6.out.it; clear o1 g1))
            go_roundw
            case rel => exact ⟨pos + d, pos + n, _, by go_num, hin, hn2, by simp; omega, LS6.out, HTO2, fun _ => HL⟩
            case measure => rw [iterPos_at it6.out, hpos0]; omega
          · rw [hx] at F2
            have F3 : Hid (∀ wx, Tab2 wx → Calls Tryd.prog 13 #[.string (s.extract pos s.size), .int .i32 r] wx fun e w' => e = .returned (.tuple #[.agg #[.int .u8 0, .string ⟨#[]⟩, .int .u64 0, .int .i64 0], .int .i64 0, .int .i64 x]) ∧ Below wx.heap.size wx w') := fun wx h => F2.out wx h
            have HE : Hid (Lx.lexA s.data.toList 0 = .error (x, pos)) := Lx.told_err HTO.out hdr hbl hx
            have hx0 : ¬ x = 0 := by have := Lx.next_err hx; omega
            have hT1 := hide (TT.out.later LS2.bel)
            have LSH := hide LS2
            clear hbl hdr hblr HTO HA F2 hx FI LS2 hes
            go_wp2_with (first
              | (go_at_call 12; refine (BL.out _ _).mono ?_; rintro e w' ⟨rfl, rfl⟩; rw [P1.out])
              | (go_at_call 13; refine (F3.out _ hT1.out).mono ?_; rintro e w3 ⟨rfl, hz⟩; have LS3 := hide (LSH.out.later hz); obtain ⟨z0, z1, f0, f1, hl2⟩ := slot2 LS3.out.res; have hl3 := LS3.out.lt; have bel3 := LS3.out.bel; clear hz))
            exact bodyPost_ret (v := .tuple #[.slice none 0 0, .agg #[.int .i64 x, .int .i64 pos]]) (by simp [results, Tryd.results5, go_sem, z0, z1, hl2]; try rfl) rfl ⟨.slice none 0 0, by unfold lexV; rw [HE.out], by first | exact bel3 | exact (below2 bel3 (Nat.le_refl _) _ _).alloc (by simp; omega) _⟩
        · have hd1 := Lx.small_one Lx.bl_lo s pos hlt hbl
          rw [hd1] at LS2 hin hps
          obtain ⟨r, hr⟩ : ∃ r : Int, r = ((Utf8.decode s pos).1 : Nat) := ⟨_, rfl⟩
          rw [← hr] at hnx hblr
          have P1 : Hid (Lx.blR r = true) := hblr.out.trans hbl
          have hTO : Hid (Lx.Told s.data.toList q (if pos + 1 < B then B else pos + 1)) := by
            show Lx.Told _ _ _
            rw [if_neg (by omega)]
            exact Lx.told_blank HTO.out hdr rfl hbl
          have LSH := hide LS2
          have hit2 := hide LS2.it
          clear hr hblr hbl hdr hd1 HTO HA LS2
          go_wp2_with (go_at_call 12; refine (BL.out _ _).mono ?_; rintro e w' ⟨rfl, rfl⟩; rw [P1.out])
          go_roundw
          case rel => exact ⟨pos + 1, B, q, rfl, hin, hB, hql, LSH.out, hTO, fun h => absurd h (by omega)⟩
          case measure => rw [iterPos_at hit2.out, hpos0]; omega
    · have hnx : ∀ ty, (Instr.next (.pointer (some ⟨w.heap.size + 1, 0, none⟩)) true ty).run Tryd.prog wr = _ := fun ty => Lib.run_next_end_at wr (w.heap.size + 1) s pos ty LS.it hlt
      have hpe : pos = s.size := by omega
      have HOK : Hid (Lx.lexA s.data.toList 0 = .ok q) := by
        show _ = _
        rw [if_neg (by omega)] at HTO
        exact Lx.told_end HTO.out (by rw [l_size]; omega)
      obtain ⟨z0, z1, f0, f1, hl2⟩ := slot2 LS.res
      have hlt2 := LS.lt
      have hbel := LS.bel
      have hown := hide LS.own
      have q0 : wr.setCell ⟨w.heap.size, 0, none⟩ (.int .i64 0) = wr := setCell_id LS.res rfl
      have q1 : wr.setCell ⟨w.heap.size, 1, none⟩ (.int .i64 0) = wr := setCell_id LS.res rfl
      clear HTO HA LS hpe
      go_wp2
      exact bodyPost_ret (v := .tuple #[u4, .agg #[.int .i64 0, .int .i64 0]]) (by simp [results, Tryd.results5, go_sem, z0, z1]; try rfl) rfl ⟨u4, by unfold lexV; rw [HOK.out]; exact ⟨rfl, own_baseT hown.out (Nat.le_add_right _ 2)⟩, by exact hbel⟩
end Go.Proofs.YtjddhakaebkkeaaDoor
