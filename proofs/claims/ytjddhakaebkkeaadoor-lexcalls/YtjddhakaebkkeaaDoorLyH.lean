/-
  Package stagepostref13: Lex of any text.
-/
import Derived.Test.YtjddhakaebkkeaaDoorLyG
namespace Go.Proofs.YtjddhakaebkkeaaDoor
open Go.RowKit
attribute [local go_sem ↓] Go.wp_at_zero Go.wp_at_succ

/-- The document's Lex on its way: its tokens, its own fault, that nobody has written yet. -/
structure RlS (w0 wr : World) (v : Value) (q : List Lx.Tk) : Prop where
  own : wr.ownsRow (w0.heap.size + 1) 27 4 v q.length (tkcs q)
  res : wr.heap[w0.heap.size]? = some (.cells #[.int .i64 0, .int .i64 0] 30 (0, 0))
  bel : Below w0.heap.size w0 wr
theorem RlS.lt {w0 wr : World} {v : Value} {q : List Lx.Tk} (h : RlS w0 wr v q) : w0.heap.size < wr.heap.size := (Array.getElem?_eq_some_iff.1 h.res).1
theorem RlS.later {w0 wr w' : World} {v : Value} {q : List Lx.Tk} (h : RlS w0 wr v q) (hb : Below wr.heap.size wr w') : RlS w0 w' v q :=
  ⟨own_laterT h.own hb, (hb.block _ h.lt).trans h.res, h.bel.trans (hb.mono (by have := h.lt; omega))⟩
theorem RlS.alloc {w0 wr : World} {v : Value} {q : List Lx.Tk} (h : RlS w0 wr v q) (o : Obj) : RlS w0 (wr.alloc o) v q :=
  h.later ((Below.refl _ _).alloc (Nat.le_refl _) _)
theorem RlS.push {w0 wr w' : World} {v v' : Value} {q : List Lx.Tk} {n : Nat} {x : Lx.Tk} (h : RlS w0 wr v q) (hn : n = q.length) (o : w'.ownsRow (w0.heap.size + 1) 27 4 v' (n + 1) (tkcs q ++ tkc x)) (g : wr.grownBy w' v.ownBlock) : RlS w0 w' v' (q ++ [x]) := by
  subst hn
  have hl := h.lt
  have no : ∀ k, k < w0.heap.size + 1 → some k ≠ v.ownBlock := fun k hk e => by have := (h.own.lt k e.symm).1; omega
  refine ⟨?_, (g.block _ hl (no _ (by omega))).trans h.res, h.bel.trans ((Below.refl _ wr).grown g (by omega) (fun k hk => by have := (h.own.lt k hk).1; omega))⟩
  rw [tkcs_app, List.length_append]
  exact o

set_option maxRecDepth 20000 in
set_option maxHeartbeats 6400000 in
theorem rlex_any (w : World) (s : ByteArray) (hs : s.size ≤ 65536) (hT : Tab2 w) : Calls Tryd.prog 6 #[.string s] w fun e w' => ∃ v, lexV w s.data.toList v e w' ∧ Below w.heap.size w w' := by
  have NX := hide (fun wx p a h => rnext_at wx s p a (by omega) h)
  have BL := hide (fun wx c => blankC_any wx c)
  obtain ⟨i0, hi, hz0, hz1, hz2⟩ := info_parts info_tk
  have TT := hide hT
  clear hT
  have hsi : ¬ (s.size : Int) > 65536 := by omega
  go_enter Tryd.func6, Tryd.ntmps6
  go_wp2
  go_loopw [4, 5] (fun v iv wr => ∃ (pos : Nat) (q : List Lx.Tk), iv = .int .i64 pos ∧ pos ≤ s.size ∧ q.length ≤ pos ∧ RlS w wr v q ∧ Hid (Lx.Told s.data.toList q pos)) (fun _ iv _ => s.size - (intOf iv).toNat)
  case atStart =>
    refine ⟨0, [], rfl, Nat.zero_le _, by simp, ⟨World.ownsRow_nil _ _ _ _, ?_, (Below.refl _ w).alloc (Nat.le_refl _) _⟩, Lx.told_nil _⟩
    show (w.heap.push _)[w.heap.size]? = _
    simp
  case round =>
    obtain ⟨pos, q, rfl, hp, hql, LS, HTO⟩ := hrel
    by_cases hlt : pos < s.size
    · have hdr := drop_next hlt
      have hposi : (pos : Int) < s.size := by omega
      obtain ⟨c, hc⟩ : ∃ c, c = s[pos]'hlt := ⟨_, rfl⟩
      rw [← hc] at hdr
      have hsj : s[pos]'hlt = c := hc.symm
      clear hc
      have BC := hide (fun wx => BL.out wx c)
      cases hbl : Lx.bl c
      · rw [hbl] at BC
        have F2 := hide (fun wx h => NX.out wx pos hlt h)
        rcases nx_cases (Lx.next (s.data.toList.drop pos)) with ⟨x, n, hx⟩ | ⟨x, hx⟩
        · rw [hx] at F2
          have hnw := Lx.next_width hx
          have hnl : (s.data.toList.drop pos).length = s.size - pos := by rw [List.length_drop, l_size]
          obtain ⟨P2, hP2⟩ : ∃ P2, P2 = pos + n := ⟨_, rfl⟩
          have HTO2 : Hid (Lx.Told s.data.toList (q ++ [{ x with at' := pos }]) P2) := by show Lx.Told _ _ _; rw [hP2]; exact Lx.told_tok HTO.out hx
          have hP3 : P2 ≤ s.size := by omega
          have hP4 : pos < P2 := by omega
          have hT1 := hide (TT.out.later LS.bel)
          have LSH := hide LS
          obtain ⟨xk, xt, xn, xa⟩ := x
          obtain ⟨xs, hxs⟩ : ∃ xs : ByteArray, xs = ⟨xt.toArray⟩ := ⟨_, rfl⟩
          have HXS := hide hxs
          have F3 : Hid (∀ wx, Tab2 wx → Calls Tryd.prog 15 #[.string s, .int .i64 pos] wx fun e w' => e = .returned (.tuple #[.agg #[.int .u8 xk, .string xs, .int .u64 xn, .int .i64 pos], .int .i64 P2, .int .i64 0]) ∧ Below wx.heap.size wx w') := fun wx h => (F2.out wx h).mono (by
            rintro e w' ⟨v, rfl, hr, hb⟩
            refine ⟨?_, hb⟩
            rw [show v = _ from hr, hP2, hxs]; rfl)
          simp only at HTO2
          have m1 : q.length + 1 ≤ maxLen := by unfold maxLen; omega
          have m2 : (q.length + 1) * 40 ≤ 140737488355328 := by omega
          clear hbl hdr HTO F2 hx NX LS hnl hxs hnw hP2
          go_wp2_with (first
            | (go_at_call 14; refine (BC.out _).mono ?_; rintro e w2 ⟨rfl, h2⟩; subst h2)
            | (go_at_call 15; refine (F3.out _ hT1.out).mono ?_; rintro e w3 ⟨rfl, hz⟩; have LS3 := hide (LSH.out.later hz); have hl3 := LS3.out.lt; clear hz)
            | (at_builtin; refine wpList_append_own _ rfl (.tmp 35) (.tmp 37) 22 rfl (w.heap.size + 1) 27 i0 (.agg #[.int .u8 0, .string ⟨#[]⟩, .int .u64 0, .int .i64 0]) 4 40 Tryd.underlying22 hi hz0 hz1 hz2 rfl (by decide) _ q.length (tkcs q) rfl ((LS3.out.alloc _).alloc _).own ⟨w3.heap.size + 1, 0, none⟩ 1 1 (tkc ⟨xk, xt, xn, pos⟩) rfl rfl (by have := World.news_of_block (cs := #[.int .u8 xk, .string xs, .int .u64 xn, .int .i64 pos]) (heap_alloc_new (w3.alloc (.cells #[.int .u8 xk, .string xs, .int .u64 xn, .int .i64 pos] 27)) (.cells #[.int .u8 xk, .string xs, .int .u64 xn, .int .i64 pos] 27)); rw [HXS.out] at this; rw [HXS.out]; simpa [tkc] using this) (tkc_one _) m1 m2 (by simp; omega) ?_; intro v' w6 o1 g1 _; have LS6 := hide (((LS3.out.alloc _).alloc _).push rfl o1 g1); clear o1 g1))
          go_roundw
          case rel => exact ⟨P2, _, rfl, hP3, by simp; omega, LS6.out, HTO2⟩
          case measure => simp [intOf]; omega
        · have HE : Hid (Lx.lexA s.data.toList 0 = .error (x, pos)) := Lx.told_err HTO.out hdr hbl hx
          have hx0 : ¬ x = 0 := by have := Lx.next_err hx; omega
          rw [hx] at F2
          have hT1 := hide (TT.out.later LS.bel)
          have LSH := hide LS
          have F3 : Hid (∀ wx, Tab2 wx → Calls Tryd.prog 15 #[.string s, .int .i64 pos] wx fun e w' => ∃ i : Int, e = .returned (.tuple #[.agg #[.int .u8 0, .string ⟨#[]⟩, .int .u64 0, .int .i64 0], .int .i64 i, .int .i64 x]) ∧ Below wx.heap.size wx w') := fun wx h => (F2.out wx h).mono (by
            rintro e w' ⟨v, rfl, ⟨i, rfl⟩, hb⟩
            exact ⟨i, rfl, hb⟩)
          clear hbl hdr HTO F2 hx NX LS
          go_wp2_with (first
            | (go_at_call 14; refine (BC.out _).mono ?_; rintro e w2 ⟨rfl, h2⟩; subst h2)
            | (go_at_call 15; refine (F3.out _ hT1.out).mono ?_; rintro e w3 ⟨i, rfl, hz⟩; have LS3 := hide (LSH.out.later hz); obtain ⟨z0, z1, f0, f1, hl2⟩ := slot2 LS3.out.res; have hl3 := LS3.out.lt; have bel3 := LS3.out.bel; clear hz))
          exact bodyPost_ret (v := .tuple #[.slice none 0 0, .agg #[.int .i64 x, .int .i64 pos]]) (by simp [results, Tryd.results6, go_sem, z0, z1, hl2]; try rfl) rfl ⟨.slice none 0 0, by unfold lexV; rw [HE.out], by first | exact bel3 | exact (below2 bel3 (Nat.le_refl _) _ _).alloc (by simp; omega) _ | exact below2 (bel3.alloc (by omega) _) (Nat.le_refl _) _ _⟩
      · rw [hbl] at BC
        have HT2 := hide (Lx.told_blank HTO.out hdr rfl hbl)
        have LSH := hide LS
        clear hbl hdr HTO NX LS
        go_wp2_with (go_at_call 14; refine (BC.out _).mono ?_; rintro e w2 ⟨rfl, h2⟩; subst h2)
        go_roundw
        case rel => exact ⟨pos + 1, q, by go_num, by omega, by omega, LSH.out, HT2⟩
        case measure => simp [intOf]; omega
    · have hposi : ¬ (pos : Int) < s.size := by omega
      have HOK : Hid (Lx.lexA s.data.toList 0 = .ok q) := Lx.told_end HTO.out (by rw [l_size]; omega)
      obtain ⟨z0, z1, f0, f1, hl2⟩ := slot2 LS.res
      have hbel := LS.bel
      have hown := hide LS.own
      have q0 : wr.setCell ⟨w.heap.size, 0, none⟩ (.int .i64 0) = wr := setCell_id LS.res rfl
      have q1 : wr.setCell ⟨w.heap.size, 1, none⟩ (.int .i64 0) = wr := setCell_id LS.res rfl
      clear HTO LS NX
      go_wp2
      have LV : lexV w s.data.toList u4 (.returned (.tuple #[u4, .agg #[.int .i64 0, .int .i64 0]])) wr := by unfold lexV; rw [HOK.out]; exact ⟨rfl, own_baseT hown.out (Nat.le_add_right _ 1)⟩
      exact bodyPost_ret (v := .tuple #[u4, .agg #[.int .i64 0, .int .i64 0]]) (by simp [results, Tryd.results6, go_sem, z0, z1]; try rfl) rfl (by first | exact ⟨u4, LV, hbel⟩ | exact ⟨⟨u4, LV⟩, hbel⟩)
end Go.Proofs.YtjddhakaebkkeaaDoor
