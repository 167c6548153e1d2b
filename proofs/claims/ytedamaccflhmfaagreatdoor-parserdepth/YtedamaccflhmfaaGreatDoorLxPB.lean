/-
  What was told is read as the same tokens: the law's walk.
-/
import Derived.Test.YtedamaccflhmfaaGreatDoorXF
namespace Go.Proofs.YtedamaccflhmfaaGreatDoor
open Go.RowKit
attribute [local go_sem ↓] Go.wp_at_zero Go.wp_at_succ

/-- A law on its way: what came in stands, and a block of its own holds what it was told. -/
structure St (w0 wc : World) (f : Nat) (X : Obj) : Prop where
  bel : Below w0.heap.size w0 wc
  fb : wc.heap[f]? = some X
  ge : w0.heap.size ≤ f
theorem St.step {w0 wc wx w' : World} {f : Nat} {X : Obj} (h : St w0 wc f X) (hz : Below wx.heap.size wx w') (hu : Below wc.heap.size wc wx) : St w0 w' f X := by
  have hl := (Array.getElem?_eq_some_iff.1 h.fb).1
  have hge := h.ge
  have hs := hu.size
  exact ⟨(h.bel.trans (hu.mono (by omega))).trans (hz.mono (by omega)), ((hz.block f (by omega)).trans (hu.block f hl)).trans h.fb, hge⟩
theorem bstep {w0 wc wx w' : World} (h : Below w0.heap.size w0 wc) (hz : Below wx.heap.size wx w') (hu : Below wc.heap.size wc wx) : Below w0.heap.size w0 w' :=
  (h.trans (hu.mono h.size)).trans (hz.mono (by have := h.size; have := hu.size; omega))
theorem St.belTo {w0 wc wx : World} {f : Nat} {X : Obj} (h : St w0 wc f X) (hu : Below wc.heap.size wc wx) : Below w0.heap.size w0 wx :=
  h.bel.trans (hu.mono h.bel.size)
theorem St.store {w0 wc : World} {f : Nat} {a b : Value} {t : TypeId} (h : St w0 wc f (.cells #[a, b] t (0, 0))) (c d : Value) : St w0 ((wc.setCell ⟨f, 0, none⟩ c).setCell ⟨f, 1, none⟩ d) f (.cells #[c, d] t (0, 0)) :=
  ⟨(h.bel.setCell h.ge _).setCell h.ge _, (Joins.block_setCell (Joins.block_setCell h.fb _) _).trans rfl, h.ge⟩
theorem St.first {w0 wx w' : World} {X : Value × Value} {t : TypeId} (h : Below w0.heap.size w0 wx) (hz : Below wx.heap.size wx w') : St w0 (w'.alloc (.cells #[X.1, X.2] t)) w'.heap.size (.cells #[X.1, X.2] t (0, 0)) :=
  ⟨((h.trans (hz.mono h.size))).alloc (by have := h.size; have := hz.size; omega) _, by show (w'.heap.push _)[w'.heap.size]? = _; simp, by have := h.size; have := hz.size; omega⟩
theorem TksIn.step {wc wx w' : World} {v : Value} {l : List Lx.Tk} (h : TksIn wc v l) (hz : Below wx.heap.size wx w') (hu : Below wc.heap.size wc wx) : TksIn w' v l :=
  (h.later hu).later hz

/-- Lex of a text that is too long. -/
theorem lex_long (w : World) (s : ByteArray) (hs : 65536 < s.size) : Calls Tryz.prog 15 #[.string s] w fun e w' => e = .returned (.tuple #[.slice none 0 0, .agg #[.int .i64 3, .int .i64 (-1)]]) ∧ Below w.heap.size w w' := by
  have hsi : (s.size : Int) > 65536 := by omega
  go_enter Tryz.func15, Tryz.ntmps15
  go_wp2
  exact bodyPost_ret (v := .tuple #[.slice none 0 0, .agg #[.int .i64 3, .int .i64 (-1)]]) (by simp [results, Tryz.results15, go_sem]; try rfl) rfl ⟨rfl, (Below.refl _ _).alloc (Nat.le_refl _) _⟩
theorem unp_may {s : List UInt8} (hs : s.length ≤ 65536) {q : List Lx.Tk} (h : Lx.lexA s 0 = .ok q) : (∀ x ∈ q.map Lx.unp, Twf x ∧ Lx.mayT x = true) ∧ q.length ≤ s.length := by
  have hg := gs_wf s hs q 0 (lex_gs h)
  refine ⟨fun x hx => ?_, by have := hg.2; omega⟩
  obtain ⟨y, hy, rfl⟩ := List.mem_map.1 hx
  have hm := (hg.1 y hy).2
  exact ⟨may_wf (x := Lx.unp y) hm (by show (0 : Int) ≤ 0; decide) (by show (0 : Int) ≤ 65536; decide), hm⟩
/-- Text of tokens that may be. -/
theorem text_may (w : World) (v : Value) (l : List Lx.Tk) (h : TksIn w v l) (hn : l.length ≤ 1000000) (hT : Tabs w) (hm : ∀ x ∈ l, Lx.mayT x = true) (t : ByteArray) (ht : t = ⟨(Lx.textL l).toArray⟩) : Calls Tryz.prog 47 #[v] w fun e w' => e = .returned (.tuple #[.string t, .agg #[.int .i64 0, .int .i64 0]]) ∧ Below w.heap.size w w' := by
  have := text_any w v l h hn hT
  have ok := text_ok ((Lx.bad_none l).2 hm)
  rw [ok.1, ok.2.1, ok.2.2, ← ht] at this
  exact this
theorem text_bad (w : World) (v : Value) (l : List Lx.Tk) (h : TksIn w v l) (hn : l.length ≤ 1000000) (hT : Tabs w) (i : Nat) (hb : Lx.badAt l = some i) : Calls Tryz.prog 47 #[v] w fun e w' => e = .returned (.tuple #[.string ⟨#[]⟩, .agg #[.int .i64 2, .int .i64 i]]) ∧ Below w.heap.size w w' := by
  have := text_any w v l h hn hT
  have no := text_no hb
  rw [no.1, no.2.1, no.2.2] at this
  exact this
end Go.Proofs.YtedamaccflhmfaaGreatDoor
