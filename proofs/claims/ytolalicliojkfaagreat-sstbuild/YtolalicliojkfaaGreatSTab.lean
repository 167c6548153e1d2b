/-
  Where a table lies; copies of bytes; what of an index is so whenever it is one.
-/
import Derived.Test.YtolalicliojkfaaGreatSJ
import Derived.Test.YtolalicliojkfaaGreatSParts
import Derived.Test.YtolalicliojkfaaGreatSI
namespace Go.Proofs.YtolalicliojkfaaGreat
open Go.RowKit

/-- A table lies at block B, what it keeps in blocks of its own from 'base' on; n blocks were read. -/
structure TabAt (w : World) (base B : Nat) (t : Ss.Tab) (n : Nat) : Prop where
  form : ∃ bv fv pv, w.heap[B]? = some (.cells #[.pointer (some ⟨B, 0, none⟩), bv, fv, pv, .int .i64 (t.entries : Int), .int .i64 (n : Int)] 80 (0, 0)) ∧
    (w.ownsRow base 5 1 bv t.blocks.length (bc t.blocks) ∧ w.ownsRow base 5 1 fv t.filter.length (bc t.filter) ∧ w.ownsRow base 78 6 pv t.parts.length (pcs t.parts)) ∧
    ((∀ i, bv.ownBlock = some i → i ≠ B) ∧ (∀ i, fv.ownBlock = some i → i ≠ B) ∧ (∀ i, pv.ownBlock = some i → i ≠ B))
  low : base ≤ B
theorem TabAt.lt {w : World} {base B n : Nat} {t : Ss.Tab} (h : TabAt w base B t n) : B < w.heap.size := by
  obtain ⟨⟨bv, fv, pv, hb, _⟩, _⟩ := h
  exact (Array.getElem?_eq_some_iff.1 hb).1
theorem TabAt.later {w w' : World} {base B n : Nat} {t : Ss.Tab} (h : TabAt w base B t n) (hb : Below w.heap.size w w') : TabAt w' base B t n := by
  obtain ⟨⟨bv, fv, pv, h1, ⟨h2, h3, h4⟩, h5⟩, h6⟩ := h
  exact ⟨⟨bv, fv, pv, keepB hb h1, ⟨own_after h2 hb, own_after h3 hb, own_after h4 hb⟩, h5⟩, h6⟩
theorem own_other {w w' : World} {base e size n B : Nat} {v : Value} {xs : List Value} (h : w.ownsRow base e size v n xs) (hg : w.grownBy w' (some B)) (hne : ∀ i, v.ownBlock = some i → i ≠ B) : w'.ownsRow base e size v n xs := by
  refine ⟨h.1, ?_⟩
  rcases h.2 with h0 | ⟨g, cap, cur, rfl, hb, hg2, hr⟩
  · exact .inl h0
  · exact .inr ⟨g, cap, cur, rfl, hb, (hg.block g (Array.getElem?_eq_some_iff.1 hg2).1 (fun e => hne g rfl (Option.some.inj e))).trans hg2, hr⟩
/-- One block more was read. -/
theorem TabAt.read {w : World} {base B n : Nat} {t : Ss.Tab} (h : TabAt w base B t n) : TabAt (w.setCell ⟨B, 5, none⟩ (.int .i64 ((n + 1 : Nat) : Int))) base B t (n + 1) := by
  obtain ⟨⟨bv, fv, pv, h1, ⟨h2, h3, h4⟩, h5, h6, h7⟩, h8⟩ := h
  have hg := grown_set w B 5 (.int .i64 ((n + 1 : Nat) : Int))
  exact ⟨⟨bv, fv, pv, (Joins.block_setCell h1 _).trans rfl, ⟨own_other h2 hg h5, own_other h3 hg h6, own_other h4 hg h7⟩, h5, h6, h7⟩, h8⟩

set_option maxHeartbeats 800000 in
theorem bclone_any (w : World) (g off c n : Nat) (l : List UInt8) (hn : n = l.length) (h : BytesIn w (.slice (some ⟨g, off, none⟩) n c) l) :
    Calls Tryz.prog 44 #[.slice (some ⟨g, off, none⟩) n c] w fun e w' => ∃ g1 cap, e = .returned (.slice (some ⟨g1, 0, none⟩) l.length cap) ∧ Ext w.heap.size w (.slice none 0 0) w' (.slice (some ⟨g1, 0, none⟩) l.length cap) l := by
  subst hn
  have keq := fun (w : World) (a : Option Addr) (n c : Nat) => Lib.run_eql_slice_nil (P := Tryz.prog) w 26 5 a n c 0 0 Tryz.underlying26
  have L0 := Ext.lit0 w.heap.size w #[] [] 0 (Nat.le_refl _) rfl rfl (by decide)
  have K0 : Below w.heap.size w (w.alloc (.cells #[] 5)) := (Below.refl _ _).alloc (Nat.le_refl _) _
  have V0 := h.later K0
  have hl := h.len
  clear h
  go_enter Tryz.func44, Tryz.ntmps44
  go_wp2_with (at_builtin; refine wpList_copy_bytes _ rfl _ _ rfl w.heap.size w.heap.size l l.length c rfl rfl L0.own (some ⟨g, off, none⟩) rfl V0 (fun e => by cases e) hl K0.size ?_; intro g1 cap1 L1 w1 HL1 hx1; have R := L0.trans hx1; clear L0 hx1 V0 K0)
  go_ret
  have e := HL1.out
  subst e
  exact ⟨g1, cap1, rfl, R⟩

theorem loop_len : ∀ (n : Nat) (s : Ss.Rd) (l : List Ss.Prt), (Ss.loop n s l).1.bad = false → (Ss.loop n s l).2.length = l.length + n
  | 0, s, l, _ => rfl
  | n + 1, s, l, h => by
    cases hb : (Ss.step s l).bad with
    | true => rw [loop_bad hb] at h; rw [hb] at h; cases h
    | false =>
      rw [loop_on hb] at h ⊢
      rw [loop_len n _ _ h, List.length_append]
      show l.length + 1 + n = _
      omega
theorem loop_most : ∀ (n : Nat) (s : Ss.Rd) (l : List Ss.Prt), (Ss.loop n s l).2.length ≤ l.length + n
  | 0, s, l => Nat.le_refl _
  | n + 1, s, l => by
    cases hb : (Ss.step s l).bad with
    | true => rw [loop_bad hb]; show l.length ≤ _; omega
    | false =>
      rw [loop_on hb]
      have := loop_most n (Ss.step s l) (l ++ [Ss.partX s (Ss.lastFin l)])
      rw [List.length_append] at this
      simp only [List.length_singleton] at this
      omega
theorem loop_fin : ∀ (n : Nat) (s : Ss.Rd) (l : List Ss.Prt), Ss.lastFin l ≤ l.length * 1048588 → Ss.lastFin (Ss.loop n s l).2 ≤ (Ss.loop n s l).2.length * 1048588
  | 0, s, l, h => h
  | n + 1, s, l, h => by
    cases hb : (Ss.step s l).bad with
    | true => rw [loop_bad hb]; exact h
    | false =>
      rw [loop_on hb]
      refine loop_fin n _ _ ?_
      rw [Ss.lastFin_snoc, List.length_append]
      have := Ss.numX_le s 13 1048588
      show Ss.lastFin l + Ss.numX s 13 1048588 ≤ (l.length + 1) * 1048588
      omega
theorem index_some {b : List UInt8} (h : Ss.indexOk b = true) : 1 ≤ (Ss.indexR b).2.length ∧ (Ss.indexR b).2.length ≤ 65536 ∧ Ss.lastFin (Ss.indexR b).2 ≤ 70000000000 := by
  unfold Ss.indexOk at h
  rw [Bool.and_eq_true] at h
  have hb : (Ss.indexR b).1.bad = false := by have := h.1; revert this; cases (Ss.indexR b).1.bad <;> simp
  have h1 := loop_len _ _ _ hb
  have h2 := Ss.numX_le ⟨b, false⟩ 1 65536
  have h3 := loop_fin (Ss.numX ⟨b, false⟩ 1 65536) (Ss.num ⟨b, false⟩ 1 65536) [] (Nat.zero_le _)
  have h4 : 1 ≤ Ss.numX ⟨b, false⟩ 1 65536 := by
    cases hk : Ss.nOk ⟨b, false⟩ 1 65536 with
    | true =>
      unfold Ss.numX
      rw [hk, if_pos rfl]
      unfold Ss.nOk at hk
      rw [Bool.and_eq_true, decide_eq_true_eq, decide_eq_true_eq] at hk
      exact hk.2
    | false =>
      exfalso
      unfold Ss.indexR Ss.numX Ss.num at hb
      rw [hk] at hb
      cases hb
  change (Ss.indexR b).2.length = 0 + _ at h1
  change Ss.lastFin (Ss.indexR b).2 ≤ (Ss.indexR b).2.length * 1048588 at h3
  omega
end Go.Proofs.YtolalicliojkfaaGreat
