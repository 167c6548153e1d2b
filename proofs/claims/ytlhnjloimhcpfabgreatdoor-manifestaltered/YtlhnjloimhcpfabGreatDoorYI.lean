/-
  What Decode holds while it reads: the reader, the edit that it fills, the rows that it owns. .. and what follows from it.
-/
import Derived.Test.YtlhnjloimhcpfabGreatDoorYH
import Derived.Test.YtlhnjloimhcpfabGreatDoorYA
import Derived.Test.YtlhnjloimhcpfabGreatDoorYL
import Derived.Test.YtlhnjloimhcpfabGreatDoorYJ
namespace Go.Proofs.YtlhnjloimhcpfabGreatDoor
open Go.RowKit

abbrev zcs (l : List Int) : List Value := l.map (Value.int .i64)
theorem zcs_one (l : List Int) : ∀ u ∈ zcs l, u.oneCell' = true := by
  intro u hu
  obtain ⟨x, _, rfl⟩ := List.mem_map.1 hu
  rfl
theorem infoZ : (Tryz.prog.info? 3).map (fun i => (i.zero, i.size, i.bytes)) = some (some (.int .i64 0), 1, 8) := by kernel_rfl

/-- One number put behind a row of numbers that the call owns, in a drawn region. -/
theorem step_app_z (w : World) {ops : Array Oper} {o : Oper} {a : Act} {K : Act → World → Prop} {Q : Exit → Act → World → Prop} {E : Prop} (hgd : o.guard = none) (s x : Operand)
    (hop : o.op = .call { callee := .builtin .append, args := #[s, x], argTypes := #[32, 32] })
    (base : Nat) (va : Option Addr) (n vc B : Nat) (A : List Int) (v : Int) (hs : a.eval s = .slice va n vc) (hown : w.ownsRow base 3 1 (.slice va n vc) n (zcs A))
    (hx : a.eval x = .slice (some ⟨B, 0, none⟩) 1 1) (hB : w.heap[B]? = some (.cells #[.int .i64 v] 3)) (hroom : n ≤ 1000000) (hbase : base ≤ w.heap.size)
    (h : ∀ g' cap' w', w'.ownsRow base 3 1 (.slice (some ⟨g', 0, none⟩) (n + 1) cap') (n + 1) (zcs (A ++ [v])) → w.grownBy w' (Value.slice va n vc).ownBlock → K (a.put o.dst (.slice (some ⟨g', 0, none⟩) (n + 1) cap')) w') :
    if Region.wanted o (yielded ops a.tmps) = true then Oper.wp Tryz.prog o a w K Q else E := by
  have hw : Region.wanted o (yielded ops a.tmps) = true := by simp [Region.wanted, hgd]
  rw [if_pos hw]
  obtain ⟨i0, hi, hz0, hz1, hz2⟩ := info_parts infoZ
  refine wp_append_lies w s x 32 hop base 3 i0 (.int .i64 0) 1 8 Tryz.underlying32 hi hz0 hz1 hz2 rfl (by decide) _ n (zcs A) hs hown ⟨B, 0, none⟩ 1 1 (zcs [v]) hx rfl (fun j u hu => ?_) (zcs_one _) (by decide) (by unfold maxLen; omega) (by omega) hbase _ rfl ?_
  · have hadd : (⟨B, 0, none⟩ : Addr).add j = ⟨B, j, none⟩ := by unfold Addr.add; split <;> simp_all
    rw [hadd]
    refine (Joins.cell_of_block hB j).trans ?_
    rw [← hu]
    rcases j with _ | j <;> rfl
  · intro g' cap' w' h1 h2 _ _
    refine h g' cap' w' ?_ h2
    rw [show zcs (A ++ [v]) = zcs A ++ zcs [v] from List.map_append]
    exact h1
/-- One table put behind a row of tables that the call owns, in a drawn region. -/
theorem step_app_m (w : World) {ops : Array Oper} {o : Oper} {a : Act} {K : Act → World → Prop} {Q : Exit → Act → World → Prop} {E : Prop} (hgd : o.guard = none) (s x : Operand)
    (hop : o.op = .call { callee := .builtin .append, args := #[s, x], argTypes := #[37, 37] })
    (base : Nat) (va : Option Addr) (n vc B : Nat) (A : List Mf.Mt) (v : Mf.Mt) (hs : a.eval s = .slice va n vc) (hown : w.ownsRow base 43 5 (.slice va n vc) n (mcs A))
    (hx : a.eval x = .slice (some ⟨B, 0, none⟩) 1 1) (hB : w.heap[B]? = some (mO v)) (hroom : n ≤ 1000000) (hbase : base ≤ w.heap.size)
    (h : ∀ g' cap' w', w'.ownsRow base 43 5 (.slice (some ⟨g', 0, none⟩) (n + 1) cap') (n + 1) (mcs (A ++ [v])) → w.grownBy w' (Value.slice va n vc).ownBlock → K (a.put o.dst (.slice (some ⟨g', 0, none⟩) (n + 1) cap')) w') :
    if Region.wanted o (yielded ops a.tmps) = true then Oper.wp Tryz.prog o a w K Q else E := by
  have hw : Region.wanted o (yielded ops a.tmps) = true := by simp [Region.wanted, hgd]
  rw [if_pos hw]
  obtain ⟨i0, hi, hz0, hz1, hz2⟩ := info_parts infoM
  have hin : MtsAt w (.slice (some ⟨B, 0, none⟩) 1 1) [v] := ⟨⟨_, 1, rfl, fun _ => ⟨_, 0, rfl, fun j hj => by
    obtain rfl : j = 0 := by simpa using hj
    exact mt_block hB⟩⟩⟩
  refine wp_append_lies w s x 37 hop base 43 i0 _ 5 56 Tryz.underlying37 hi hz0 hz1 hz2 rfl (by decide) _ n (mcs A) hs hown ⟨B, 0, none⟩ 1 1 (mcs [v]) hx rfl (mts_cells hin) (mcs_one _) (by decide) (by unfold maxLen; omega) (by omega) hbase _ rfl ?_
  intro g' cap' w' h1 h2 _ _
  refine h g' cap' w' ?_ h2
  rw [mcs_append]
  exact h1

/-- The reader at its block, the edit at its own, and the edit's two rows. -/
structure Dc (w wx : World) (s : Wl.Rd) (da : Option Addr) (dn dc : Nat) (ds : List Int) (aa : Option Addr) (an ac : Nat) (as' : List Mf.Mt) : Prop where
  rd : YRd wx (w.heap.size + 1) w.heap.size s
  ed : wx.heap[w.heap.size + 2]? = some (eO (.slice da dn dc) (.slice aa an ac) 0 0 0)
  dr : wx.ownsRow (w.heap.size + 3) 3 1 (.slice da dn dc) dn (zcs ds)
  ad : wx.ownsRow (w.heap.size + 3) 43 5 (.slice aa an ac) an (mcs as')
  res : wx.heap[w.heap.size]? = some (eO (.slice none 0 0) (.slice none 0 0) 0 0 0)
  bel : Below w.heap.size w wx

theorem own_lo {w : World} {base e s n r : Nat} {v : Value} {xs : List Value} (h : w.ownsRow base e s v n xs) (hr : r < base) : v.ownBlock = none ∨ v.ownBlock ≠ some r := by
  rcases h.2 with ⟨rfl, _⟩ | ⟨g, cap, cur, rfl, hge, _⟩
  · exact .inl rfl
  · exact .inr (by simp [Value.ownBlock]; omega)
theorem own_two {w : World} {base n m : Nat} {v u : Value} {xs ys : List Value} (h : w.ownsRow base 3 1 v n xs) (k : w.ownsRow base 43 5 u m ys) (r : Nat) (hr : u.ownBlock = some r) : v.ownBlock = none ∨ v.ownBlock ≠ some r := by
  rcases h.2 with ⟨rfl, _⟩ | ⟨g, cap, cur, rfl, hge, hg, _⟩
  · exact .inl rfl
  · refine .inr (fun e => ?_)
    rcases k.2 with ⟨rfl, _⟩ | ⟨g2, cap2, cur2, rfl, hge2, hg2, _⟩
    · cases hr
    · simp [Value.ownBlock] at e hr
      subst e
      subst hr
      rw [hg] at hg2
      simp at hg2

section
variable {w wx wy : World} {s s' : Wl.Rd} {da aa : Option Addr} {dn dc an ac : Nat} {ds : List Int} {as' : List Mf.Mt}
theorem Dc.low (h : Dc w wx s da dn dc ds aa an ac as') : w.heap.size + 3 ≤ wx.heap.size := (Array.getElem?_eq_some_iff.1 h.ed).1
theorem Dc.later (h : Dc w wx s da dn dc ds aa an ac as') (b : Below wx.heap.size wx wy) : Dc w wy s da dn dc ds aa an ac as' :=
  ⟨h.rd.later b, (b.block _ (Array.getElem?_eq_some_iff.1 h.ed).1).trans h.ed, own_aft h.dr b, own_aft h.ad b, (b.block _ (Array.getElem?_eq_some_iff.1 h.res).1).trans h.res, h.bel.trans (b.mono h.bel.size)⟩
/-- The reader reads on. -/
theorem Dc.call (h : Dc w wx s da dn dc ds aa an ac as') (r : YRd wy (w.heap.size + 1) w.heap.size s') (g : wx.grownBy wy (some (w.heap.size + 1))) : Dc w wy s' da dn dc ds aa an ac as' :=
  ⟨r, (g.block _ (Array.getElem?_eq_some_iff.1 h.ed).1 (by simp)).trans h.ed, h.dr.kept g (own_lo h.dr (by omega)), h.ad.kept g (own_lo h.ad (by omega)), (g.block _ (Array.getElem?_eq_some_iff.1 h.res).1 (by simp)).trans h.res, h.bel.grown g h.bel.size (fun k hk => by cases hk; omega)⟩
end
end Go.Proofs.YtlhnjloimhcpfabGreatDoor
namespace Go.Proofs.YtlhnjloimhcpfabGreatDoor
open Go.RowKit

theorem below_all {w w' : World} (hg : w.grownBy w' none) : Below w.heap.size w w' := (Below.refl _ _).grown hg (Nat.le_refl _) (fun k hk => by cases hk)
section
variable {w wx w4 : World} {s : Wl.Rd} {da aa : Option Addr} {dn dc an ac : Nat} {ds : List Int} {as' : List Mf.Mt}
/-- A row that is the call's own grows: all else stays. -/
theorem Dc.rest (h : Dc w wx s da dn dc ds aa an ac as') {row : Option Nat} (g : wx.grownBy w4 row) (hr : ∀ r, row = some r → w.heap.size + 3 ≤ r) :
    YRd w4 (w.heap.size + 1) w.heap.size s ∧ w4.heap[w.heap.size + 2]? = some (eO (.slice da dn dc) (.slice aa an ac) 0 0 0) ∧ w4.heap[w.heap.size]? = some (eO (.slice none 0 0) (.slice none 0 0) 0 0 0) ∧ Below w.heap.size w w4 := by
  refine ⟨?_, (g.block _ (Array.getElem?_eq_some_iff.1 h.ed).1 (fun e => ?_)).trans h.ed, (g.block _ (Array.getElem?_eq_some_iff.1 h.res).1 (fun e => ?_)).trans h.res, h.bel.grown g h.bel.size (fun k hk => ?_)⟩
  · cases row with
    | none => exact h.rd.later (below_all g)
    | some r => exact h.rd.kept g (by have := hr r rfl; omega) (by have := hr r rfl; omega)
  · have := hr _ e.symm; omega
  · have := hr _ e.symm; omega
  · have := hr _ hk; omega
/-- The edit's cell k is stored. -/
theorem ed_stored {u : Value} {k : Nat} (E : Nat) (hE : E = w.heap.size + 2) (r : YRd w4 (w.heap.size + 1) w.heap.size s) (z : w4.heap[w.heap.size]? = some (eO (.slice none 0 0) (.slice none 0 0) 0 0 0)) (b : Below w.heap.size w w4) :
    YRd (w4.setCell ⟨E, k, none⟩ u) (w.heap.size + 1) w.heap.size s ∧ (w4.setCell ⟨E, k, none⟩ u).heap[w.heap.size]? = some (eO (.slice none 0 0) (.slice none 0 0) 0 0 0) ∧ Below w.heap.size w (w4.setCell ⟨E, k, none⟩ u) := by
  subst hE
  have g := grown_setc w4 (w.heap.size + 2) k u
  exact ⟨r.kept g (by omega) (by omega), (g.block _ (Array.getElem?_eq_some_iff.1 z).1 (by simp)).trans z, b.grown g b.size (fun k hk => by cases hk; omega)⟩

theorem Dc.put1 (h : Dc w wx s da dn dc ds aa an ac as') {x : Int} {g cap : Nat}
    (o : w4.ownsRow (w.heap.size + 3) 3 1 (.slice (some ⟨g, 0, none⟩) (dn + 1) cap) (dn + 1) (zcs (ds ++ [x])))
    (hg : (wx.alloc (.cells #[.int .i64 x] 3)).grownBy w4 (Value.slice da dn dc).ownBlock) :
    Dc w (w4.setCell ⟨w.heap.size + 2, 0, none⟩ (.slice (some ⟨g, 0, none⟩) (dn + 1) cap)) s (some ⟨g, 0, none⟩) (dn + 1) cap (ds ++ [x]) aa an ac as' := by
  have h3 := h.later ((Below.refl _ _).alloc (Nat.le_refl _) (.cells #[.int .i64 x] 3))
  obtain ⟨r4, e4, z4, b4⟩ := h3.rest hg (fun r hr => (h3.dr.lt r hr).1)
  have a4 := h3.ad.kept hg (by
    cases hb : (Value.slice aa an ac).ownBlock with
    | none => exact .inl rfl
    | some r =>
      refine .inr (fun e => ?_)
      rcases own_two h3.dr h3.ad r hb with k | k
      · rw [k] at e; cases e
      · exact k e.symm)
  have gs := grown_setc w4 (w.heap.size + 2) 0 (.slice (some ⟨g, 0, none⟩) (dn + 1) cap)
  obtain ⟨r5, z5, b5⟩ := ed_stored (u := .slice (some ⟨g, 0, none⟩) (dn + 1) cap) (k := 0) _ rfl r4 z4 b4
  exact ⟨r5, (Joins.block_setCell e4 _).trans rfl, o.kept gs (own_lo o (by omega)), a4.kept gs (own_lo a4 (by omega)), z5, b5⟩
theorem Dc.put2 (h : Dc w wx s da dn dc ds aa an ac as') {x : Mf.Mt} {g cap : Nat}
    (o : w4.ownsRow (w.heap.size + 3) 43 5 (.slice (some ⟨g, 0, none⟩) (an + 1) cap) (an + 1) (mcs (as' ++ [x])))
    (hg : (wx.alloc (mO x)).grownBy w4 (Value.slice aa an ac).ownBlock) :
    Dc w (w4.setCell ⟨w.heap.size + 2, 1, none⟩ (.slice (some ⟨g, 0, none⟩) (an + 1) cap)) s da dn dc ds (some ⟨g, 0, none⟩) (an + 1) cap (as' ++ [x]) := by
  have h3 := h.later ((Below.refl _ _).alloc (Nat.le_refl _) (mO x))
  obtain ⟨r4, e4, z4, b4⟩ := h3.rest hg (fun r hr => (h3.ad.lt r hr).1)
  have d4 := h3.dr.kept hg (by
    cases hb : (Value.slice aa an ac).ownBlock with
    | none => cases hd : (Value.slice da dn dc).ownBlock with
      | none => exact .inl rfl
      | some _ => exact .inr (by simp)
    | some r => exact own_two h3.dr h3.ad r hb)
  have gs := grown_setc w4 (w.heap.size + 2) 1 (.slice (some ⟨g, 0, none⟩) (an + 1) cap)
  obtain ⟨r5, z5, b5⟩ := ed_stored (u := .slice (some ⟨g, 0, none⟩) (an + 1) cap) (k := 1) _ rfl r4 z4 b4
  exact ⟨r5, (Joins.block_setCell e4 _).trans rfl, d4.kept gs (own_lo d4 (by omega)), o.kept gs (own_lo o (by omega)), z5, b5⟩
end
end Go.Proofs.YtlhnjloimhcpfabGreatDoor
namespace Go.Proofs.YtlhnjloimhcpfabGreatDoor
open Go.RowKit

theorem IzAt.own {w : World} {base : Nat} {v : Value} {l : List Int} (h : w.ownsRow base 3 1 v l.length (zcs l)) : IzAt w v l := by
  rcases h.2 with ⟨rfl, h0⟩ | ⟨g, cap, cur, rfl, _⟩
  · have : l = [] := List.eq_nil_of_length_eq_zero h0
    subst this
    exact IzAt.nil _ _ _
  · refine ⟨⟨_, cap, rfl, fun _ => ⟨g, 0, rfl, fun j hj => ?_⟩⟩⟩
    rw [Nat.zero_add, h.cellAt j (by omega)]
    simp [zcs, hj]
theorem ytextX_le (s : Wl.Rd) (most : Nat) : (Wl.rtextX s most).length ≤ most := by
  unfold Wl.rtextX
  have := Wl.rnumX_le s most
  show List.length (if _ then _ else _) ≤ _
  split
  · simp
  · rw [List.length_take]; omega
theorem fit_of (n : Nat) (x y : Int) (k l : Mf.Bs) (a : n ≤ 999999) (b : k.length ≤ 512) (c : l.length ≤ 512) : MtFit ⟨(n : Int), x, y, k, l⟩ := by
  unfold MtFit i64r
  refine ⟨?_, ?_, ?_⟩ <;> simp only <;> omega
theorem wordsX_fit (s : Wl.Rd) : MtFit (Mf.wordsX s) := by
  unfold Mf.wordsX
  exact fit_of _ _ _ _ _ (Wl.rnumX_le s 999999) (ytextX_le (Mf.w3 s) 512) (ytextX_le (Mf.w4 s) 512)
theorem addsX_fit (n : Nat) : ∀ s : Wl.Rd, ∀ x ∈ Mf.addsX n s, MtFit x := by
  induction n with
  | zero => intro s x hx; cases hx
  | succ n ih =>
    intro s x hx
    rcases List.mem_cons.1 hx with rfl | hx
    · exact wordsX_fit s
    · exact ih _ x hx

/-- As Dc, with the edit's numbers. -/
structure De (w wx : World) (s : Wl.Rd) (dv : Value) (dn : Nat) (ds : List Int) (av : Value) (an : Nat) (as' : List Mf.Mt) (lo se ne : Int) : Prop where
  rd : YRd wx (w.heap.size + 1) w.heap.size s
  ed : wx.heap[w.heap.size + 2]? = some (eO dv av lo se ne)
  dr : wx.ownsRow (w.heap.size + 3) 3 1 dv dn (zcs ds)
  ad : wx.ownsRow (w.heap.size + 3) 43 5 av an (mcs as')
  res : wx.heap[w.heap.size]? = some (eO (.slice none 0 0) (.slice none 0 0) 0 0 0)
  bel : Below w.heap.size w wx
section
variable {w wx wy : World} {s s' : Wl.Rd} {dv av : Value} {dn an : Nat} {ds : List Int} {as' : List Mf.Mt} {lo se ne : Int}
theorem De.call (h : De w wx s dv dn ds av an as' lo se ne) (r : YRd wy (w.heap.size + 1) w.heap.size s') (g : wx.grownBy wy (some (w.heap.size + 1))) : De w wy s' dv dn ds av an as' lo se ne :=
  ⟨r, (g.block _ (Array.getElem?_eq_some_iff.1 h.ed).1 (by simp)).trans h.ed, h.dr.kept g (own_lo h.dr (by omega)), h.ad.kept g (own_lo h.ad (by omega)), (g.block _ (Array.getElem?_eq_some_iff.1 h.res).1 (by simp)).trans h.res, h.bel.grown g h.bel.size (fun k hk => by cases hk; omega)⟩
theorem De.later (h : De w wx s dv dn ds av an as' lo se ne) (b : Below wx.heap.size wx wy) : De w wy s dv dn ds av an as' lo se ne :=
  ⟨h.rd.later b, (b.block _ (Array.getElem?_eq_some_iff.1 h.ed).1).trans h.ed, own_aft h.dr b, own_aft h.ad b, (b.block _ (Array.getElem?_eq_some_iff.1 h.res).1).trans h.res, h.bel.trans (b.mono h.bel.size)⟩
theorem De.put {lo' se' ne' : Int} {k : Nat} {u : Value} (h : De w wx s dv dn ds av an as' lo se ne) (he : (wx.setCell ⟨w.heap.size + 2, k, none⟩ u).heap[w.heap.size + 2]? = some (eO dv av lo' se' ne')) : De w (wx.setCell ⟨w.heap.size + 2, k, none⟩ u) s dv dn ds av an as' lo' se' ne' := by
  have gs := grown_setc wx (w.heap.size + 2) k u
  obtain ⟨r5, z5, b5⟩ := ed_stored (u := u) (k := k) _ rfl h.rd h.res h.bel
  exact ⟨r5, he, h.dr.kept gs (own_lo h.dr (by omega)), h.ad.kept gs (own_lo h.ad (by omega)), z5, b5⟩
theorem De.put2 (h : De w wx s dv dn ds av an as' lo se ne) (x : Int) : De w (wx.setCell ⟨w.heap.size + 2, 2, none⟩ (.int .i64 x)) s dv dn ds av an as' x se ne := h.put ((Joins.block_setCell h.ed _).trans rfl)
theorem De.put3 (h : De w wx s dv dn ds av an as' lo se ne) (x : Int) : De w (wx.setCell ⟨w.heap.size + 2, 3, none⟩ (.int .i64 x)) s dv dn ds av an as' lo x ne := h.put ((Joins.block_setCell h.ed _).trans rfl)
theorem De.put4 (h : De w wx s dv dn ds av an as' lo se ne) (x : Int) : De w (wx.setCell ⟨w.heap.size + 2, 4, none⟩ (.int .i64 x)) s dv dn ds av an as' lo se x := h.put ((Joins.block_setCell h.ed _).trans rfl)
/-- The reader's own cells. -/
theorem De.cells (h : De w wx s dv dn ds av an as' lo se ne) : ∃ ra rc, wx.cell? ⟨w.heap.size + 1, 0, none⟩ = some (.slice ra s.rest.length rc) ∧ wx.cell? ⟨w.heap.size + 1, 1, none⟩ = some (.bool s.bad) := by
  obtain ⟨⟨ra, rc, hb, _⟩, _, _⟩ := h.rd
  exact ⟨ra, rc, Joins.cell_of_block hb 0, Joins.cell_of_block hb 1⟩
/-- The answer's block is stored: what the call leaves. -/
theorem De.end' (h : De w wx s dv dn ds av an as' lo se ne) (x y : Value) (p q r : Int) : ∃ W, W = (((((wx.setCell ⟨w.heap.size, 0, none⟩ x).setCell ⟨w.heap.size, 1, none⟩ y).setCell ⟨w.heap.size, 2, none⟩ (.int .i64 p)).setCell ⟨w.heap.size, 3, none⟩ (.int .i64 q)).setCell ⟨w.heap.size, 4, none⟩ (.int .i64 r)) ∧ W.heap[w.heap.size]? = some (eO x y p q r) ∧ W.ownsRow (w.heap.size + 3) 3 1 dv dn (zcs ds) ∧ W.ownsRow (w.heap.size + 3) 43 5 av an (mcs as') ∧ Below w.heap.size w W := by
  obtain ⟨P, G⟩ := store5 h.res x y (.int .i64 p) (.int .i64 q) (.int .i64 r)
  exact ⟨_, rfl, P, h.dr.kept G (own_lo h.dr (by omega)), h.ad.kept G (own_lo h.ad (by omega)), h.bel.grown G h.bel.size (fun k hk => by cases hk; omega)⟩
end
theorem Dc.de {w wx : World} {s : Wl.Rd} {da aa : Option Addr} {dn dc an ac : Nat} {ds : List Int} {as' : List Mf.Mt} (h : Dc w wx s da dn dc ds aa an ac as') : De w wx s (.slice da dn dc) dn ds (.slice aa an ac) an as' 0 0 0 := ⟨h.rd, h.ed, h.dr, h.ad, h.res, h.bel⟩
end Go.Proofs.YtlhnjloimhcpfabGreatDoor
