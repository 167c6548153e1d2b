/-
  The version behind an edit.
-/
import Derived.Test.YtlhnjloimhcpfabGreatDoorYA
import Derived.Test.YtlhnjloimhcpfabGreatDoorYB
import Derived.Test.YtlhnjloimhcpfabGreatDoorYC
import Derived.Test.YtlhnjloimhcpfabGreatDoorYD
namespace Go.Proofs.YtlhnjloimhcpfabGreatDoor
open Go.RowKit

abbrev eO (d a : Value) (lo se ne : Int) : Obj := .cells #[d, a, .int .i64 lo, .int .i64 se, .int .i64 ne] 46
abbrev ev (d a : Value) (lo se ne : Int) : Value := .agg #[d, a, .int .i64 lo, .int .i64 se, .int .i64 ne]

/-- A table's words whose numbers have 64 bits and whose texts are no longer than any text is. -/
def MtFit (x : Mf.Mt) : Prop := i64r x.number ∧ x.first.length ≤ 1000000 ∧ x.last.length ≤ 1000000

theorem goes_none {v : Mf.Vn} {e : Mf.Ed} (h : Mf.allDrops v.tabs e.drops = false) : Mf.goes v e = false := by unfold Mf.goes; simp [h]
theorem goes_is {v : Mf.Vn} {e : Mf.Ed} {m : List Mf.Mt} (h : Mf.allDrops v.tabs e.drops = true) (hp : m.Perm (Mf.left v.tabs e.drops ++ e.adds)) (hs : m.Pairwise fun a b => Mf.lt b a = false) (fl : Bool) (hf : fl = (decide (e.log < v.log) || decide (e.seq < v.seq) || decide (e.next < v.next))) :
    Mf.goes v e = (!fl && Mf.may ⟨m, e.log, e.seq, e.next⟩) ∧ (Mf.may ⟨m, e.log, e.seq, e.next⟩ = true → m = Mf.newTabs v e) := by
  have h1 : Mf.may ⟨m, e.log, e.seq, e.next⟩ = Mf.may (Mf.behind v e) := by
    unfold Mf.may Mf.behind
    simp only
    rw [Mf.mayT_same hs hp]
    have : m.length = (Mf.newTabs v e).length := (hp.trans (Mf.srt_perm _).symm).length_eq
    rw [this]
    rfl
  refine ⟨?_, fun hm => ?_⟩
  · unfold Mf.goes
    rw [h, ← hf, h1, Bool.true_and]
  · unfold Mf.may at hm
    rw [Bool.and_eq_true] at hm
    exact Mf.may_srt hp hm.2

/-- What behind answers. -/
structure BehindIn (w w' : World) (v : Mf.Vn) (e : Mf.Ed) (ta : Option Addr) (tn tc : Nat) (x y z : Int) (g : Bool) : Prop where
  goes : g = Mf.goes v e
  num : g = true → x = e.log ∧ y = e.seq ∧ z = e.next
  own : g = true → w'.ownsRow (w.heap.size + 3) 43 5 (.slice ta tn tc) (Mf.newTabs v e).length (mcs (Mf.newTabs v e))
  bel : Below w.heap.size w w'

theorem fit_left {l : List Mf.Mt} {ds : List Int} (h : ∀ x ∈ l, MtFit x) : ∀ x ∈ Mf.left l ds, MtFit x := fun x hx => h x (List.mem_filter.1 hx).1

theorem own_lift {w : World} {base base' e size n : Nat} {v : Value} {xs : List Value} (h : w.ownsRow base e size v n xs) (hb : base' ≤ base) : w.ownsRow base' e size v n xs := by
  refine ⟨h.1, ?_⟩
  rcases h.2 with h' | ⟨g, cap, cur, e, h1, h2⟩
  · exact .inl h'
  · exact .inr ⟨g, cap, cur, e, Nat.le_trans hb h1, h2⟩
theorem grown_setc (w : World) (rb i : Nat) (u : Value) : w.grownBy (w.setCell ⟨rb, i, none⟩ u) (some rb) := ⟨rfl, rfl, rfl, by simp [World.setCell], fun k _ hne => Below.heap_setCell _ _ _ _ (fun e => hne (by rw [e]))⟩
theorem store4 {w : World} {B : Nat} {x y z u : Value} {t : TypeId} (h : w.heap[B]? = some (.cells #[x, y, z, u] t (0, 0))) (x' y' z' u' : Value) :
    ((((w.setCell ⟨B, 0, none⟩ x').setCell ⟨B, 1, none⟩ y').setCell ⟨B, 2, none⟩ z').setCell ⟨B, 3, none⟩ u').heap[B]? = some (.cells #[x', y', z', u'] t (0, 0)) ∧ w.grownBy ((((w.setCell ⟨B, 0, none⟩ x').setCell ⟨B, 1, none⟩ y').setCell ⟨B, 2, none⟩ z').setCell ⟨B, 3, none⟩ u') (some B) :=
  ⟨(Joins.block_setCell (Joins.block_setCell (Joins.block_setCell (Joins.block_setCell h _) _) _) _).trans rfl, grownBy_trans (grownBy_trans (grownBy_trans (grown_setc _ B _ _) (grown_setc _ B _ _) (.inl rfl)) (grown_setc _ B _ _) (.inl rfl)) (grown_setc _ B _ _) (.inl rfl)⟩
theorem slot4 {w : World} {B : Nat} {x y z u : Value} {t : TypeId} (h : w.heap[B]? = some (.cells #[x, y, z, u] t (0, 0))) : w.cell? ⟨B, 0, none⟩ = some x ∧ w.cell? ⟨B, 1, none⟩ = some y ∧ w.cell? ⟨B, 2, none⟩ = some z ∧ w.cell? ⟨B, 3, none⟩ = some u ∧ w.frozen? ⟨B, 0, none⟩ = false ∧ w.frozen? ⟨B, 1, none⟩ = false ∧ w.frozen? ⟨B, 2, none⟩ = false ∧ w.frozen? ⟨B, 3, none⟩ = false ∧ B < w.heap.size :=
  ⟨Joins.cell_of_block h 0, Joins.cell_of_block h 1, Joins.cell_of_block h 2, Joins.cell_of_block h 3, Joins.unfrozen_of_block h 0, Joins.unfrozen_of_block h 1, Joins.unfrozen_of_block h 2, Joins.unfrozen_of_block h 3, (Array.getElem?_eq_some_iff.1 h).1⟩

/-- Ahead of the answer: the version's block, the answer's own, and the tables. -/
structure BehMid (w wx : World) (base : Nat) (a4 : Option Addr) (n c4 : Nat) (m : List Mf.Mt) (lo se ne : Int) : Prop where
  ver : wx.heap[w.heap.size]? = some (vO (.slice a4 n c4) lo se ne)
  res : wx.heap[w.heap.size + 2]? = some (vO (.slice none 0 0) 0 0 0)
  len : n = m.length
  own : wx.ownsRow base 43 5 (.slice a4 n c4) n (mcs m)
  bel : Below w.heap.size w wx
  low : w.heap.size + 3 ≤ base
/-- .. and behind it. -/
structure BehEnd (w wx : World) (base : Nat) (a4 : Option Addr) (n c4 : Nat) (m : List Mf.Mt) (lo se ne : Int) : Prop where
  ver : wx.heap[w.heap.size]? = some (vO (.slice a4 n c4) lo se ne)
  res : wx.heap[w.heap.size + 2]? = some (vO (.slice a4 n c4) lo se ne)
  len : n = m.length
  own : wx.ownsRow base 43 5 (.slice a4 n c4) n (mcs m)
  bel : Below w.heap.size w wx
section
variable {w wx wy : World} {base n c4 : Nat} {a4 : Option Addr} {m : List Mf.Mt} {lo se ne : Int}
theorem BehMid.later (h : BehMid w wx base a4 n c4 m lo se ne) (b : Below wx.heap.size wx wy) : BehMid w wy base a4 n c4 m lo se ne :=
  ⟨(b.block _ (Array.getElem?_eq_some_iff.1 h.ver).1).trans h.ver, (b.block _ (Array.getElem?_eq_some_iff.1 h.res).1).trans h.res, h.len, own_aft h.own b, h.bel.trans (b.mono h.bel.size), h.low⟩
theorem BehMid.res11 (h : BehMid w wx base a4 n c4 m lo se ne) : wx.heap[w.heap.size + 1 + 1]? = some (vO (.slice none 0 0) 0 0 0) := h.res
theorem BehEnd.later (h : BehEnd w wx base a4 n c4 m lo se ne) (b : Below wx.heap.size wx wy) : BehEnd w wy base a4 n c4 m lo se ne :=
  ⟨(b.block _ (Array.getElem?_eq_some_iff.1 h.ver).1).trans h.ver, (b.block _ (Array.getElem?_eq_some_iff.1 h.res).1).trans h.res, h.len, own_aft h.own b, h.bel.trans (b.mono h.bel.size)⟩
theorem ver_cells (h : wx.heap[w.heap.size]? = some (vO (.slice a4 n c4) lo se ne)) : wx.cell? ⟨w.heap.size, 0, none⟩ = some (.slice a4 n c4) ∧ wx.cell? ⟨w.heap.size, 1, none⟩ = some (.int .i64 lo) ∧ wx.cell? ⟨w.heap.size, 2, none⟩ = some (.int .i64 se) ∧ wx.cell? ⟨w.heap.size, 3, none⟩ = some (.int .i64 ne) := ⟨Joins.cell_of_block h 0, Joins.cell_of_block h 1, Joins.cell_of_block h 2, Joins.cell_of_block h 3⟩
theorem BehMid.cells (h : BehMid w wx base a4 n c4 m lo se ne) : wx.cell? ⟨w.heap.size, 0, none⟩ = some (.slice a4 n c4) ∧ wx.cell? ⟨w.heap.size, 1, none⟩ = some (.int .i64 lo) ∧ wx.cell? ⟨w.heap.size, 2, none⟩ = some (.int .i64 se) ∧ wx.cell? ⟨w.heap.size, 3, none⟩ = some (.int .i64 ne) := ver_cells h.ver
theorem BehEnd.cells (h : BehEnd w wx base a4 n c4 m lo se ne) : wx.cell? ⟨w.heap.size, 0, none⟩ = some (.slice a4 n c4) ∧ wx.cell? ⟨w.heap.size, 1, none⟩ = some (.int .i64 lo) ∧ wx.cell? ⟨w.heap.size, 2, none⟩ = some (.int .i64 se) ∧ wx.cell? ⟨w.heap.size, 3, none⟩ = some (.int .i64 ne) := ver_cells h.ver
theorem BehMid.mts (h : BehMid w wx base a4 n c4 m lo se ne) : MtsAt wx (.slice a4 n c4) m := MtsAt.own (by rw [← h.len]; exact h.own)
theorem BehEnd.mts (h : BehEnd w wx base a4 n c4 m lo se ne) : MtsAt wx (.slice a4 n c4) m := MtsAt.own (by rw [← h.len]; exact h.own)
theorem BehMid.stored (h : BehMid w wx base a4 n c4 m lo se ne) : ((((((wx.setCell ⟨w.heap.size + 2, 0, none⟩ (.slice a4 n c4)).setCell ⟨w.heap.size + 2, 1, none⟩ (.int .i64 lo)).setCell ⟨w.heap.size + 2, 2, none⟩ (.int .i64 se)).setCell ⟨w.heap.size + 2, 3, none⟩ (.int .i64 ne)).cell? ⟨w.heap.size, 0, none⟩ = some (.slice a4 n c4) ∧ ((((wx.setCell ⟨w.heap.size + 2, 0, none⟩ (.slice a4 n c4)).setCell ⟨w.heap.size + 2, 1, none⟩ (.int .i64 lo)).setCell ⟨w.heap.size + 2, 2, none⟩ (.int .i64 se)).setCell ⟨w.heap.size + 2, 3, none⟩ (.int .i64 ne)).cell? ⟨w.heap.size, 1, none⟩ = some (.int .i64 lo) ∧ ((((wx.setCell ⟨w.heap.size + 2, 0, none⟩ (.slice a4 n c4)).setCell ⟨w.heap.size + 2, 1, none⟩ (.int .i64 lo)).setCell ⟨w.heap.size + 2, 2, none⟩ (.int .i64 se)).setCell ⟨w.heap.size + 2, 3, none⟩ (.int .i64 ne)).cell? ⟨w.heap.size, 2, none⟩ = some (.int .i64 se) ∧ ((((wx.setCell ⟨w.heap.size + 2, 0, none⟩ (.slice a4 n c4)).setCell ⟨w.heap.size + 2, 1, none⟩ (.int .i64 lo)).setCell ⟨w.heap.size + 2, 2, none⟩ (.int .i64 se)).setCell ⟨w.heap.size + 2, 3, none⟩ (.int .i64 ne)).cell? ⟨w.heap.size, 3, none⟩ = some (.int .i64 ne)) ∧ BehEnd w ((((wx.setCell ⟨w.heap.size + 2, 0, none⟩ (.slice a4 n c4)).setCell ⟨w.heap.size + 2, 1, none⟩ (.int .i64 lo)).setCell ⟨w.heap.size + 2, 2, none⟩ (.int .i64 se)).setCell ⟨w.heap.size + 2, 3, none⟩ (.int .i64 ne)) base a4 n c4 m lo se ne) := by
  obtain ⟨P, G⟩ := store4 h.res (.slice a4 n c4) (.int .i64 lo) (.int .i64 se) (.int .i64 ne)
  have hv := (G.block _ (Array.getElem?_eq_some_iff.1 h.ver).1 (by simp)).trans h.ver
  refine ⟨ver_cells hv, hv, P, h.len, h.own.kept G ?_, h.bel.grown G h.bel.size (fun k hk => by cases hk; omega)⟩
  cases ho : (Value.slice a4 n c4).ownBlock with
  | none => exact .inl rfl
  | some g => exact .inr (by have := (h.own.lt g ho).1; have := h.low; simp; omega)
end
theorem grown_drew (w : World) (r : Option Nat) : w.grownBy w.drew r := ⟨rfl, rfl, rfl, Nat.le_refl _, fun _ _ _ => rfl⟩

set_option maxRecDepth 100000 in
set_option maxHeartbeats 8000000 in
theorem behind_any (w : World) (a a2 a3 : Option Addr) (cap cap2 cap3 : Nat) (v : Mf.Vn) (e : Mf.Ed) (h : MtsAt w (.slice a v.tabs.length cap) v.tabs) (hd : IzAt w (.slice a2 e.drops.length cap2) e.drops) (ha : MtsAt w (.slice a3 e.adds.length cap3) e.adds)
    (hlen : v.tabs.length ≤ 1000000) (hdl : e.drops.length ≤ 1000000) (hal : e.adds.length ≤ 1000000) (hn : ∀ x ∈ v.tabs, MtFit x) (hr : ∀ n ∈ e.drops, i64r n) (hm : ∀ x ∈ e.adds, MtFit x) :
    Calls Tryz.prog 30 #[vv (.slice a v.tabs.length cap) v.log v.seq v.next, ev (.slice a2 e.drops.length cap2) (.slice a3 e.adds.length cap3) e.log e.seq e.next] w fun r w' => ∃ ta tn tc x y z g, r = .returned (.tuple #[vv (.slice ta tn tc) x y z, .bool g]) ∧ BehindIn w w' v e ta tn tc x y z g := by
  obtain ⟨L, hL⟩ : ∃ L, L = v.tabs.length := ⟨_, rfl⟩
  have HL := hide hL
  obtain ⟨M, hM⟩ : ∃ M, M = e.drops.length := ⟨_, rfl⟩
  have HM := hide hM
  obtain ⟨K, hK⟩ : ∃ K, K = e.adds.length := ⟨_, rfl⟩
  have HK := hide hK
  rw [← hL] at h hlen ⊢
  rw [← hM] at hd hdl ⊢
  rw [← hK] at ha hal ⊢
  obtain ⟨W, hW⟩ : ∃ W, W = ((w.alloc (vO (.slice a L cap) v.log v.seq v.next)).alloc (eO (.slice a2 M cap2) (.slice a3 K cap3) e.log e.seq e.next)).alloc (vO (.slice none 0 0) 0 0 0) := ⟨_, rfl⟩
  have HW := hide hW
  have WZ : W.heap.size = w.heap.size + 3 := by rw [hW]; simp
  have B0 : Hid (Below w.heap.size w W) := by rw [hW]; exact ((((Below.refl _ _).alloc (Nat.le_refl _) _).alloc (by simp) _).alloc (by simp; omega) _)
  have P0 : Hid (W.heap[w.heap.size]? = some (vO (.slice a L cap) v.log v.seq v.next)) := by
    show _ = _
    rw [hW]
    exact (Below.heap_alloc _ _ _ (by simp; omega)).trans ((Below.heap_alloc _ _ _ (by simp)).trans (World.alloc_heap_new w _))
  have P1 : Hid (W.heap[w.heap.size + 1]? = some (eO (.slice a2 M cap2) (.slice a3 K cap3) e.log e.seq e.next)) := by
    show _ = _
    rw [hW]
    have := World.alloc_heap_new (w.alloc (vO (.slice a L cap) v.log v.seq v.next)) (eO (.slice a2 M cap2) (.slice a3 K cap3) e.log e.seq e.next)
    rw [World.size_alloc] at this
    exact (Below.heap_alloc _ _ _ (by simp)).trans this
  have P2 : Hid (W.heap[w.heap.size + 2]? = some (vO (.slice none 0 0) 0 0 0)) := by
    show _ = _
    rw [hW]
    have := World.alloc_heap_new ((w.alloc (vO (.slice a L cap) v.log v.seq v.next)).alloc (eO (.slice a2 M cap2) (.slice a3 K cap3) e.log e.seq e.next)) (vO (.slice none 0 0) 0 0 0)
    rw [World.size_alloc, World.size_alloc] at this
    exact this
  have WO : Hid (Calls Tryz.prog 55 #[.slice a L cap, .slice a2 M cap2] W fun r w' => ∃ va vc, r = .returned (.tuple #[.slice va (Mf.left v.tabs e.drops).length vc, .bool (Mf.allDrops v.tabs e.drops)]) ∧ Hid (w'.ownsRow W.heap.size 43 5 (.slice va (Mf.left v.tabs e.drops).length vc) (Mf.left v.tabs e.drops).length (mcs (Mf.left v.tabs e.drops))) ∧ Below W.heap.size W w') := by
    have := without_any W a a2 cap cap2 v.tabs e.drops (by rw [← hL]; exact h.later B0.out) (by rw [← hM]; exact hd.later B0.out) (by omega) (by omega) (fun x hx => (hn x hx).1) hr
    rw [← hL, ← hM] at this
    refine this.mono ?_
    rintro r w' ⟨u, rfl, o, b⟩
    obtain ⟨va, vc, rfl⟩ := row_shp o
    exact ⟨va, vc, rfl, own_lift o (Nat.le_succ _), b⟩
  have HA := hide ha
  have NL := left_le v.tabs e.drops
  rw [← hL] at NL
  have HFL : Hid (∀ x ∈ Mf.left v.tabs e.drops ++ e.adds, MtFit x) := fun x hx => by
    rcases List.mem_append.1 hx with hx | hx
    · exact fit_left hn x hx
    · exact hm x hx
  have KP : Hid (∀ wx, Below W.heap.size W wx → wx.heap[w.heap.size]? = some (vO (.slice a L cap) v.log v.seq v.next) ∧ wx.heap[w.heap.size + 1]? = some (eO (.slice a2 M cap2) (.slice a3 K cap3) e.log e.seq e.next) ∧ wx.heap[w.heap.size + 2]? = some (vO (.slice none 0 0) 0 0 0)) := fun wx hx => ⟨(hx.block _ (by omega)).trans P0.out, (hx.block _ (by omega)).trans P1.out, (hx.block _ (by omega)).trans P2.out⟩
  clear h hd ha hn hr hm hL hM hK hW P0 P1 P2
  cases hal2 : Mf.allDrops v.tabs e.drops with
  | false =>
    have HG : Hid (Mf.goes v e = false) := goes_none hal2
    rw [hal2] at WO
    clear hal2 HFL HA
    go_enter Tryz.func30, Tryz.ntmps30
    go_wp2_with (first
      | (go_at_call 55; rw [← HW.out]; refine WO.out.mono ?_; rintro r w1 ⟨va, vc, rfl, o1, b1⟩; obtain ⟨p0, p1, p2⟩ := KP.out _ b1; obtain ⟨y0, y1, y2, y3, u0, u1, u2, u3, lt2⟩ := slot4 p2; have HP2 := hide p2; clear p0 p1 p2))
    obtain ⟨P5, G5⟩ := store4 HP2.out (.slice none 0 0) (.int .i64 0) (.int .i64 0) (.int .i64 0)
    have D1 := B0.out.trans (b1.mono B0.out.size)
    have B5 : Below w.heap.size w _ := D1.grown G5 D1.size (fun k hk => by cases hk; omega)
    generalize ((((w1.setCell ⟨w.heap.size + 2, 0, none⟩ (.slice none 0 0)).setCell ⟨w.heap.size + 2, 1, none⟩ (.int .i64 0)).setCell ⟨w.heap.size + 2, 2, none⟩ (.int .i64 0)).setCell ⟨w.heap.size + 2, 3, none⟩ (.int .i64 0)) = W5 at P5 B5 ⊢
    obtain ⟨q0, q1, q2, q3, _⟩ := slot4 P5
    refine bodyPost_ret (v := .tuple #[vv (.slice none 0 0) 0 0 0, .bool false]) (by simp [results, Tryz.results30, go_sem, q0, q1, q2, q3]) rfl ?_
    exact ⟨none, 0, 0, 0, 0, 0, false, rfl, ⟨HG.out.symm, (fun h => by cases h), (fun h => by cases h), B5⟩⟩
  | true =>
    rw [hal2] at WO
    obtain ⟨q, hq⟩ : ∃ q, q = Mf.left v.tabs e.drops := ⟨_, rfl⟩
    have HQ := hide hq
    rw [← hq] at WO NL HFL
    obtain ⟨N, hN⟩ : ∃ N, N = q.length := ⟨_, rfl⟩
    have HN := hide hN
    rw [← hN] at WO NL
    obtain ⟨fl, hfl⟩ : ∃ fl, fl = (decide (e.log < v.log) || decide (e.seq < v.seq) || decide (e.next < v.next)) := ⟨_, rfl⟩
    have HF := hide hfl
    have HAL := hide hal2
    obtain ⟨A1, hA1⟩ : ∃ A1, A1 = e.adds := ⟨_, rfl⟩
    have HA1 := hide hA1
    rw [← hA1] at HA HK HFL
    have z63 : Hid (N + K ≤ 10000000) := by show _ ≤ _; omega
    clear hq hN hfl hal2 hA1
    go_enter Tryz.func30, Tryz.ntmps30
    go_wp2_with (first
      | (go_at_call 55; rw [← HW.out]; refine WO.out.mono ?_; rintro r w1 ⟨va, vc, rfl, o1, b1⟩; obtain ⟨p0, p1, p2⟩ := KP.out _ b1; obtain ⟨y0, y1, y2, y3, u0, u1, u2, u3, lt2⟩ := slot4 p0; have x1 := Joins.cell_of_block p1 1; have D1 := hide (B0.out.trans (b1.mono B0.out.size)); have BW1 := hide b1; have z1 := b1.size; have HA2 := hide (HA.out.later D1.out); clear p0 p1 p2 b1)
      | (at_builtin; refine wpList_app_mts _ rfl _ _ rfl W.heap.size va vc N K _ _ _ rfl o1.out a3 rfl HK.out HA2.out z63.out (by omega) ?_; intro a4 c4 w2 o2 g2; have B2 := hide ((Below.refl W.heap.size W).trans (BW1.out.grown g2 z1 (fun k hk => (o1.out.lt k hk).1))); obtain ⟨p0, p1, p2⟩ := KP.out _ B2.out; obtain ⟨y0, y1, y2, y3, u0, u1, u2, u3, lt3⟩ := slot4 p0; have HP0 := hide p0; have HP1 := hide p1; have HP2 := hide p2; have O2 := hide o2; clear p0 p1 p2 o2 g2 BW1 z1 HA2 x1 o1))
    obtain ⟨W3, hW3⟩ : ∃ W3, W3 = w2.setCell ⟨w.heap.size, 0, none⟩ (.slice a4 (N + K) c4) := ⟨_, rfl⟩
    have g3 : w2.grownBy W3 (some w.heap.size) := by rw [hW3]; exact grown_setc _ _ _ _
    have P3 : W3.heap[w.heap.size]? = some (vO (.slice a4 (N + K) c4) v.log v.seq v.next) := by rw [hW3]; exact (Joins.block_setCell HP0.out _).trans rfl
    have Q3 : W3.heap[w.heap.size + 1]? = some (eO (.slice a2 M cap2) (.slice a3 K cap3) e.log e.seq e.next) := (g3.block _ (Array.getElem?_eq_some_iff.1 HP1.out).1 (by simp)).trans HP1.out
    have R3 : W3.heap[w.heap.size + 2]? = some (vO (.slice none 0 0) 0 0 0) := (g3.block _ (Array.getElem?_eq_some_iff.1 HP2.out).1 (by simp)).trans HP2.out
    have O3 : W3.ownsRow W.heap.size 43 5 (.slice a4 (N + K) c4) (N + K) (mcs (q ++ A1)) := O2.out.kept g3 (by
      cases ho : (Value.slice a4 (N + K) c4).ownBlock with
      | none => exact .inl rfl
      | some g => exact .inr (by have := (O2.out.lt g ho).1; simp; omega))
    have B3 : Below w.heap.size w W3 := (B0.out.trans (B2.out.mono B0.out.size)).grown g3 (by have := B2.out.size; omega) (fun k hk => by cases hk; exact Nat.le_refl _)
    have s3 : W.heap.size ≤ W3.heap.size := Nat.le_trans B2.out.size g3.size
    rw [← hW3]
    refine (sort_own W3 W.heap.size (N + K) c4 a4 (q ++ A1) O3 (by have := z63.out; omega)).mono ?_
    rintro r w4 ⟨rfl, m, hp, hs, o4, g4⟩
    have hrow : ∀ k, (Value.slice a4 (N + K) c4).ownBlock = some k → W.heap.size ≤ k := fun k hk => (O3.lt k hk).1
    have keep : ∀ {i : Nat} {o : Obj}, i < W.heap.size → W3.heap[i]? = some o → w4.heap[i]? = some o := fun {i o} hi ho => (g4.block _ (Array.getElem?_eq_some_iff.1 ho).1 (fun c => by have := hrow _ c.symm; omega)).trans ho
    have P4 := keep (by omega) P3
    have Q4 := keep (by omega) Q3
    have R4 := keep (by omega) R3
    have B4 : Hid (Below w.heap.size w w4) := B3.grown g4 B3.size (fun k hk => by have := hrow k hk; omega)
    have s4 : Hid (W.heap.size ≤ w4.heap.size) := Nat.le_trans s3 g4.size
    have O4 := hide o4
    have HPM : Hid (m.Perm (q ++ A1) ∧ m.Pairwise fun a b => Mf.lt b a = false) := ⟨hp, hs⟩
    have HQ4 := hide Q4
    have HR4 := hide R4
    have HP4 := hide P4
    obtain ⟨y0', y1', y2', y3', u0', u1', u2', u3', lt4⟩ := slot4 P4
    have x2 := Joins.cell_of_block Q4 2
    have x3 := Joins.cell_of_block Q4 3
    have x4 := Joins.cell_of_block Q4 4
    clear hp hs o4 g4 keep hrow P3 Q3 R3 O3 B3 s3 g3 hW3 P4 Q4 R4 HP0 HP1 HP2 O2 B2 HW WO KP y0 y1 y2 y3 u0 u1 u2 u3 lt3 D1 HA B0
    have hml : m.length = N + K := by have := HPM.out.1.length_eq; rw [List.length_append, ← HN.out, ← HK.out] at this; exact this
    have BEH : Hid (∀ w5, w5.heap[w.heap.size]? = some (vO (.slice a4 (N + K) c4) e.log e.seq e.next) → w4.grownBy w5 (some w.heap.size) → BehMid w w5 W.heap.size a4 (N + K) c4 m e.log e.seq e.next) := fun w5 p5 g5 => ⟨p5, (g5.block _ (Array.getElem?_eq_some_iff.1 HR4.out).1 (by simp)).trans HR4.out, hml.symm, O4.out.kept g5 (by
      cases ho : (Value.slice a4 (N + K) c4).ownBlock with
      | none => exact .inl rfl
      | some g => exact .inr (by have := (O4.out.lt g ho).1; simp; omega)), B4.out.grown g5 B4.out.size (fun k hk => by cases hk; exact Nat.le_refl _), by omega⟩
    have MB : Hid (∀ wx, MtsAt wx (.slice a4 (N + K) c4) m → Calls Tryz.prog 58 #[vv (.slice a4 (N + K) c4) e.log e.seq e.next] wx fun r w' => r = .returned (.bool (Mf.may ⟨m, e.log, e.seq, e.next⟩)) ∧ Below wx.heap.size wx w') := fun wx hx => by
      have := mayBe_any wx a4 c4 m e.log e.seq e.next (by rw [hml]; exact hx) (by have := z63.out; omega) (fun x hx => by have := HFL.out x (HPM.out.1.subset hx); exact ⟨by have := this.2.1; omega, by have := this.2.2; omega⟩)
      rw [hml] at this
      exact this
    have HPQ : Hid (m.Perm (Mf.left v.tabs e.drops ++ e.adds)) := by show m.Perm _; rw [← HQ.out, ← HA1.out]; exact HPM.out.1
    have FINF : Hid (fl = true → ∀ wx, BehEnd w wx W.heap.size a4 (N + K) c4 m e.log e.seq e.next → BehindIn w wx v e a4 (N + K) c4 e.log e.seq e.next false) := fun hf wx F => ⟨by rw [(goes_is HAL.out HPQ.out HPM.out.2 fl HF.out).1, hf]; rfl, (fun h => by cases h), (fun h => by cases h), F.bel⟩
    have FINT : Hid (fl = false → ∀ wx, BehEnd w wx W.heap.size a4 (N + K) c4 m e.log e.seq e.next → BehindIn w wx v e a4 (N + K) c4 e.log e.seq e.next (Mf.may ⟨m, e.log, e.seq, e.next⟩)) := fun hf wx F => by
      obtain ⟨g1, g2⟩ := goes_is HAL.out HPQ.out HPM.out.2 fl HF.out
      refine ⟨by rw [g1, hf]; rfl, fun _ => ⟨rfl, rfl, rfl⟩, fun hm => ?_, F.bel⟩
      have em := g2 hm
      have ho := F.own
      rw [em] at ho
      have hnl : (Mf.newTabs v e).length = N + K := by rw [← em]; exact hml
      rw [hnl, ← WZ]
      exact ho
    clear HL HM HK HQ HA1 HAL HPM HFL HPQ z63 HN O4 B4 s4 HR4 HQ4 NL hlen hdl hal
    obtain HC | ⟨f1, f2⟩ | ⟨f1, f2, f3⟩ | ⟨f1, f2, f3⟩ : (e.log < v.log) ∨ (¬ e.log < v.log ∧ e.seq < v.seq) ∨ (¬ e.log < v.log ∧ ¬ e.seq < v.seq ∧ e.next < v.next) ∨ (¬ e.log < v.log ∧ ¬ e.seq < v.seq ∧ ¬ e.next < v.next) := by omega
    · have HFX : Hid (fl = true) := by show _ = _; rw [HF.out, decide_eq_true HC]; rfl
      go_wp2_with (fail)
      go_cut [8] from 47 to 55 (fun z wx => z = .bool true ∧ wx.heap[w.heap.size]? = some (vO (.slice a4 (N + K) c4) e.log e.seq e.next) ∧ w4.grownBy wx (some w.heap.size))
      case first =>
        go_region
        all_goals
          go_wp2_with (fail)
          go_meet
          case rel => exact ⟨rfl, (Joins.block_setCell (Joins.block_setCell (Joins.block_setCell HP4.out _) _) _).trans rfl, grownBy_trans (grown_drew _ _) (grownBy_trans (grownBy_trans (grown_setc _ _ _ _) (grown_setc _ _ _ _) (.inl rfl)) (grown_setc _ _ _ _) (.inl rfl)) (.inl rfl)⟩
      case rest =>
        obtain ⟨rfl, p5, g5⟩ := hcut
        obtain ⟨w5, hw5⟩ : ∃ w5, w5 = wc := ⟨_, rfl⟩
        rw [← hw5] at p5 g5 ⊢
        have E5 := hide (BEH.out w5 p5 g5)
        have p5c := E5.out.cells
        have HP5 := hide p5c
        clear hw5 p5 g5 y0' y1' y2' y3' u0' u1' u2' u3' lt4 x2 x3 x4
        go_wp2_with (fail)
        have P0 := (E5.out.later (Below.refl _ w5).drew).cells
        obtain ⟨y0, y1, y2, y3, u0, u1, u2, u3, lt5⟩ := slot4 E5.out.res11
        clear p5c
        go_cut [5] from 56 to 62 (fun z wx => z = .bool false ∧ BehEnd w wx W.heap.size a4 (N + K) c4 m e.log e.seq e.next)
        case first =>
          refine wp_region_held_drew (S := (fun wx => wx.cell? ⟨w.heap.size, 0, none⟩ = some (.slice a4 (N + K) c4) ∧ wx.cell? ⟨w.heap.size, 1, none⟩ = some (.int .i64 e.log) ∧ wx.cell? ⟨w.heap.size, 2, none⟩ = some (.int .i64 e.seq) ∧ wx.cell? ⟨w.heap.size, 3, none⟩ = some (.int .i64 e.next))) (by kernel_rfl) P0 (fun hHeld => ?_)
          refine takeH (oi := ?oia1) 0 56 (.agg #[.slice a4 (N + K) c4, .int .i64 e.log, .int .i64 e.seq, .int .i64 e.next]) ?hia1 ?hda1 ?hwa1 ?hya1 (by kernel_rfl) (by kernel_rfl) (by kernel_rfl) ?hQa1 (by assumption) ?_
          case hia1 => simp only [List.getElem?_toArray, List.getElem?_cons_zero]; rfl
          case hda1 => rfl
          case hwa1 => rfl
          case hya1 => (intro w hSw; (try dsimp only at hSw); go_simp)
          case hQa1 => exact fun _ _ _ h => h
          simp only [Act.put, List.setIfInBounds_toArray, List.set_cons_zero, List.set_cons_succ]
          refine takeH (oi := ?oia2) 1 57 (.bool true) ?hia2 ?hda2 ?hwa2 ?hya2 (by kernel_rfl) (by kernel_rfl) (by kernel_rfl) ?hQa2 (by assumption) ?_
          case hia2 => simp only [List.getElem?_toArray, List.getElem?_cons_zero, List.getElem?_cons_succ]; rfl
          case hda2 => rfl
          case hwa2 => rfl
          case hya2 => (intro w hSw; (try dsimp only at hSw); go_simp)
          case hQa2 => exact fun _ _ _ h => h
          simp only [Act.put, List.setIfInBounds_toArray, List.set_cons_zero, List.set_cons_succ]
          refine takeH (oi := ?oia3) 2 58 (.bool false) ?hia3 ?hda3 ?hwa3 ?hya3 (by kernel_rfl) (by kernel_rfl) (by kernel_rfl) ?hQa3 (by assumption) ?_
          case hia3 => simp only [List.getElem?_toArray, List.getElem?_cons_zero, List.getElem?_cons_succ]; rfl
          case hda3 => rfl
          case hwa3 => rfl
          case hya3 => (intro w hSw; (try dsimp only at hSw); go_simp)
          case hQa3 => exact fun _ _ _ h => h
          simp only [Act.put, List.setIfInBounds_toArray, List.set_cons_zero, List.set_cons_succ]
          refine takeH (oi := ?oia4) 3 59 (.bool false) ?hia4 ?hda4 ?hwa4 ?hya4 (by kernel_rfl) (by kernel_rfl) (by kernel_rfl) ?hQa4 (by assumption) ?_
          case hia4 => simp only [List.getElem?_toArray, List.getElem?_cons_zero, List.getElem?_cons_succ]; rfl
          case hda4 => rfl
          case hwa4 => rfl
          case hya4 => (intro w hSw; (try dsimp only at hSw); go_simp)
          case hQa4 => exact fun _ _ _ h => h
          simp only [Act.put, List.setIfInBounds_toArray, List.set_cons_zero, List.set_cons_succ]
          refine skipH 4 60 ⟨_, rfl, rfl, by rfl⟩ (by kernel_rfl) (by kernel_rfl) (by kernel_rfl) (fun _ _ _ h => h) (by assumption) ?_
          simp only [Act.put, List.setIfInBounds_toArray, List.set_cons_zero, List.set_cons_succ]
          refine skipH 5 61 ⟨_, rfl, rfl, by rfl⟩ (by kernel_rfl) (by kernel_rfl) (by kernel_rfl) (fun _ _ _ h => h) (by assumption) ?_
          simp only [Act.put, List.setIfInBounds_toArray, List.set_cons_zero, List.set_cons_succ]
          refine takeH (oi := ?oia5) 6 62 (.bool false) ?hia5 ?hda5 ?hwa5 ?hya5 (by kernel_rfl) (by kernel_rfl) (by kernel_rfl) ?hQa5 (by assumption) ?_
          case hia5 => simp only [List.getElem?_toArray, List.getElem?_cons_zero, List.getElem?_cons_succ]; rfl
          case hda5 => rfl
          case hwa5 => rfl
          case hya5 => (intro w hSw; (try dsimp only at hSw); go_simp)
          case hQa5 => exact fun _ _ _ h => h
          simp only [Act.put, List.setIfInBounds_toArray, List.set_cons_zero, List.set_cons_succ]
          refine wpAnyH_ready (rs := [7]) (by kernel_rfl) (by simp) ?_
          refine AllReadyH.cons rfl (fun KK hK => ?_) AllReadyH.nil
          go_simp
          go_wp2_with (fail)
          have F6 := (E5.out.later (Below.refl _ w5).drew).stored
          refine hK.out _ _ F6.1 (fun hHeld => ?_)
          clear hK KK
          have F61 := F6.1
          refine takeH (oi := ?oia6) 8 5 (.bool false) ?hia6 ?hda6 ?hwa6 ?hya6 (by kernel_rfl) (by kernel_rfl) (by kernel_rfl) ?hQa6 (by assumption) ?_
          case hia6 => simp only [List.getElem?_toArray, List.getElem?_cons_zero, List.getElem?_cons_succ]; rfl
          case hda6 => rfl
          case hwa6 => rfl
          case hya6 => (intro w hSw; (try dsimp only at hSw); go_simp)
          case hQa6 => exact fun _ _ _ h => h
          simp only [Act.put, List.setIfInBounds_toArray, List.set_cons_zero, List.set_cons_succ]
          refine wpAnyH_done (by kernel_rfl) ?_ _
          go_wp2_with (fail)
          go_meet
          case rel => exact ⟨rfl, F6.2⟩
        case rest =>
          obtain ⟨rfl, F⟩ := hcut
          obtain ⟨q0, q1, q2, q3, _⟩ := slot4 F.res
          go_wp2_with (fail)
          refine bodyPost_ret (v := .tuple #[vv (.slice a4 (N + K) c4) e.log e.seq e.next, .bool false]) (by simp [results, Tryz.results30, go_sem, q0, q1, q2, q3]) rfl ?_
          exact ⟨a4, N + K, c4, _, _, _, false, rfl, FINF.out HFX.out _ F⟩
    · have HFX : Hid (fl = true) := by show _ = _; rw [HF.out, decide_eq_true f2]; simp
      go_wp2_with (fail)
      go_cut [8] from 47 to 55 (fun z wx => z = .bool true ∧ wx.heap[w.heap.size]? = some (vO (.slice a4 (N + K) c4) e.log e.seq e.next) ∧ w4.grownBy wx (some w.heap.size))
      case first =>
        go_region
        all_goals
          go_wp2_with (fail)
          go_meet
          case rel => exact ⟨rfl, (Joins.block_setCell (Joins.block_setCell (Joins.block_setCell HP4.out _) _) _).trans rfl, grownBy_trans (grown_drew _ _) (grownBy_trans (grownBy_trans (grown_setc _ _ _ _) (grown_setc _ _ _ _) (.inl rfl)) (grown_setc _ _ _ _) (.inl rfl)) (.inl rfl)⟩
      case rest =>
        obtain ⟨rfl, p5, g5⟩ := hcut
        obtain ⟨w5, hw5⟩ : ∃ w5, w5 = wc := ⟨_, rfl⟩
        rw [← hw5] at p5 g5 ⊢
        have E5 := hide (BEH.out w5 p5 g5)
        have p5c := E5.out.cells
        have HP5 := hide p5c
        clear hw5 p5 g5 y0' y1' y2' y3' u0' u1' u2' u3' lt4 x2 x3 x4
        go_wp2_with (fail)
        have P0 := (E5.out.later (Below.refl _ w5).drew).cells
        obtain ⟨y0, y1, y2, y3, u0, u1, u2, u3, lt5⟩ := slot4 E5.out.res11
        clear p5c
        go_cut [5] from 56 to 62 (fun z wx => z = .bool false ∧ BehEnd w wx W.heap.size a4 (N + K) c4 m e.log e.seq e.next)
        case first =>
          refine wp_region_held_drew (S := (fun wx => wx.cell? ⟨w.heap.size, 0, none⟩ = some (.slice a4 (N + K) c4) ∧ wx.cell? ⟨w.heap.size, 1, none⟩ = some (.int .i64 e.log) ∧ wx.cell? ⟨w.heap.size, 2, none⟩ = some (.int .i64 e.seq) ∧ wx.cell? ⟨w.heap.size, 3, none⟩ = some (.int .i64 e.next))) (by kernel_rfl) P0 (fun hHeld => ?_)
          refine takeH (oi := ?oib1) 0 56 (.agg #[.slice a4 (N + K) c4, .int .i64 e.log, .int .i64 e.seq, .int .i64 e.next]) ?hib1 ?hdb1 ?hwb1 ?hyb1 (by kernel_rfl) (by kernel_rfl) (by kernel_rfl) ?hQb1 (by assumption) ?_
          case hib1 => simp only [List.getElem?_toArray, List.getElem?_cons_zero]; rfl
          case hdb1 => rfl
          case hwb1 => rfl
          case hyb1 => (intro w hSw; (try dsimp only at hSw); go_simp)
          case hQb1 => exact fun _ _ _ h => h
          simp only [Act.put, List.setIfInBounds_toArray, List.set_cons_zero, List.set_cons_succ]
          refine takeH (oi := ?oib2) 1 57 (.bool true) ?hib2 ?hdb2 ?hwb2 ?hyb2 (by kernel_rfl) (by kernel_rfl) (by kernel_rfl) ?hQb2 (by assumption) ?_
          case hib2 => simp only [List.getElem?_toArray, List.getElem?_cons_zero, List.getElem?_cons_succ]; rfl
          case hdb2 => rfl
          case hwb2 => rfl
          case hyb2 => (intro w hSw; (try dsimp only at hSw); go_simp)
          case hQb2 => exact fun _ _ _ h => h
          simp only [Act.put, List.setIfInBounds_toArray, List.set_cons_zero, List.set_cons_succ]
          refine takeH (oi := ?oib3) 2 58 (.bool false) ?hib3 ?hdb3 ?hwb3 ?hyb3 (by kernel_rfl) (by kernel_rfl) (by kernel_rfl) ?hQb3 (by assumption) ?_
          case hib3 => simp only [List.getElem?_toArray, List.getElem?_cons_zero, List.getElem?_cons_succ]; rfl
          case hdb3 => rfl
          case hwb3 => rfl
          case hyb3 => (intro w hSw; (try dsimp only at hSw); go_simp)
          case hQb3 => exact fun _ _ _ h => h
          simp only [Act.put, List.setIfInBounds_toArray, List.set_cons_zero, List.set_cons_succ]
          refine takeH (oi := ?oib4) 3 59 (.bool false) ?hib4 ?hdb4 ?hwb4 ?hyb4 (by kernel_rfl) (by kernel_rfl) (by kernel_rfl) ?hQb4 (by assumption) ?_
          case hib4 => simp only [List.getElem?_toArray, List.getElem?_cons_zero, List.getElem?_cons_succ]; rfl
          case hdb4 => rfl
          case hwb4 => rfl
          case hyb4 => (intro w hSw; (try dsimp only at hSw); go_simp)
          case hQb4 => exact fun _ _ _ h => h
          simp only [Act.put, List.setIfInBounds_toArray, List.set_cons_zero, List.set_cons_succ]
          refine skipH 4 60 ⟨_, rfl, rfl, by rfl⟩ (by kernel_rfl) (by kernel_rfl) (by kernel_rfl) (fun _ _ _ h => h) (by assumption) ?_
          simp only [Act.put, List.setIfInBounds_toArray, List.set_cons_zero, List.set_cons_succ]
          refine skipH 5 61 ⟨_, rfl, rfl, by rfl⟩ (by kernel_rfl) (by kernel_rfl) (by kernel_rfl) (fun _ _ _ h => h) (by assumption) ?_
          simp only [Act.put, List.setIfInBounds_toArray, List.set_cons_zero, List.set_cons_succ]
          refine takeH (oi := ?oib5) 6 62 (.bool false) ?hib5 ?hdb5 ?hwb5 ?hyb5 (by kernel_rfl) (by kernel_rfl) (by kernel_rfl) ?hQb5 (by assumption) ?_
          case hib5 => simp only [List.getElem?_toArray, List.getElem?_cons_zero, List.getElem?_cons_succ]; rfl
          case hdb5 => rfl
          case hwb5 => rfl
          case hyb5 => (intro w hSw; (try dsimp only at hSw); go_simp)
          case hQb5 => exact fun _ _ _ h => h
          simp only [Act.put, List.setIfInBounds_toArray, List.set_cons_zero, List.set_cons_succ]
          refine wpAnyH_ready (rs := [7]) (by kernel_rfl) (by simp) ?_
          refine AllReadyH.cons rfl (fun KK hK => ?_) AllReadyH.nil
          go_simp
          go_wp2_with (fail)
          have F6 := (E5.out.later (Below.refl _ w5).drew).stored
          refine hK.out _ _ F6.1 (fun hHeld => ?_)
          clear hK KK
          have F61 := F6.1
          refine takeH (oi := ?oib6) 8 5 (.bool false) ?hib6 ?hdb6 ?hwb6 ?hyb6 (by kernel_rfl) (by kernel_rfl) (by kernel_rfl) ?hQb6 (by assumption) ?_
          case hib6 => simp only [List.getElem?_toArray, List.getElem?_cons_zero, List.getElem?_cons_succ]; rfl
          case hdb6 => rfl
          case hwb6 => rfl
          case hyb6 => (intro w hSw; (try dsimp only at hSw); go_simp)
          case hQb6 => exact fun _ _ _ h => h
          simp only [Act.put, List.setIfInBounds_toArray, List.set_cons_zero, List.set_cons_succ]
          refine wpAnyH_done (by kernel_rfl) ?_ _
          go_wp2_with (fail)
          go_meet
          case rel => exact ⟨rfl, F6.2⟩
        case rest =>
          obtain ⟨rfl, F⟩ := hcut
          obtain ⟨q0, q1, q2, q3, _⟩ := slot4 F.res
          go_wp2_with (fail)
          refine bodyPost_ret (v := .tuple #[vv (.slice a4 (N + K) c4) e.log e.seq e.next, .bool false]) (by simp [results, Tryz.results30, go_sem, q0, q1, q2, q3]) rfl ?_
          exact ⟨a4, N + K, c4, _, _, _, false, rfl, FINF.out HFX.out _ F⟩
    · have HFX : Hid (fl = true) := by show _ = _; rw [HF.out, decide_eq_true f3]; simp
      go_wp2_with (fail)
      go_cut [8] from 47 to 55 (fun z wx => z = .bool true ∧ wx.heap[w.heap.size]? = some (vO (.slice a4 (N + K) c4) e.log e.seq e.next) ∧ w4.grownBy wx (some w.heap.size))
      case first =>
        go_region
        all_goals
          go_wp2_with (fail)
          go_meet
          case rel => exact ⟨rfl, (Joins.block_setCell (Joins.block_setCell (Joins.block_setCell HP4.out _) _) _).trans rfl, grownBy_trans (grown_drew _ _) (grownBy_trans (grownBy_trans (grown_setc _ _ _ _) (grown_setc _ _ _ _) (.inl rfl)) (grown_setc _ _ _ _) (.inl rfl)) (.inl rfl)⟩
      case rest =>
        obtain ⟨rfl, p5, g5⟩ := hcut
        obtain ⟨w5, hw5⟩ : ∃ w5, w5 = wc := ⟨_, rfl⟩
        rw [← hw5] at p5 g5 ⊢
        have E5 := hide (BEH.out w5 p5 g5)
        have p5c := E5.out.cells
        have HP5 := hide p5c
        clear hw5 p5 g5 y0' y1' y2' y3' u0' u1' u2' u3' lt4 x2 x3 x4
        go_wp2_with (fail)
        have P0 := (E5.out.later (Below.refl _ w5).drew).cells
        obtain ⟨y0, y1, y2, y3, u0, u1, u2, u3, lt5⟩ := slot4 E5.out.res11
        clear p5c
        go_cut [5] from 56 to 62 (fun z wx => z = .bool false ∧ BehEnd w wx W.heap.size a4 (N + K) c4 m e.log e.seq e.next)
        case first =>
          refine wp_region_held_drew (S := (fun wx => wx.cell? ⟨w.heap.size, 0, none⟩ = some (.slice a4 (N + K) c4) ∧ wx.cell? ⟨w.heap.size, 1, none⟩ = some (.int .i64 e.log) ∧ wx.cell? ⟨w.heap.size, 2, none⟩ = some (.int .i64 e.seq) ∧ wx.cell? ⟨w.heap.size, 3, none⟩ = some (.int .i64 e.next))) (by kernel_rfl) P0 (fun hHeld => ?_)
          refine takeH (oi := ?oic1) 0 56 (.agg #[.slice a4 (N + K) c4, .int .i64 e.log, .int .i64 e.seq, .int .i64 e.next]) ?hic1 ?hdc1 ?hwc1 ?hyc1 (by kernel_rfl) (by kernel_rfl) (by kernel_rfl) ?hQc1 (by assumption) ?_
          case hic1 => simp only [List.getElem?_toArray, List.getElem?_cons_zero]; rfl
          case hdc1 => rfl
          case hwc1 => rfl
          case hyc1 => (intro w hSw; (try dsimp only at hSw); go_simp)
          case hQc1 => exact fun _ _ _ h => h
          simp only [Act.put, List.setIfInBounds_toArray, List.set_cons_zero, List.set_cons_succ]
          refine takeH (oi := ?oic2) 1 57 (.bool true) ?hic2 ?hdc2 ?hwc2 ?hyc2 (by kernel_rfl) (by kernel_rfl) (by kernel_rfl) ?hQc2 (by assumption) ?_
          case hic2 => simp only [List.getElem?_toArray, List.getElem?_cons_zero, List.getElem?_cons_succ]; rfl
          case hdc2 => rfl
          case hwc2 => rfl
          case hyc2 => (intro w hSw; (try dsimp only at hSw); go_simp)
          case hQc2 => exact fun _ _ _ h => h
          simp only [Act.put, List.setIfInBounds_toArray, List.set_cons_zero, List.set_cons_succ]
          refine takeH (oi := ?oic3) 2 58 (.bool false) ?hic3 ?hdc3 ?hwc3 ?hyc3 (by kernel_rfl) (by kernel_rfl) (by kernel_rfl) ?hQc3 (by assumption) ?_
          case hic3 => simp only [List.getElem?_toArray, List.getElem?_cons_zero, List.getElem?_cons_succ]; rfl
          case hdc3 => rfl
          case hwc3 => rfl
          case hyc3 => (intro w hSw; (try dsimp only at hSw); go_simp)
          case hQc3 => exact fun _ _ _ h => h
          simp only [Act.put, List.setIfInBounds_toArray, List.set_cons_zero, List.set_cons_succ]
          refine takeH (oi := ?oic4) 3 59 (.bool false) ?hic4 ?hdc4 ?hwc4 ?hyc4 (by kernel_rfl) (by kernel_rfl) (by kernel_rfl) ?hQc4 (by assumption) ?_
          case hic4 => simp only [List.getElem?_toArray, List.getElem?_cons_zero, List.getElem?_cons_succ]; rfl
          case hdc4 => rfl
          case hwc4 => rfl
          case hyc4 => (intro w hSw; (try dsimp only at hSw); go_simp)
          case hQc4 => exact fun _ _ _ h => h
          simp only [Act.put, List.setIfInBounds_toArray, List.set_cons_zero, List.set_cons_succ]
          refine skipH 4 60 ⟨_, rfl, rfl, by rfl⟩ (by kernel_rfl) (by kernel_rfl) (by kernel_rfl) (fun _ _ _ h => h) (by assumption) ?_
          simp only [Act.put, List.setIfInBounds_toArray, List.set_cons_zero, List.set_cons_succ]
          refine skipH 5 61 ⟨_, rfl, rfl, by rfl⟩ (by kernel_rfl) (by kernel_rfl) (by kernel_rfl) (fun _ _ _ h => h) (by assumption) ?_
          simp only [Act.put, List.setIfInBounds_toArray, List.set_cons_zero, List.set_cons_succ]
          refine takeH (oi := ?oic5) 6 62 (.bool false) ?hic5 ?hdc5 ?hwc5 ?hyc5 (by kernel_rfl) (by kernel_rfl) (by kernel_rfl) ?hQc5 (by assumption) ?_
          case hic5 => simp only [List.getElem?_toArray, List.getElem?_cons_zero, List.getElem?_cons_succ]; rfl
          case hdc5 => rfl
          case hwc5 => rfl
          case hyc5 => (intro w hSw; (try dsimp only at hSw); go_simp)
          case hQc5 => exact fun _ _ _ h => h
          simp only [Act.put, List.setIfInBounds_toArray, List.set_cons_zero, List.set_cons_succ]
          refine wpAnyH_ready (rs := [7]) (by kernel_rfl) (by simp) ?_
          refine AllReadyH.cons rfl (fun KK hK => ?_) AllReadyH.nil
          go_simp
          go_wp2_with (fail)
          have F6 := (E5.out.later (Below.refl _ w5).drew).stored
          refine hK.out _ _ F6.1 (fun hHeld => ?_)
          clear hK KK
          have F61 := F6.1
          refine takeH (oi := ?oic6) 8 5 (.bool false) ?hic6 ?hdc6 ?hwc6 ?hyc6 (by kernel_rfl) (by kernel_rfl) (by kernel_rfl) ?hQc6 (by assumption) ?_
          case hic6 => simp only [List.getElem?_toArray, List.getElem?_cons_zero, List.getElem?_cons_succ]; rfl
          case hdc6 => rfl
          case hwc6 => rfl
          case hyc6 => (intro w hSw; (try dsimp only at hSw); go_simp)
          case hQc6 => exact fun _ _ _ h => h
          simp only [Act.put, List.setIfInBounds_toArray, List.set_cons_zero, List.set_cons_succ]
          refine wpAnyH_done (by kernel_rfl) ?_ _
          go_wp2_with (fail)
          go_meet
          case rel => exact ⟨rfl, F6.2⟩
        case rest =>
          obtain ⟨rfl, F⟩ := hcut
          obtain ⟨q0, q1, q2, q3, _⟩ := slot4 F.res
          go_wp2_with (fail)
          refine bodyPost_ret (v := .tuple #[vv (.slice a4 (N + K) c4) e.log e.seq e.next, .bool false]) (by simp [results, Tryz.results30, go_sem, q0, q1, q2, q3]) rfl ?_
          exact ⟨a4, N + K, c4, _, _, _, false, rfl, FINF.out HFX.out _ F⟩
    · have HFX : Hid (fl = false) := by show _ = _; rw [HF.out, decide_eq_false f1, decide_eq_false f2, decide_eq_false f3]; rfl
      go_wp2_with (fail)
      go_cut [8] from 47 to 55 (fun z wx => z = .bool false ∧ wx.heap[w.heap.size]? = some (vO (.slice a4 (N + K) c4) e.log e.seq e.next) ∧ w4.grownBy wx (some w.heap.size))
      case first =>
        go_region
        all_goals
          go_wp2_with (fail)
          go_meet
          case rel => exact ⟨(by rw [decide_eq_false (p := e.log < v.log) (by omega), decide_eq_false (p := e.seq < v.seq) (by omega), decide_eq_false (p := e.next < v.next) (by omega)]; rfl), (Joins.block_setCell (Joins.block_setCell (Joins.block_setCell HP4.out _) _) _).trans rfl, grownBy_trans (grown_drew _ _) (grownBy_trans (grownBy_trans (grown_setc _ _ _ _) (grown_setc _ _ _ _) (.inl rfl)) (grown_setc _ _ _ _) (.inl rfl)) (.inl rfl)⟩
      case rest =>
        obtain ⟨rfl, p5, g5⟩ := hcut
        obtain ⟨w5, hw5⟩ : ∃ w5, w5 = wc := ⟨_, rfl⟩
        rw [← hw5] at p5 g5 ⊢
        have E5 := hide (BEH.out w5 p5 g5)
        have p5c := E5.out.cells
        have HP5 := hide p5c
        clear hw5 p5 g5 y0' y1' y2' y3' u0' u1' u2' u3' lt4 x2 x3 x4
        go_wp2_with (fail)
        have P0 := (E5.out.later (Below.refl _ w5).drew).cells
        obtain ⟨y0, y1, y2, y3, u0, u1, u2, u3, lt5⟩ := slot4 E5.out.res11
        clear p5c
        go_cut [5] from 56 to 62 (fun z wx => z = .bool (Mf.may ⟨m, e.log, e.seq, e.next⟩) ∧ BehEnd w wx W.heap.size a4 (N + K) c4 m e.log e.seq e.next)
        case first =>
          refine wp_region_held_drew (S := (fun wx => wx.cell? ⟨w.heap.size, 0, none⟩ = some (.slice a4 (N + K) c4) ∧ wx.cell? ⟨w.heap.size, 1, none⟩ = some (.int .i64 e.log) ∧ wx.cell? ⟨w.heap.size, 2, none⟩ = some (.int .i64 e.seq) ∧ wx.cell? ⟨w.heap.size, 3, none⟩ = some (.int .i64 e.next))) (by kernel_rfl) P0 (fun hHeld => ?_)
          refine takeH (oi := ?oid1) 0 56 (.agg #[.slice a4 (N + K) c4, .int .i64 e.log, .int .i64 e.seq, .int .i64 e.next]) ?hid1 ?hdd1 ?hwd1 ?hyd1 (by kernel_rfl) (by kernel_rfl) (by kernel_rfl) ?hQd1 (by assumption) ?_
          case hid1 => simp only [List.getElem?_toArray, List.getElem?_cons_zero]; rfl
          case hdd1 => rfl
          case hwd1 => rfl
          case hyd1 => (intro w hSw; (try dsimp only at hSw); go_simp)
          case hQd1 => exact fun _ _ _ h => h
          simp only [Act.put, List.setIfInBounds_toArray, List.set_cons_zero, List.set_cons_succ]
          refine takeH (oi := ?oid2) 1 57 (.bool false) ?hid2 ?hdd2 ?hwd2 ?hyd2 (by kernel_rfl) (by kernel_rfl) (by kernel_rfl) ?hQd2 (by assumption) ?_
          case hid2 => simp only [List.getElem?_toArray, List.getElem?_cons_zero, List.getElem?_cons_succ]; rfl
          case hdd2 => rfl
          case hwd2 => rfl
          case hyd2 => (intro w hSw; (try dsimp only at hSw); go_simp)
          case hQd2 => exact fun _ _ _ h => h
          simp only [Act.put, List.setIfInBounds_toArray, List.set_cons_zero, List.set_cons_succ]
          refine takeH (oi := ?oid3) 2 58 (.bool true) ?hid3 ?hdd3 ?hwd3 ?hyd3 (by kernel_rfl) (by kernel_rfl) (by kernel_rfl) ?hQd3 (by assumption) ?_
          case hid3 => simp only [List.getElem?_toArray, List.getElem?_cons_zero, List.getElem?_cons_succ]; rfl
          case hdd3 => rfl
          case hwd3 => rfl
          case hyd3 => (intro w hSw; (try dsimp only at hSw); go_simp)
          case hQd3 => exact fun _ _ _ h => h
          simp only [Act.put, List.setIfInBounds_toArray, List.set_cons_zero, List.set_cons_succ]
          refine takeH (oi := ?oid4) 3 59 (.bool true) ?hid4 ?hdd4 ?hwd4 ?hyd4 (by kernel_rfl) (by kernel_rfl) (by kernel_rfl) ?hQd4 (by assumption) ?_
          case hid4 => simp only [List.getElem?_toArray, List.getElem?_cons_zero, List.getElem?_cons_succ]; rfl
          case hdd4 => rfl
          case hwd4 => rfl
          case hyd4 => (intro w hSw; (try dsimp only at hSw); go_simp)
          case hQd4 => exact fun _ _ _ h => h
          simp only [Act.put, List.setIfInBounds_toArray, List.set_cons_zero, List.set_cons_succ]
          refine takeH (oi := ?oid5) 4 60 (.agg #[.slice a4 (N + K) c4, .int .i64 e.log, .int .i64 e.seq, .int .i64 e.next]) ?hid5 ?hdd5 ?hwd5 ?hyd5 (by kernel_rfl) (by kernel_rfl) (by kernel_rfl) ?hQd5 (by assumption) ?_
          case hid5 => simp only [List.getElem?_toArray, List.getElem?_cons_zero, List.getElem?_cons_succ]; rfl
          case hdd5 => rfl
          case hwd5 => rfl
          case hyd5 => (intro w hSw; (try dsimp only at hSw); go_simp)
          case hQd5 => exact fun _ _ _ h => h
          simp only [Act.put, List.setIfInBounds_toArray, List.set_cons_zero, List.set_cons_succ]
          refine wpAnyH_ready (rs := [5]) (by kernel_rfl) (by simp) ?_
          refine AllReadyH.cons rfl (fun KK hK => ?_) AllReadyH.nil
          · go_simp
            refine (MB.out _ (E5.out.later (Below.refl _ w5).drew).mts).mono ?_
            rintro r w6 ⟨rfl, b6⟩
            have E6 := E5.out.later ((Below.refl _ w5).drew.trans b6)
            obtain ⟨y0, y1, y2, y3, u0, u1, u2, u3, lt6⟩ := slot4 E6.res11
            have F6 := E6.stored
            go_wp2_with (fail)
            refine hK.out _ _ E6.cells (fun hHeld => ?_)
            clear hK KK
            refine takeH (oi := ?oid6) 6 62 (.bool (Mf.may ⟨m, e.log, e.seq, e.next⟩)) ?hid6 ?hdd6 ?hwd6 ?hyd6 (by kernel_rfl) (by kernel_rfl) (by kernel_rfl) ?hQd6 (by assumption) ?_
            case hid6 => simp only [List.getElem?_toArray, List.getElem?_cons_zero, List.getElem?_cons_succ]; rfl
            case hdd6 => rfl
            case hwd6 => rfl
            case hyd6 => (intro w hSw; (try dsimp only at hSw); go_simp)
            case hQd6 => exact fun _ _ _ h => h
            simp only [Act.put, List.setIfInBounds_toArray, List.set_cons_zero, List.set_cons_succ]
            refine wpAnyH_ready (rs := [7]) (by kernel_rfl) (by simp) ?_
            refine AllReadyH.cons rfl (fun KK hK => ?_) AllReadyH.nil
            go_simp
            go_wp2_with (fail)
            refine hK.out _ _ F6.1 (fun hHeld => ?_)
            clear hK KK
            have F61 := F6.1
            refine takeH (oi := ?oid7) 8 5 (.bool (Mf.may ⟨m, e.log, e.seq, e.next⟩)) ?hid7 ?hdd7 ?hwd7 ?hyd7 (by kernel_rfl) (by kernel_rfl) (by kernel_rfl) ?hQd7 (by assumption) ?_
            case hid7 => simp only [List.getElem?_toArray, List.getElem?_cons_zero, List.getElem?_cons_succ]; rfl
            case hdd7 => rfl
            case hwd7 => rfl
            case hyd7 => (intro w hSw; (try dsimp only at hSw); go_simp)
            case hQd7 => exact fun _ _ _ h => h
            simp only [Act.put, List.setIfInBounds_toArray, List.set_cons_zero, List.set_cons_succ]
            refine wpAnyH_done (by kernel_rfl) ?_ _
            go_wp2_with (fail)
            go_meet
            case rel => exact ⟨rfl, F6.2⟩
        case rest =>
          obtain ⟨rfl, F⟩ := hcut
          obtain ⟨q0, q1, q2, q3, _⟩ := slot4 F.res
          go_wp2_with (fail)
          refine bodyPost_ret (v := .tuple #[vv (.slice a4 (N + K) c4) e.log e.seq e.next, .bool (Mf.may ⟨m, e.log, e.seq, e.next⟩)]) (by simp [results, Tryz.results30, go_sem, q0, q1, q2, q3]) rfl ?_
          exact ⟨a4, N + K, c4, _, _, _, _, rfl, FINT.out HFX.out _ F⟩
end Go.Proofs.YtlhnjloimhcpfabGreatDoor
