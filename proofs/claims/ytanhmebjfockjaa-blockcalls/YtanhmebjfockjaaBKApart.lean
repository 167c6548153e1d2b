/-
  Lists of bytes each of which is none or lies in a block of its own: they share no memory, so the kit's call that writes them over answers true; it touches nothing but them.
-/
import Derived.Test.YtanhmebjfockjaaJKOver
import Derived.RangeFuncOwn
namespace Go.Proofs.Ytanhmebjfockjaa
open Go.RowKit

/-- A list of bytes in a block of its own, or none. -/
structure Row where
  g : Option Nat
  cap : Nat
  bs : List UInt8
def Row.at (r : Row) : Option Addr := r.g.map fun g => ⟨g, 0, none⟩
def Row.val (r : Row) : Value := .slice r.at r.bs.length r.cap
theorem Row.own_val (r : Row) : r.val.ownBlock = r.g := by unfold Row.val Row.at; cases r.g <;> rfl

theorem infoL : (Try.prog.info? 53).map (fun i => (i.zero, i.size, i.bytes)) = some (some (.slice none 0 0), 1, 24) := by kernel_rfl

/-- What the first loop has made by its round j: copies of the first j lists, in new memory. -/
structure Inv1 (n : Nat) (r : Nat → Row) (hb hc : Nat → Nat) (j : Nat) (w wr : World) : Prop where
  was : ∀ k, k < j → wr.cell? ⟨w.heap.size, k, none⟩ = some (.slice (some ⟨hb k, 0, none⟩) (r k).bs.length (hc k))
  cop : ∀ k, k < j → BytesAt wr (hb k) 0 (r k).bs ∧ w.heap.size < hb k
  rest : ∀ k, k < n → ∃ u, wr.cell? ⟨w.heap.size, k, none⟩ = some u
  frz : ∀ k, k < n → wr.frozen? ⟨w.heap.size, k, none⟩ = false
  bel : Below w.heap.size w wr
  siz : w.heap.size < wr.heap.size

theorem Inv1.start (n : Nat) (r : Nat → Row) (w : World) : Inv1 n r (fun _ => 0) (fun _ => 0) 0 w (w.alloc (.cells (madeCells #[.slice none 0 0] n) 53)) := by
  have hg := heap_alloc_new w (.cells (madeCells #[.slice none 0 0] n) 53)
  refine ⟨fun k h => by omega, fun k h => by omega, fun k h => ⟨.slice none 0 0, ?_⟩, fun k h => frozen_of_row _ _ k _ _ hg, (Below.refl _ _).alloc (Nat.le_refl _) _, by simp⟩
  rw [cell_of_row _ _ k _ _ (0, 0) hg, ← Array.getElem?_toList, toList_madeCells_one, List.getElem?_replicate, if_pos h]

theorem Inv1.step {n : Nat} {r : Nat → Row} {hb hc : Nat → Nat} {j g cap : Nat} {w wr w2 : World} (h : Inv1 n r hb hc j w wr) (hj : j < n) (hx : Ext wr.heap.size wr (.slice none 0 0) w2 (.slice (some ⟨g, 0, none⟩) (r j).bs.length cap) (r j).bs) :
    Inv1 n r (fun k => if k = j then g else hb k) (fun k => if k = j then cap else hc k) (j + 1) w (w2.setCell ⟨w.heap.size, j, none⟩ (.slice (some ⟨g, 0, none⟩) (r j).bs.length cap)) := by
  have hB := hx.below (Nat.le_refl _) (by simp [Value.ownBlock])
  have hz := h.siz
  have hz2 := hB.size
  have hgw : wr.heap.size ≤ g := by
    rcases hx.own.2 with ⟨e, _⟩ | ⟨g', cap', cur, e, hb', _⟩
    · cases e
    · simp only [Value.slice.injEq, Option.some.injEq, Addr.mk.injEq, and_true, true_and] at e; omega
  have hM : ∀ k, k < n → ∃ u, w2.cell? ⟨w.heap.size, k, none⟩ = some u := fun k hk => by
    obtain ⟨u, hu⟩ := h.rest k hk
    exact ⟨u, (hB.cell (p := ⟨w.heap.size, k, none⟩) hz).trans hu⟩
  have hF : ∀ k, k < n → w2.frozen? ⟨w.heap.size, k, none⟩ = false := fun k hk => (hB.frozen (p := ⟨w.heap.size, k, none⟩) hz).trans (h.frz k hk)
  have hset : (w2.setCell ⟨w.heap.size, j, none⟩ (.slice (some ⟨g, 0, none⟩) (r j).bs.length cap)).cell? ⟨w.heap.size, j, none⟩ = some (.slice (some ⟨g, 0, none⟩) (r j).bs.length cap) := by
    obtain ⟨u, hu⟩ := hM j hj
    simp [go_sem, hu]
  have hoth : ∀ p : Addr, p ≠ ⟨w.heap.size, j, none⟩ → (w2.setCell ⟨w.heap.size, j, none⟩ (.slice (some ⟨g, 0, none⟩) (r j).bs.length cap)).cell? p = w2.cell? p := fun p hp => World.cell?_setCell_other _ _ _ _ (fun e => hp e.symm)
  have hblk : ∀ p : Addr, p.block ≠ w.heap.size → (w2.setCell ⟨w.heap.size, j, none⟩ (.slice (some ⟨g, 0, none⟩) (r j).bs.length cap)).cell? p = w2.cell? p := fun p hp => hoth p (fun e => hp (by rw [e]))
  refine ⟨fun k hk => ?_, fun k hk => ?_, fun k hk => ?_, fun k hk => ?_, ?_, ?_⟩
  · by_cases e : k = j
    · subst e; simp only [if_true]; exact hset
    · simp only [if_neg e]
      rw [hoth _ (fun h' => e (congrArg Addr.off h')), hB.cell (p := ⟨w.heap.size, k, none⟩) hz]
      exact h.was k (by omega)
  · by_cases e : k = j
    · subst e; simp only [if_true]
      refine ⟨fun i hi => ?_, by omega⟩
      rw [hblk ⟨g, 0 + i, none⟩ (by show g ≠ _; omega), Nat.zero_add, hx.own.cellAt i (by omega), bc_get _ i hi]
    · simp only [if_neg e]
      obtain ⟨c1, c2⟩ := h.cop k (by omega)
      refine ⟨fun i hi => ?_, c2⟩
      rw [hblk ⟨hb k, 0 + i, none⟩ (by show hb k ≠ _; omega)]
      exact (hB.cell (World.block_lt_of_cell? wr _ (c1 i hi))).trans (c1 i hi)
  · by_cases e : k = j
    · subst e; exact ⟨_, hset⟩
    · obtain ⟨u, hu⟩ := hM k hk
      exact ⟨u, (hoth _ (fun h' => e (congrArg Addr.off h'))).trans hu⟩
  · have := hF k hk
    simpa [go_sem] using this
  · exact (h.bel.trans (hB.mono h.bel.size)).setCell (Nat.le_refl _) _
  · simp; omega

/-- Each block that is none of the lists' lies as it lay. -/
def Far (n : Nat) (r : Nat → Row) (w wr : World) : Prop := w.heap.size ≤ wr.heap.size ∧ ∀ i, i < w.heap.size → (∀ k, k < n → (r k).g ≠ some i) → wr.heap[i]? = w.heap[i]?
theorem Far.trans {n : Nat} {r : Nat → Row} {a b c : World} (h : Far n r a b) (k : Far n r b c) : Far n r a c :=
  ⟨Nat.le_trans h.1 k.1, fun i hi hn => (k.2 i (Nat.lt_of_lt_of_le hi h.1) hn).trans (h.2 i hi hn)⟩
/-- What holds at round j of the second loop, and behind it. -/
structure Inv2 (n base G M : Nat) (r : Nat → Row) (hb hc : Nat → Nat) (j : Nat) (w wr : World) : Prop where
  lst : ∀ k, k < n → wr.cell? ⟨G, k, none⟩ = some (r k).val
  was : ∀ k, k < n → wr.cell? ⟨M, k, none⟩ = some (.slice (some ⟨hb k, 0, none⟩) (r k).bs.length (hc k))
  cop : ∀ k, k < n → BytesAt wr (hb k) 0 (r k).bs
  don : ∀ k, k < j → wr.ownsRow base 5 1 (r k).val (r k).bs.length (bc ((r k).bs.map notb))
  yet : ∀ k, j ≤ k → k < n → wr.ownsRow base 5 1 (r k).val (r k).bs.length (bc (r k).bs)
  bel : Below base w wr
  oth : Far n r w wr

/-- Where all blocks lie as they lay. -/
theorem others_of_below {n : Nat} {r : Nat → Row} {w wr : World} (h : Below w.heap.size w wr) : Far n r w wr := ⟨h.size, fun i hi _ => h.block i hi⟩

theorem Inv2.later {n base G M : Nat} {r : Nat → Row} {hb hc : Nat → Nat} {j : Nat} {w wr w2 : World} (h : Inv2 n base G M r hb hc j w wr) (hbase : base ≤ wr.heap.size) (hB : Below wr.heap.size wr w2) : Inv2 n base G M r hb hc j w w2 :=
  ⟨fun k hk => (hB.cell (World.block_lt_of_cell? wr _ (h.lst k hk))).trans (h.lst k hk), fun k hk => (hB.cell (World.block_lt_of_cell? wr _ (h.was k hk))).trans (h.was k hk), fun k hk => (h.cop k hk).later hB,
    fun k hk => own_later (h.don k hk) hB, fun k h1 hk => own_later (h.yet k h1 hk) hB, h.bel.trans (hB.mono hbase), h.oth.trans (others_of_below hB)⟩

/-- A list that is none is done at once. -/
theorem Inv2.skip {n base G M : Nat} {r : Nat → Row} {hb hc : Nat → Nat} {j : Nat} {w wr : World} (h : Inv2 n base G M r hb hc j w wr) (hj : j < n) (h0 : (r j).bs = []) : Inv2 n base G M r hb hc (j + 1) w wr := by
  refine ⟨h.lst, h.was, h.cop, fun k hk => ?_, fun k h1 hk => h.yet k (by omega) hk, h.bel, h.oth⟩
  by_cases e : k = j
  · subst e
    have := h.yet k (Nat.le_refl _) hj
    rw [h0] at this ⊢
    exact this
  · exact h.don k (by omega)

theorem Inv2.step {n base G M : Nat} {r : Nat → Row} {hb hc : Nat → Nat} {j g : Nat} {w wr w2 : World} (h : Inv2 n base G M r hb hc j w wr) (hj : j < n) (hjg : (r j).g = some g) (hbase : base ≤ wr.heap.size)
    (hd : ∀ i k, i < n → k < n → i ≠ k → (r i).g ≠ none → (r i).g ≠ (r k).g) (hG : g ≠ G) (hM : g ≠ M) (hH : ∀ k, k < n → g ≠ hb k) (hgb : base ≤ g)
    (ho : w2.ownsRow base 5 1 (r j).val (r j).bs.length (bc ((r j).bs.map notb))) (hg : wr.grownBy w2 (some g)) : Inv2 n base G M r hb hc (j + 1) w w2 := by
  have far : ∀ k, k < n → k ≠ j → (r k).val.ownBlock ≠ some g := fun k hk hne e => by
    rw [Row.own_val] at e
    exact hd k j hk hj hne (by rw [e]; simp) (by rw [e, hjg])
  refine ⟨fun k hk => hg.cell (h.lst k hk) (fun e => hG (Option.some.inj e).symm), fun k hk => hg.cell (h.was k hk) (fun e => hM (Option.some.inj e).symm), fun k hk i hi => hg.cell (h.cop k hk i hi) (fun e => hH k hk (Option.some.inj e).symm), fun k hk => ?_, fun k h1 hk => ?_, ?_, ?_⟩
  · by_cases e : k = j
    · subst e; exact ho
    · exact (h.don k (by omega)).kept hg (.inr (far k (by omega) e))
  · exact (h.yet k (by omega) hk).kept hg (.inr (far k hk (by omega)))
  · exact h.bel.grown hg hbase (fun k hk => by cases hk; exact hgb)
  · exact h.oth.trans ⟨hg.size, fun i hi hn => hg.block i hi (fun e => hn j hj (by rw [hjg, e]))⟩

set_option maxRecDepth 100000 in
set_option maxHeartbeats 4000000 in
theorem apart_keeps (n c : Nat) (hn : n ≤ 1000000) (w : World) (base G : Nat) (r : Nat → Row) (HL : ∀ k, k < n → w.cell? ⟨G, k, none⟩ = some (r k).val) (HO : ∀ k, k < n → w.ownsRow base 5 1 (r k).val (r k).bs.length (bc (r k).bs)) (HS : ∀ k, k < n → (r k).bs.length ≤ 140737488355328)
    (HD : ∀ i k, i < n → k < n → i ≠ k → (r i).g ≠ none → (r i).g ≠ (r k).g) (HG : ∀ k, k < n → (r k).g ≠ some G) (hbase : base ≤ w.heap.size) :
    Calls Try.prog 38 #[.slice (some ⟨G, 0, none⟩) n c] w fun e w' => e = .returned (.bool true) ∧ Below base w w' ∧ Far n r w w' := by
  obtain ⟨i1, hi1, hy0, hy1, hy2⟩ := info_parts infoL
  have hmk : ∀ u : World, (Instr.makeSlice 63 (.int .i64 (n : Int)) (.int .i64 (n : Int))).run Try.prog u =
      .ok (.slice (some ⟨u.heap.size, 0, none⟩) n n) (u.alloc (.cells (madeCells #[.slice none 0 0] n) 53)) := fun u => by
    have h := run_make (P := Try.prog) u 63 53 i1 (.slice none 0 0) Try.underlying63 hi1 hy0 .i64 .i64 (n : Int) (n : Int) (by omega) (Int.le_refl _) (by rw [hy2]; omega) (by omega)
    rw [hy1, Int.toNat_natCast, Nat.mul_one] at h
    exact h
  have H0 : Hid (∀ k, k < n → w.cell? ⟨G, k, none⟩ = some (r k).val) := HL
  have H1 : Hid (∀ k, k < n → w.ownsRow base 5 1 (r k).val (r k).bs.length (bc (r k).bs)) := HO
  have H2 : Hid (∀ k, k < n → (r k).bs.length ≤ 140737488355328) := HS
  have H3 : Hid (∀ i k, i < n → k < n → i ≠ k → (r i).g ≠ none → (r i).g ≠ (r k).g) := HD
  have H4 : Hid (∀ k, k < n → (r k).g ≠ some G) := HG
  have H5 : Hid (∀ k, k < n → ∀ g, (r k).g = some g → g < w.heap.size ∧ base ≤ g ∧ (r k).bs.length ≤ (r k).cap ∧ (r k).cap ≤ 9223372036854775807) := fun k hk g hg => by
    have h := HO k hk
    have h1 := h.lt g (by rw [Row.own_val]; exact hg)
    rcases h.2 with ⟨e, _⟩ | ⟨g', cap', cur, e, hb', _, hnc, hcm, _⟩
    · simp only [Row.val, Row.at, hg, Option.map_some, Value.slice.injEq] at e; cases e.1
    · simp only [Row.val, Row.at, hg, Option.map_some, Value.slice.injEq, Option.some.injEq, Addr.mk.injEq, and_true, true_and] at e
      unfold maxLen at hcm
      exact ⟨h1.2, h1.1, by omega, by omega⟩
  have H6 : Hid (∀ k, k < n → (r k).g = none → (r k).bs = [] ∧ (r k).cap = 0) := fun k hk hg => by
    rcases (HO k hk).2 with ⟨e, h0⟩ | ⟨g', cap', cur, e, _⟩
    · simp only [Row.val, Row.at, hg, Option.map_none, Value.slice.injEq, true_and] at e
      exact ⟨List.eq_nil_of_length_eq_zero h0, e.2⟩
    · simp only [Row.val, Row.at, hg, Option.map_none, Value.slice.injEq] at e; cases e.1
  clear HL HO HS HD HG
  go_enter Try.func38, Try.ntmps38
  go_wp2_with (fail)
  clear hmk
  go_loopw [4] (fun i wr => ∃ (j : Nat) (hb hc : Nat → Nat), j ≤ n ∧ i = .int .i64 j ∧ Inv1 n r hb hc j w wr) (fun i _ => n - (intOf i).toNat)
  case atStart => exact ⟨0, _, _, by omega, rfl, Inv1.start n r w⟩
  case round =>
    obtain ⟨j, hb, hc, hj, rfl, hI⟩ := hrel
    by_cases hlt : j < n
    · have hlti : (j : Int) < (n : Int) := by omega
      have hl := H0.out j hlt
      have hG : G < w.heap.size := World.block_lt_of_cell? w _ hl
      have c0 : wr.cell? ⟨G, j, none⟩ = some (.slice (r j).at (r j).bs.length (r j).cap) := (hI.bel.cell (p := ⟨G, j, none⟩) hG).trans hl
      have hz := hI.siz
      have BI : BytesIn wr (r j).val (r j).bs := (bytes_of_own (H1.out j hlt) (H2.out j hlt)).later hI.bel
      have CB : Hid (Calls Try.prog 69 #[.slice (r j).at (r j).bs.length (r j).cap] wr fun e w' => ∃ g cap, e = .returned (.slice (some ⟨g, 0, none⟩) (r j).bs.length cap) ∧ Ext wr.heap.size wr (.slice none 0 0) w' (.slice (some ⟨g, 0, none⟩) (r j).bs.length cap) (r j).bs) := copyBytes_any wr _ _ _ BI (fun e => (H6.out j hlt (by unfold Row.at at e; cases hh : (r j).g with | none => rfl | some g => rw [hh] at e; cases e)).2)
      obtain ⟨u0, hu0⟩ := hI.rest j hlt
      have f0 := hI.frz j hlt
      clear hl BI
      go_wp2_with (go_at_call 69; refine CB.out.mono ?_; rintro e w2 ⟨g2, cap2, rfl, hx2⟩; have hB2 := hx2.below (Nat.le_refl _) (by simp [Value.ownBlock]); have m0 := (hB2.cell (p := ⟨w.heap.size, j, none⟩) hz).trans hu0; have m1 := (hB2.frozen (p := ⟨w.heap.size, j, none⟩) hz).trans f0)
      exact ⟨⟨j + 1, _, _, by omega, by go_num, hI.step hlt hx2⟩, by simp [intOf]; omega⟩
    · have ej : n = j := by omega
      subst ej
      have hI2 : Hid (Inv2 n base G w.heap.size r hb hc 0 w wr) := by
        refine ⟨fun k hk => (hI.bel.cell (World.block_lt_of_cell? w _ (H0.out k hk))).trans (H0.out k hk), fun k hk => hI.was k hk, fun k hk => (hI.cop k hk).1, fun k hk => by omega, fun k _ hk => own_later (H1.out k hk) hI.bel, hI.bel.mono hbase, others_of_below hI.bel⟩
      have HH : Hid (∀ k, k < n → w.heap.size < hb k) := fun k hk => (hI.cop k hk).2
      have hz0 : base ≤ wr.heap.size := Nat.le_trans hbase hI.bel.size
      clear hI
      go_wp2_with (fail)
      go_loopw [5] (fun i wr2 => ∃ j : Nat, j ≤ n ∧ i = .int .i64 j ∧ base ≤ wr2.heap.size ∧ Inv2 n base G w.heap.size r hb hc j w wr2) (fun i _ => n - (intOf i).toNat)
      case atStart => exact ⟨0, by omega, rfl, hz0, hI2.out⟩
      case round =>
        obtain ⟨j, hj, rfl, hz1, hI⟩ := hrel
        clear hI2 hz0
        by_cases hlt : j < n
        · have hlti : (j : Int) < (n : Int) := by omega
          have c0 : wr.cell? ⟨G, j, none⟩ = some (.slice (r j).at (r j).bs.length (r j).cap) := hI.lst j hlt
          have c1 := hI.was j hlt
          have BI : BytesIn wr (.slice (r j).at (r j).bs.length (r j).cap) (r j).bs := bytes_of_own (hI.yet j (Nat.le_refl _) hlt) (H2.out j hlt)
          have BJ : BytesIn wr (.slice (some ⟨hb j, 0, none⟩) (r j).bs.length (hc j)) (r j).bs := ⟨⟨_, _, rfl, fun _ => ⟨_, _, rfl, hI.cop j hlt⟩⟩, H2.out j hlt⟩
          have SB : Hid (∀ wx : World, Below wr.heap.size wr wx → Calls Try.prog 35 #[.slice (r j).at (r j).bs.length (r j).cap, .slice (some ⟨hb j, 0, none⟩) (r j).bs.length (hc j)] wx fun e w' => e = .returned (.bool true) ∧ Below wx.heap.size wx w') := fun wx hw => by
            have := same_any wx _ _ _ _ (BI.later hw) (BJ.later hw)
            rwa [decide_eq_true rfl] at this
          have OV : Hid (∀ wx : World, Inv2 n base G w.heap.size r hb hc j w wx → base ≤ wx.heap.size → Calls Try.prog 82 #[.slice (r j).at (r j).bs.length (r j).cap] wx fun e w' => e = .returned (.tuple #[]) ∧ Inv2 n base G w.heap.size r hb hc (j + 1) w w' ∧ base ≤ w'.heap.size) := fun wx hw hbx => by
            cases hgj : (r j).g with
            | none =>
              obtain ⟨e1, e2⟩ := H6.out j hlt hgj
              have e3 : (r j).at = none := by unfold Row.at; rw [hgj]; rfl
              rw [e3, e1, e2]
              refine (over_nil wx).mono ?_
              rintro e w' ⟨rfl, rfl⟩
              exact ⟨rfl, hw.skip hlt e1, hbx⟩
            | some g =>
              obtain ⟨x1, x2, x3, x4⟩ := H5.out j hlt g hgj
              have e3 : (r j).at = some ⟨g, 0, none⟩ := by unfold Row.at; rw [hgj]; rfl
              have hy := hw.yet j (Nat.le_refl _) hlt
              unfold Row.val at hy
              rw [e3] at hy ⊢
              refine (over_any wx base g (r j).bs.length (r j).cap (r j).bs rfl hy hbx x3 x4).mono ?_
              rintro e w' ⟨rfl, ho, hg⟩
              exact ⟨rfl, hw.step hlt hgj hbx H3.out (fun e => H4.out j hlt (by rw [hgj, e])) (by omega) (fun k hk => by have := HH.out k hk; omega) x2 (by unfold Row.val; rw [e3]; exact ho) hg, Nat.le_trans hbx hg.size⟩
          have HI : Hid (Inv2 n base G w.heap.size r hb hc j w wr) := hI
          clear hI BI BJ
          go_wp2_with (fail)
          go_region_held3 (fun w' => w'.cell? ⟨G, j, none⟩ = some (.slice (r j).at (r j).bs.length (r j).cap) ∧ w'.cell? ⟨w.heap.size, j, none⟩ = some (.slice (some ⟨hb j, 0, none⟩) (r j).bs.length (hc j)))
            (first | (go_split_ands; refine ⟨?_, ?_⟩ <;> exact keepC hbx (by assumption)) | (go_keep; done))
            (first
              | (go_at_call 35; first | refine (SB.out _ (Below.refl _ _)).mono ?_ | refine (SB.out _ (Below.refl _ _).drew).mono ?_; rintro e x1 ⟨rfl, hbx⟩; have K1 := hbx))
          have L1 : Below wr.heap.size wr x1 := by first | exact K1 | exact (Below.refl _ _).drew.trans K1
          have HJ : Hid (Inv2 n base G w.heap.size r hb hc j w x1) := HI.out.later hz1 L1
          have d0 : x1.cell? ⟨G, j, none⟩ = some (.slice (r j).at (r j).bs.length (r j).cap) := HJ.out.lst j hlt
          have hz2 : base ≤ x1.heap.size := Nat.le_trans hz1 L1.size
          clear K1 L1 hbx c0 c1 SB
          go_wp2_with (go_at_call 82; refine (OV.out _ HJ.out hz2).mono ?_; rintro e x2 ⟨rfl, hI2, hz3⟩)
          exact ⟨⟨j + 1, by omega, by go_num, hz3, hI2⟩, by simp [intOf]; omega⟩
        · have ej : n = j := by omega
          subst ej
          have HI : Hid (Inv2 n base G w.heap.size r hb hc n w wr) := hI
          clear hI
          go_wp2_with (fail)
          go_loopw [6] (fun i wr3 => ∃ j : Nat, j ≤ n ∧ i = .int .i64 j ∧ base ≤ wr3.heap.size ∧ Inv2 n base G w.heap.size r hb hc n w wr3) (fun i _ => n - (intOf i).toNat)
          case atStart => exact ⟨0, by omega, rfl, hz1, HI.out⟩
          case round =>
            obtain ⟨j, hj3, rfl, hz3, hI3⟩ := hrel
            have HI3 : Hid (Inv2 n base G w.heap.size r hb hc n w wr) := hI3
            clear hI3 HI hz1
            by_cases hlt3 : j < n
            · have hlti : (j : Int) < (n : Int) := by omega
              go_wp2_with (fail)
              go_loopw [7] (fun i wr4 => ∃ k : Nat, k ≤ (r j).bs.length ∧ i = .int .i64 k ∧ base ≤ wr4.heap.size ∧ Inv2 n base G w.heap.size r hb hc n w wr4) (fun i _ => (r j).bs.length - (intOf i).toNat)
              case atStart => exact ⟨0, by omega, rfl, hz3, HI3.out⟩
              case round =>
                obtain ⟨k, hk, rfl, hz4, hI4⟩ := hrel
                have HI4 : Hid (Inv2 n base G w.heap.size r hb hc n w wr) := hI4
                have c0 : wr.cell? ⟨G, j, none⟩ = some (.slice (r j).at (r j).bs.length (r j).cap) := hI4.lst j hlt3
                have c1 := hI4.was j hlt3
                by_cases hkl : k < (r j).bs.length
                · obtain ⟨c, hcc⟩ : ∃ c : Nat, c = ((r j).bs[k]).toNat := ⟨_, rfl⟩
                  have hc256 : c < 256 := by rw [hcc]; exact UInt8.toNat_lt _
                  obtain ⟨g, hgj⟩ : ∃ g, (r j).g = some g := by
                    cases hgj : (r j).g with
                    | none => rw [(H6.out j hlt3 hgj).1] at hkl; simp at hkl
                    | some g => exact ⟨g, rfl⟩
                  have e3 : (r j).at = some ⟨g, 0, none⟩ := by unfold Row.at; rw [hgj]; rfl
                  rw [e3] at c0
                  have d0 : wr.cell? ⟨g, k, none⟩ = some (.int .u8 (255 - (c : Int))) := by
                    have ho := hI4.don j hlt3
                    unfold Row.val at ho
                    rw [e3] at ho
                    have : wr.cell? ⟨g, k, none⟩ = (bc ((r j).bs.map notb))[k]? := World.ownsRow.cellAt ho k (by omega)
                    rw [this, bc_get _ k (by rw [List.length_map]; exact hkl), List.getElem_map, notb_toNat, ← hcc]
                    congr 2
                    omega
                  have d1 : wr.cell? ⟨hb j, k, none⟩ = some (.int .u8 (c : Int)) := by
                    have := hI4.cop j hlt3 k hkl
                    rw [Nat.zero_add, ← hcc] at this
                    exact this
                  have hx := xor255 c hc256
                  have hne : ((255 - (c : Int)) != bits .xor .u8 (if IntKind.u8.signed = true then -1 else IntKind.u8.max) (c : Int)) = false := by rw [hx]; simp
                  have hbl := H2.out j hlt3
                  clear hI4 HI3 hcc hx hgj e3
                  go_wp2_with (fail)
                  go_quiet (fail)
                  go_wp2_with (fail)
                  exact ⟨⟨k + 1, by omega, by go_num, hz4, HI4.out.later hz4 (below_drewN (Below.refl _ _) _)⟩, by simp [intOf]; omega⟩
                · clear hI4 HI3
                  go_wp2_with (fail)
                  go_roundw
                  case rel => exact ⟨j + 1, by omega, by go_num, hz4, HI4.out⟩
                  case measure => simp [intOf]; omega
            · go_wp2_with (fail)
              go_ret
              exact ⟨rfl, HI3.out.bel, HI3.out.oth⟩

theorem apart_cap (n c : Nat) (hn : n ≤ 1000000) (w : World) (base G : Nat) (r : Nat → Row) (HL : ∀ k, k < n → w.cell? ⟨G, k, none⟩ = some (r k).val) (HO : ∀ k, k < n → w.ownsRow base 5 1 (r k).val (r k).bs.length (bc (r k).bs)) (HS : ∀ k, k < n → (r k).bs.length ≤ 140737488355328)
    (HD : ∀ i k, i < n → k < n → i ≠ k → (r i).g ≠ none → (r i).g ≠ (r k).g) (HG : ∀ k, k < n → (r k).g ≠ some G) (hbase : base ≤ w.heap.size) :
    Calls Try.prog 38 #[.slice (some ⟨G, 0, none⟩) n c] w fun e w' => e = .returned (.bool true) ∧ Below base w w' :=
  (apart_keeps n c hn w base G r HL HO HS HD HG hbase).mono fun _ _ ⟨h1, h2, _⟩ => ⟨h1, h2⟩

theorem apart_any (n : Nat) (hn : n ≤ 1000) (w : World) (base G : Nat) (r : Nat → Row) (HL : ∀ k, k < n → w.cell? ⟨G, k, none⟩ = some (r k).val) (HO : ∀ k, k < n → w.ownsRow base 5 1 (r k).val (r k).bs.length (bc (r k).bs)) (HS : ∀ k, k < n → (r k).bs.length ≤ 140737488355328)
    (HD : ∀ i k, i < n → k < n → i ≠ k → (r i).g ≠ none → (r i).g ≠ (r k).g) (HG : ∀ k, k < n → (r k).g ≠ some G) (hbase : base ≤ w.heap.size) :
    Calls Try.prog 38 #[.slice (some ⟨G, 0, none⟩) n n] w fun e w' => e = .returned (.bool true) ∧ Below base w w' :=
  apart_cap n n (by omega) w base G r HL HO HS HD HG hbase

/-- A list that the call owns, as a row. -/
def rowOf (v : Value) (l : List UInt8) : Row :=
  match v with
  | .slice (some a) _ cap => ⟨some a.block, cap, l⟩
  | .slice none _ cap => ⟨none, cap, l⟩
  | _ => ⟨none, 0, l⟩
theorem rowOf_bs (v : Value) (l : List UInt8) : (rowOf v l).bs = l := by
  unfold rowOf
  split <;> rfl
theorem rowOf_val {w : World} {base : Nat} {v : Value} {l : List UInt8} (h : w.ownsRow base 5 1 v l.length (bc l)) : (rowOf v l).val = v := by
  rcases h.2 with ⟨rfl, h0⟩ | ⟨g, cap, cur, rfl, _⟩
  · show Value.slice none l.length 0 = _
    rw [h0]
  · rfl
theorem rowOf_g {w : World} {base : Nat} {v : Value} {l : List UInt8} (h : w.ownsRow base 5 1 v l.length (bc l)) : (rowOf v l).g = v.ownBlock := by
  rcases h.2 with ⟨rfl, h0⟩ | ⟨g, cap, cur, rfl, _⟩ <;> rfl

/-- Where a list lies: in none of the blocks but those from one number on and below another. -/
def Lies (v : Value) (lo hi : Nat) : Prop := ∀ g, v.ownBlock = some g → lo ≤ g ∧ g < hi
theorem ext_lies {a b : World} {v : Value} {l : List UInt8} (h : Ext a.heap.size a (.slice none 0 0) b v l) : Lies v a.heap.size b.heap.size := fun g hg => h.own.lt g hg

/-- Values, one list of bytes each, that lie in blocks of their own. -/
theorem apart_vals_keeps (w : World) (base G c : Nat) (vs : List (Value × List UInt8)) (hn : vs.length ≤ 1000000) (HL : ∀ k (h : k < vs.length), w.cell? ⟨G, k, none⟩ = some (vs[k]).1) (HO : ∀ k (h : k < vs.length), w.ownsRow base 5 1 (vs[k]).1 (vs[k]).2.length (bc (vs[k]).2)) (HS : ∀ k (h : k < vs.length), (vs[k]).2.length ≤ 140737488355328)
    (HD : ∀ i k (hi : i < vs.length) (hk : k < vs.length), i < k → (vs[i]).1.ownBlock ≠ none → (vs[i]).1.ownBlock ≠ (vs[k]).1.ownBlock) (HG : ∀ k (h : k < vs.length), (vs[k]).1.ownBlock ≠ some G) (hbase : base ≤ w.heap.size) :
    Calls Try.prog 38 #[.slice (some ⟨G, 0, none⟩) vs.length c] w fun e w' => e = .returned (.bool true) ∧ Below base w w' ∧ ∀ i, i < w.heap.size → (∀ k (h : k < vs.length), (vs[k]).1.ownBlock ≠ some i) → w'.heap[i]? = w.heap[i]? := by
  obtain ⟨r, hr⟩ : ∃ r : Nat → Row, ∀ k (h : k < vs.length), r k = rowOf (vs[k]).1 (vs[k]).2 :=
    ⟨fun k => if h : k < vs.length then rowOf (vs[k]).1 (vs[k]).2 else ⟨none, 0, []⟩, fun k h => by simp [h]⟩
  refine (apart_keeps vs.length c hn w base G r ?_ ?_ ?_ ?_ ?_ hbase).mono fun _ _ hx => ⟨hx.1, hx.2.1, fun i hi hk => hx.2.2.2 i hi (fun k h => by rw [hr k h, rowOf_g (HO k h)]; exact hk k h)⟩
  · intro k h
    rw [hr k h, rowOf_val (HO k h)]
    exact HL k h
  · intro k h
    rw [hr k h, rowOf_val (HO k h), rowOf_bs]
    exact HO k h
  · intro k h
    rw [hr k h, rowOf_bs]
    exact HS k h
  · intro i k hi hk hne
    rw [hr i hi, hr k hk, rowOf_g (HO i hi), rowOf_g (HO k hk)]
    intro h0
    rcases Nat.lt_or_ge i k with h | h
    · exact HD i k hi hk h h0
    · intro e
      exact HD k i hk hi (by omega) (by rw [← e]; exact h0) e.symm
  · intro k h
    rw [hr k h, rowOf_g (HO k h)]
    exact HG k h

theorem apart_vals (w : World) (base G c : Nat) (vs : List (Value × List UInt8)) (hn : vs.length ≤ 1000000) (HL : ∀ k (h : k < vs.length), w.cell? ⟨G, k, none⟩ = some (vs[k]).1) (HO : ∀ k (h : k < vs.length), w.ownsRow base 5 1 (vs[k]).1 (vs[k]).2.length (bc (vs[k]).2)) (HS : ∀ k (h : k < vs.length), (vs[k]).2.length ≤ 140737488355328)
    (HD : ∀ i k (hi : i < vs.length) (hk : k < vs.length), i < k → (vs[i]).1.ownBlock ≠ none → (vs[i]).1.ownBlock ≠ (vs[k]).1.ownBlock) (HG : ∀ k (h : k < vs.length), (vs[k]).1.ownBlock ≠ some G) (hbase : base ≤ w.heap.size) :
    Calls Try.prog 38 #[.slice (some ⟨G, 0, none⟩) vs.length c] w fun e w' => e = .returned (.bool true) ∧ Below base w w' :=
  (apart_vals_keeps w base G c vs hn HL HO HS HD HG hbase).mono fun _ _ ⟨h1, h2, _⟩ => ⟨h1, h2⟩
end Go.Proofs.Ytanhmebjfockjaa
