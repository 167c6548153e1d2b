/-
  The walk of MemNil: each call of a table that nobody made is refused.
-/
import Derived.Test.YtgfkchdlhknecaaMNil
namespace Go.Proofs.Ytgfkchdlhknecaa.memNil
open Go.RowKit

abbrev askO (k lo hi : Mm.Bs) (s ln : Int) : Obj := .cells #[str k, .int .i64 s, str lo, str hi, .int .i64 ln] 60
abbrev zeroT : Obj := .cells #[.pointer none, .slice none 0 0, .pointer none, .int .i64 0, .int .i64 0] 63
abbrev start (w : World) (x : Mm.Ent) (k lo hi : Mm.Bs) (s ln : Int) : World := (((w.alloc (entO x)).alloc (askO k lo hi s ln)).alloc zeroT).alloc (.cells #[.pointer none, .pointer (some ⟨w.heap.size + 1 + 1, 0, none⟩)] 22)

abbrev zeroE : Obj := .cells #[.string ⟨#[]⟩, .string ⟨#[]⟩, .int .i64 0, .bool false] 26
theorem start_cells (w : World) (x : Mm.Ent) (k lo hi : Mm.Bs) (s ln : Int) : (start w x k lo hi s ln).heap[w.heap.size]? = some (entO x) ∧ (start w x k lo hi s ln).heap[w.heap.size + 1]? = some (askO k lo hi s ln) ∧ (start w x k lo hi s ln).heap[w.heap.size + 1 + 1]? = some zeroT ∧ (start w x k lo hi s ln).heap[w.heap.size + 1 + 1 + 1]? = some (.cells #[.pointer none, .pointer (some ⟨w.heap.size + 1 + 1, 0, none⟩)] 22) := by
  obtain ⟨a1, a2, _⟩ := two_new w (entO x) (askO k lo hi s ln)
  obtain ⟨a3, a4, a5⟩ := two_new ((w.alloc (entO x)).alloc (askO k lo hi s ln)) zeroT (.cells #[.pointer none, .pointer (some ⟨w.heap.size + 1 + 1, 0, none⟩)] 22)
  rw [World.size_alloc, World.size_alloc] at a3 a4
  exact ⟨keepB a5 a1, keepB a5 a2, a3, a4⟩

set_option maxRecDepth 100000 in
set_option maxHeartbeats 8000000 in
theorem walk (w : World) (x : Mm.Ent) (k lo hi : Mm.Bs) (s ln : Int) : Calls Try.prog 5 #[entV x, .agg #[str k, .int .i64 s, str lo, str hi, .int .i64 ln]] w fun e w' => e = .returned (.bool true) ∧ Below w.heap.size w w' := by
  have LV := hide mlives_any
  obtain ⟨S0, S1, S2, S3⟩ := start_cells w x k lo hi s ln
  have B0 : Below w.heap.size w (start w x k lo hi s ln) := ((((Below.refl _ _).alloc (Nat.le_refl _) _).alloc (by simp) _).alloc (by simp; omega) _).alloc (by simp; omega) _
  have HC : Hid (∀ wx, Below (start w x k lo hi s ln).heap.size (start w x k lo hi s ln) wx → (wx.cell? ⟨w.heap.size, 0, none⟩ = some (str x.key) ∧ wx.cell? ⟨w.heap.size, 1, none⟩ = some (str x.value) ∧ wx.cell? ⟨w.heap.size, 2, none⟩ = some (.int .i64 x.seq) ∧ wx.cell? ⟨w.heap.size, 3, none⟩ = some (.bool x.del)) ∧ wx.cell? ⟨w.heap.size + 1, 0, none⟩ = some (str k) ∧ wx.cell? ⟨w.heap.size + 1, 1, none⟩ = some (.int .i64 s) ∧ wx.cell? ⟨w.heap.size + 1, 2, none⟩ = some (str lo) ∧ wx.cell? ⟨w.heap.size + 1, 3, none⟩ = some (str hi) ∧ wx.cell? ⟨w.heap.size + 1, 4, none⟩ = some (.int .i64 ln)) := fun wx hw => by
    have hb := keepB hw S1
    exact ⟨ent_cells (keepB hw S0), Joins.cell_of_block hb 0, Joins.cell_of_block hb 1, Joins.cell_of_block hb 2, Joins.cell_of_block hb 3, Joins.cell_of_block hb 4⟩
  have HN1 : Hid (∀ wx, Below (start w x k lo hi s ln).heap.size (start w x k lo hi s ln) wx → NoTab wx (.pointer (some ⟨w.heap.size + 1 + 1, 0, none⟩))) := fun wx hw => .inr ⟨_, rfl, Joins.cell_of_block (keepB hw S2) 0⟩
  have HL : Hid (∀ wx, Below (start w x k lo hi s ln).heap.size (start w x k lo hi s ln) wx → wx.cell? ⟨w.heap.size + 1 + 1 + 1, 0, none⟩ = some (.pointer none) ∧ wx.cell? ⟨w.heap.size + 1 + 1 + 1, 1, none⟩ = some (.pointer (some ⟨w.heap.size + 1 + 1, 0, none⟩))) := fun wx hw => ⟨Joins.cell_of_block (keepB hw S3) 0, Joins.cell_of_block (keepB hw S3) 1⟩
  clear S0 S1 S2 S3
  go_enter Try.func5, Try.ntmps5
  go_wp2_with (fail)
  go_loopw [6] (fun i wr => ∃ j : Nat, j ≤ 2 ∧ i = .int .i64 j ∧ Below (start w x k lo hi s ln).heap.size (start w x k lo hi s ln) wr) (fun i _ => 2 - (intOf i).toNat)
  case atStart => exact ⟨0, by omega, rfl, Below.refl _ _⟩
  case round =>
    obtain ⟨j, hj, rfl, BL⟩ := hrel
    obtain ⟨_, c0, c1, c2, c3, c4⟩ := HC.out _ BL
    obtain ⟨l0, l1⟩ := HL.out _ BL
    match j, hj with
    | 0, _ =>
      have HN : Hid (∀ wx, Below (start w x k lo hi s ln).heap.size (start w x k lo hi s ln) wx → NoTab wx (.pointer none)) := fun _ _ => .inl rfl
      have nf := HN.out _ BL
      clear HN1 HL LV l1
      go_wp2_with (first
        | (go_at_call 11; refine (no_get nf _ _).mono ?_; rintro e w1 ⟨rfl, b1⟩; have B1 := BL.trans (b1.mono BL.size); have B1' := fun o => B1.alloc B1.size o; have p1 := fun o => (HC.out _ (B1' o)).1.1; have p2 := fun o => (HC.out _ (B1' o)).1.2.1; have p3 := fun o => (HC.out _ (B1' o)).1.2.2.1; have p4 := fun o => (HC.out _ (B1' o)).1.2.2.2; have yb := World.alloc_heap_new w1 zeroE; have nf1 := fun o => HN.out _ (B1' o); clear nf BL c0 c1 c2 c3 c4)
        | (go_at_call 16; refine (no_add (nf1 _) x).mono ?_; rintro e w2 ⟨rfl, b2⟩; have B2 := (B1' _).trans (b2.mono (B1' _).size); have yb2 := keepB b2 yb; have y0 := Joins.cell_of_block yb2 0; have y1 := Joins.cell_of_block yb2 1; have y2 := Joins.cell_of_block yb2 2; have y3 := Joins.cell_of_block yb2 3; have nf := HN.out _ B2; obtain ⟨_, c0, c1, c2, c3, c4⟩ := HC.out _ B2; clear nf1 B1 B1' p1 p2 p3 p4 yb yb2)
        | (go_at_call 30; refine (no_scan nf _ _ _).mono ?_; rintro e w3 ⟨rfl, b3⟩; have B3 := B2.trans (b3.mono B2.size); have nf' := HN.out _ B3; clear nf; have nf := nf'; clear nf' c0 c1 c2 c3 c4 y0 y1 y2 y3; obtain ⟨_, c0, c1, c2, c3, c4⟩ := HC.out _ B3)
        | (go_at_call 17; refine still (no_len nf) ?_)
        | (go_at_call 18; refine still (no_size nf) ?_)
        | (go_at_call 14; refine (no_lane nf _).mono ?_; rintro e w4 ⟨rfl, b4⟩; have B4 := B3.trans (b4.mono B3.size); have nf' := HN.out _ B4; clear nf; have nf := nf'; clear nf' c0 c1 c2 c3 c4; obtain ⟨_, c0, c1, c2, c3, c4⟩ := HC.out _ B4)
        | (go_at_call 15; refine still (no_cost nf _ _) ?_)
        | (go_at_call 32; refine (list_none nf _).mono ?_; rintro e w5 ⟨rfl, b5⟩; have B5 := B4.trans (b5.mono B4.size)))
      exact ⟨⟨1, by omega, rfl, B5⟩, by simp [intOf]⟩
    | 1, _ =>
      have HN := HN1
      have nf := HN.out _ BL
      clear HN1 HL LV l0
      go_wp2_with (first
        | (go_at_call 11; refine (no_get nf _ _).mono ?_; rintro e w1 ⟨rfl, b1⟩; have B1 := BL.trans (b1.mono BL.size); have B1' := fun o => B1.alloc B1.size o; have p1 := fun o => (HC.out _ (B1' o)).1.1; have p2 := fun o => (HC.out _ (B1' o)).1.2.1; have p3 := fun o => (HC.out _ (B1' o)).1.2.2.1; have p4 := fun o => (HC.out _ (B1' o)).1.2.2.2; have yb := World.alloc_heap_new w1 zeroE; have nf1 := fun o => HN.out _ (B1' o); clear nf BL c0 c1 c2 c3 c4)
        | (go_at_call 16; refine (no_add (nf1 _) x).mono ?_; rintro e w2 ⟨rfl, b2⟩; have B2 := (B1' _).trans (b2.mono (B1' _).size); have yb2 := keepB b2 yb; have y0 := Joins.cell_of_block yb2 0; have y1 := Joins.cell_of_block yb2 1; have y2 := Joins.cell_of_block yb2 2; have y3 := Joins.cell_of_block yb2 3; have nf := HN.out _ B2; obtain ⟨_, c0, c1, c2, c3, c4⟩ := HC.out _ B2; clear nf1 B1 B1' p1 p2 p3 p4 yb yb2)
        | (go_at_call 30; refine (no_scan nf _ _ _).mono ?_; rintro e w3 ⟨rfl, b3⟩; have B3 := B2.trans (b3.mono B2.size); have nf' := HN.out _ B3; clear nf; have nf := nf'; clear nf' c0 c1 c2 c3 c4 y0 y1 y2 y3; obtain ⟨_, c0, c1, c2, c3, c4⟩ := HC.out _ B3)
        | (go_at_call 17; refine still (no_len nf) ?_)
        | (go_at_call 18; refine still (no_size nf) ?_)
        | (go_at_call 14; refine (no_lane nf _).mono ?_; rintro e w4 ⟨rfl, b4⟩; have B4 := B3.trans (b4.mono B3.size); have nf' := HN.out _ B4; clear nf; have nf := nf'; clear nf' c0 c1 c2 c3 c4; obtain ⟨_, c0, c1, c2, c3, c4⟩ := HC.out _ B4)
        | (go_at_call 15; refine still (no_cost nf _ _) ?_)
        | (go_at_call 32; refine (list_none nf _).mono ?_; rintro e w5 ⟨rfl, b5⟩; have B5 := B4.trans (b5.mono B4.size)))
      exact ⟨⟨2, by omega, rfl, B5⟩, by simp [intOf]⟩
    | 2, _ =>
      clear HN1 HL l0 l1 HC c0 c1 c2 c3 c4
      go_wp2_with (first
        | (go_at_call 10; refine (LV.out _).mono ?_; rintro e w9 ⟨rfl, b9⟩))
      go_ret
      have B1 := B0.trans (BL.mono B0.size)
      exact ⟨rfl, B1.trans (b9.mono B1.size)⟩
end Go.Proofs.Ytgfkchdlhknecaa.memNil
