/-
  The walk of SstNil: each call of a table that nobody made is refused.
-/
import Derived.Test.YteccbddpgenpkaaSNil
import Derived.Test.YteccbddpgenpkaaSLives
namespace Go.Proofs.Yteccbddpgenpkaa.sstNil
open Go.RowKit

abbrev askO (q : Int) (k : List UInt8) (s : Int) (lo hi : List UInt8) : Obj := .cells #[.int .i64 q, str k, .int .i64 s, str lo, str hi] 43
abbrev zeroT : Obj := .cells #[.pointer none, .slice none 0 0, .slice none 0 0, .slice none 0 0, .int .i64 0, .int .i64 0] 46
abbrev start (w : World) (q : Int) (k : List UInt8) (s : Int) (lo hi : List UInt8) : World := ((w.alloc (askO q k s lo hi)).alloc zeroT).alloc (.cells #[.pointer none, .pointer (some ⟨w.heap.size + 1, 0, none⟩)] 28)
theorem start_cells (w : World) (q : Int) (k : List UInt8) (s : Int) (lo hi : List UInt8) : (start w q k s lo hi).heap[w.heap.size]? = some (askO q k s lo hi) ∧ (start w q k s lo hi).heap[w.heap.size + 1]? = some zeroT ∧ (start w q k s lo hi).heap[w.heap.size + 1 + 1]? = some (.cells #[.pointer none, .pointer (some ⟨w.heap.size + 1, 0, none⟩)] 28) := by
  have a1 := World.alloc_heap_new w (askO q k s lo hi)
  have a2 := World.alloc_heap_new (w.alloc (askO q k s lo hi)) zeroT
  have a3 := World.alloc_heap_new ((w.alloc (askO q k s lo hi)).alloc zeroT) (.cells #[.pointer none, .pointer (some ⟨w.heap.size + 1, 0, none⟩)] 28)
  rw [World.size_alloc] at a2 a3
  rw [World.size_alloc] at a3
  exact ⟨(Below.heap_alloc _ _ _ (by simp; omega)).trans ((Below.heap_alloc _ _ _ (by simp)).trans a1), (Below.heap_alloc _ _ _ (by simp)).trans a2, a3⟩

set_option maxRecDepth 100000 in
set_option maxHeartbeats 8000000 in
theorem walk (w : World) (q : Int) (k : List UInt8) (s : Int) (lo hi : List UInt8) : Calls Try.prog 4 #[.agg #[.int .i64 q, str k, .int .i64 s, str lo, str hi]] w fun e w' => e = .returned (.bool true) ∧ Below w.heap.size w w' := by
  have LV := hide slives_any
  obtain ⟨S0, S1, S2⟩ := start_cells w q k s lo hi
  have B0 : Below w.heap.size w (start w q k s lo hi) := (((Below.refl _ _).alloc (Nat.le_refl _) _).alloc (by simp) _).alloc (by simp; omega) _
  have HC : Hid (∀ wx, Below (start w q k s lo hi).heap.size (start w q k s lo hi) wx → wx.cell? ⟨w.heap.size, 1, none⟩ = some (str k) ∧ wx.cell? ⟨w.heap.size, 2, none⟩ = some (.int .i64 s) ∧ wx.cell? ⟨w.heap.size, 3, none⟩ = some (str lo) ∧ wx.cell? ⟨w.heap.size, 4, none⟩ = some (str hi)) := fun wx hw => by
    have hb := keepB hw S0
    exact ⟨Joins.cell_of_block hb 1, Joins.cell_of_block hb 2, Joins.cell_of_block hb 3, Joins.cell_of_block hb 4⟩
  have HN1 : Hid (∀ wx, Below (start w q k s lo hi).heap.size (start w q k s lo hi) wx → NoT wx (.pointer (some ⟨w.heap.size + 1, 0, none⟩))) := fun wx hw => .inr ⟨_, rfl, Joins.cell_of_block (keepB hw S1) 0⟩
  have HL : Hid (∀ wx, Below (start w q k s lo hi).heap.size (start w q k s lo hi) wx → wx.cell? ⟨w.heap.size + 1 + 1, 0, none⟩ = some (.pointer none) ∧ wx.cell? ⟨w.heap.size + 1 + 1, 1, none⟩ = some (.pointer (some ⟨w.heap.size + 1, 0, none⟩))) := fun wx hw => ⟨Joins.cell_of_block (keepB hw S2) 0, Joins.cell_of_block (keepB hw S2) 1⟩
  clear S0 S1 S2
  go_enter Try.func4, Try.ntmps4
  go_wp2_with (fail)
  go_loopw [4] (fun i wr => ∃ j : Nat, j ≤ 2 ∧ i = .int .i64 j ∧ Below (start w q k s lo hi).heap.size (start w q k s lo hi) wr) (fun i _ => 2 - (intOf i).toNat)
  case atStart => exact ⟨0, by omega, rfl, Below.refl _ _⟩
  case round =>
    obtain ⟨j, hj, rfl, BL⟩ := hrel
    obtain ⟨c1, c2, c3, c4⟩ := HC.out _ BL
    obtain ⟨l0, l1⟩ := HL.out _ BL
    have zr := BL.size
    match j, hj with
    | 0, _ =>
      have HN : Hid (∀ wx, Below (start w q k s lo hi).heap.size (start w q k s lo hi) wx → NoT wx (.pointer none)) := fun _ _ => .inl rfl
      have nf := HN.out _ BL
      clear HN1 HL LV l1
      go_wp2_with (first
        | (go_at_call 11; refine (sno_get nf _ _).mono ?_; rintro e w1 ⟨rfl, b1⟩; have B1 := BL.trans (b1.mono BL.size); have B1' := fun o => B1.alloc B1.size o; have yb := World.alloc_heap_new w1 (eO ⟨[], [], 0, false⟩); have nf1 := hide (fun o => HN.out _ (B1' o)); clear nf c1 c2 c3 c4; have p3 := fun o => (HC.out _ (B1' o)).2.2.1; have p4 := fun o => (HC.out _ (B1' o)).2.2.2)
        | (go_at_call 13; refine (sno_scan (nf1.out _) _ _).mono ?_; rintro e w2 ⟨rfl, b2⟩; have B2 := (B1' _).trans (b2.mono (B1' _).size); have yb2 := keepB b2 yb; have nf := HN.out _ B2; clear nf1 p3 p4)
        | (go_at_call 15; refine (sno_all nf).mono ?_; rintro e w3 ⟨rfl, b3⟩; have B3 := B2.trans (b3.mono B2.size); have nf3 := HN.out _ B3; have yb3 := keepB b3 yb2; obtain ⟨y0, y1, y2, y3, _⟩ := slot4 yb3; clear nf)
        | (go_at_call 16; refine still (sno_len nf3) ?_)
        | (go_at_call 17; refine still (sno_blocks nf3) ?_)
        | (go_at_call 18; refine still (sno_last nf3) ?_)
        | (go_at_call 12; refine still (sno_reads nf3) ?_))
      exact ⟨⟨1, by omega, rfl, B3⟩, by simp [intOf]⟩
    | 1, _ =>
      have HN := HN1
      have nf := HN.out _ BL
      clear HN1 HL LV l0
      go_wp2_with (first
        | (go_at_call 11; refine (sno_get nf _ _).mono ?_; rintro e w1 ⟨rfl, b1⟩; have B1 := BL.trans (b1.mono BL.size); have B1' := fun o => B1.alloc B1.size o; have yb := World.alloc_heap_new w1 (eO ⟨[], [], 0, false⟩); have nf1 := hide (fun o => HN.out _ (B1' o)); clear nf c1 c2 c3 c4; have p3 := fun o => (HC.out _ (B1' o)).2.2.1; have p4 := fun o => (HC.out _ (B1' o)).2.2.2)
        | (go_at_call 13; refine (sno_scan (nf1.out _) _ _).mono ?_; rintro e w2 ⟨rfl, b2⟩; have B2 := (B1' _).trans (b2.mono (B1' _).size); have yb2 := keepB b2 yb; have nf := HN.out _ B2; clear nf1 p3 p4)
        | (go_at_call 15; refine (sno_all nf).mono ?_; rintro e w3 ⟨rfl, b3⟩; have B3 := B2.trans (b3.mono B2.size); have nf3 := HN.out _ B3; have yb3 := keepB b3 yb2; obtain ⟨y0, y1, y2, y3, _⟩ := slot4 yb3; clear nf)
        | (go_at_call 16; refine still (sno_len nf3) ?_)
        | (go_at_call 17; refine still (sno_blocks nf3) ?_)
        | (go_at_call 18; refine still (sno_last nf3) ?_)
        | (go_at_call 12; refine still (sno_reads nf3) ?_))
      exact ⟨⟨2, by omega, rfl, B3⟩, by simp [intOf]⟩
    | 2, _ =>
      clear HN1 HL l0 l1 HC c1 c2 c3 c4
      go_wp2_with (first
        | (go_at_call 10; refine (LV.out _).mono ?_; rintro e w9 ⟨rfl, b9⟩))
      go_ret
      have B1 := B0.trans (BL.mono B0.size)
      exact ⟨rfl, B1.trans (b9.mono B1.size)⟩
end Go.Proofs.Yteccbddpgenpkaa.sstNil
