/-
  The document's own reading of one entry.
-/
import Derived.Test.YtanhmebjfockjaaBRefP
import Derived.Test.YtanhmebjfockjaaBRefE
import Derived.Test.YtanhmebjfockjaaBRd2
import Derived.Laws.ResultCell
import Derived.Laws.Rows
namespace Go.Proofs.Ytanhmebjfockjaa
open Go.RowKit

theorem bytes_rest {w : World} {ao : Option Addr} {n c : Nat} {b : List UInt8} (h : BytesIn w (.slice ao n c) b) (lo m : Nat) (hm : m = n - lo) : BytesIn w (.slice (ao.map fun x => x.add lo) m (c - lo)) (b.drop lo) := by
  obtain ⟨⟨a', c', e, hf⟩, hl⟩ := h
  cases e
  subst hm
  refine ⟨⟨_, _, by rw [List.length_drop], fun h0 => ?_⟩, by rw [List.length_drop]; omega⟩
  obtain ⟨bl, off, e, hat⟩ := hf (fun e => h0 (by rw [e]; simp))
  subst e
  have hadd : (⟨bl, off, none⟩ : Addr).add lo = ⟨bl, off + lo, none⟩ := by unfold Addr.add; split <;> simp_all
  refine ⟨bl, off + lo, by show some (Addr.add _ _) = _; rw [hadd], fun j hj => ?_⟩
  rw [List.length_drop] at hj
  have := hat (lo + j) (by omega)
  rw [Nat.add_assoc, this, List.getElem_drop]
theorem bytes_part {w : World} {ao : Option Addr} {n c : Nat} {b : List UInt8} (h : BytesIn w (.slice ao n c) b) (lo m k : Nat) (hn : lo + m ≤ b.length) : BytesIn w (.slice (ao.map fun x => x.add lo) m k) ((b.drop lo).take m) := by
  obtain ⟨⟨a', c', e, hf⟩, hl⟩ := h
  cases e
  have hln : ((b.drop lo).take m).length = m := by rw [List.length_take, List.length_drop]; omega
  refine ⟨⟨_, k, by rw [hln], fun h0 => ?_⟩, by omega⟩
  obtain ⟨bl, off, e, hat⟩ := hf (fun e => h0 (by rw [e]; simp))
  subst e
  have hadd : (⟨bl, off, none⟩ : Addr).add lo = ⟨bl, off + lo, none⟩ := by unfold Addr.add; split <;> simp_all
  refine ⟨bl, off + lo, by show some (Addr.add _ _) = _; rw [hadd], fun j hj => ?_⟩
  rw [hln] at hj
  have := hat (lo + j) (by omega)
  rw [Nat.add_assoc, this, List.getElem_take, List.getElem_drop]
theorem sm_err (l : List UInt8) (most : Int) : Enc.smE l most = 0 ∨ Enc.smE l most = 5 ∧ Enc.smX l most = 0 ∧ Enc.smN l most = 0 := by
  unfold Enc.smE Enc.smX Enc.smN
  split
  · exact .inl rfl
  · exact .inr ⟨rfl, rfl, rfl⟩
theorem sm_none (most : Int) : Enc.smE [] most = 5 := by
  unfold Enc.smE
  rw [if_neg]
  rintro ⟨h, _⟩
  have := (Enc.rd_made [] h).2
  have h2 := (Enc.rd_made [] h).1
  rw [List.take_nil] at h2
  have := Enc.leb_pos (Enc.rd []).1
  rw [← h2] at this
  simp at this
theorem sm_nat (l : List UInt8) (most : Nat) : ∃ X N : Nat, Enc.smX l most = (X : Int) ∧ Enc.smN l most = (N : Int) ∧ X ≤ most ∧ N ≤ l.length := by
  have h1 := Bk.smN_le l most
  refine ⟨(Enc.smX l most).toNat, (Enc.smN l most).toNat, ?_, ?_, ?_, h1⟩
  · exact (Int.toNat_of_nonneg (by unfold Enc.smX; split <;> omega)).symm
  · exact (Int.toNat_of_nonneg (by unfold Enc.smN; split <;> omega)).symm
  · unfold Enc.smX; split <;> omega
/-- The answer of the document's entry: nothing, or an entry and where the next one begins. -/
def entR (a b : List UInt8) (lo : Nat) (x : Mm.Ent) (r : Int) : Prop :=
  (Bk.pe a (b.drop lo) = none ∧ r = -1) ∨ ∃ hi, Bk.pe a (b.drop lo) = some (x, b.drop hi) ∧ hi ≤ b.length ∧ r = (hi : Int)
abbrev zE : Obj := .cells #[str [], str [], .int .i64 0, .bool false] 38 (0, 0)
theorem zE_cells {w : World} {T : Nat} {k v : List UInt8} {s : Int} {d : Bool} (h : w.heap[T]? = some (.cells #[str k, str v, .int .i64 s, .bool d] 38 (0, 0))) :
    (w.cell? ⟨T, 0, none⟩ = some (str k) ∧ w.cell? ⟨T, 1, none⟩ = some (str v) ∧ w.cell? ⟨T, 2, none⟩ = some (.int .i64 s) ∧ w.cell? ⟨T, 3, none⟩ = some (.bool d)) ∧ w.frozen? ⟨T, 0, none⟩ = false ∧ w.frozen? ⟨T, 1, none⟩ = false ∧ w.frozen? ⟨T, 2, none⟩ = false ∧ w.frozen? ⟨T, 3, none⟩ = false :=
  ⟨⟨Joins.cell_of_block h 0, Joins.cell_of_block h 1, Joins.cell_of_block h 2, Joins.cell_of_block h 3⟩, Joins.unfrozen_of_block h 0, Joins.unfrozen_of_block h 1, Joins.unfrozen_of_block h 2, Joins.unfrozen_of_block h 3⟩

/-- An entry put into a block. -/
abbrev putX (w : World) (T : Nat) (x : Mm.Ent) : World := (((w.setCell ⟨T, 0, none⟩ (str x.key)).setCell ⟨T, 1, none⟩ (str x.value)).setCell ⟨T, 2, none⟩ (.int .i64 x.seq)).setCell ⟨T, 3, none⟩ (.bool x.del)
abbrev xO (x : Mm.Ent) : Obj := .cells #[str x.key, str x.value, .int .i64 x.seq, .bool x.del] 38 (0, 0)
theorem putX_heap {w : World} {T : Nat} {y : Mm.Ent} (h : w.heap[T]? = some (xO y)) (x : Mm.Ent) : (putX w T x).heap[T]? = some (xO x) :=
  (Joins.block_setCell (Joins.block_setCell (Joins.block_setCell (Joins.block_setCell h (i := 0) (str x.key)) (i := 1) (str x.value)) (i := 2) (.int .i64 x.seq)) (i := 3) (.bool x.del)).trans rfl
theorem putX_moved (w : World) (T : Nat) (x : Mm.Ent) : Moved (fun i => i = T) w (putX w T x) := by
  have m1 : ∀ (v : World) (i : Nat) (u : Value), Moved (fun j => j = T) v (v.setCell ⟨T, i, none⟩ u) := fun v i u => Moved.setCell (S := fun j => j = T) (Moved.refl _ v) (p := ⟨T, i, none⟩) (fun _ => rfl) u
  exact (((m1 w _ _).trans (m1 _ _ _) (fun _ _ h => h)).trans (m1 _ _ _) (fun _ _ h => h)).trans (m1 _ _ _) (fun _ _ h => h)
theorem putX_below {w wx : World} (b : Below w.heap.size w wx) (T : Nat) (hT : w.heap.size ≤ T) (x : Mm.Ent) : Below w.heap.size w (putX wx T x) :=
  b.trans ((putX_moved wx T x).under b.size (fun i hi => by omega))
theorem infoES : (Try.prog.info? 38).map (·.size) = some 4 := by kernel_rfl
theorem ret_entry {tmps : Array Value} {w : World} {T : Nat} {x : Mm.Ent} {r : Int} (hp : tmps.getD 6 undef = .pointer (some ⟨T, 0, none⟩)) (hr : tmps.getD 7 undef = .int .i64 r) (hg : w.heap[T]? = some (xO x)) :
    (results Try.f79 tmps).run Try.prog w = .ok (.tuple #[entV x, .int .i64 r]) w := by
  rw [results_cell_tmp (fn := Try.f79) (p := 6) (u := 7) (ty := 38) rfl tmps Try.prog w, hp, hr]
  simp only [asAddr, Sem.run_pure, Result.andThen_ok]
  rw [run_loadVar_row w T 38 38 _ (0, 0) _ hg Try.underlying38 rfl infoES]
  rfl

set_option maxRecDepth 100000 in
set_option maxHeartbeats 800000 in
theorem rentry_none (w : World) (ao : Option Addr) (c n : Nat) (b a : List UInt8) (lo : Nat) (h : BytesIn w (.slice ao n c) b) (hn : n = b.length) (hcap : n ≤ c) (hlo : lo ≤ n) (_hlen : n ≤ 1000000000) (ha : a.length ≤ 1000000) (he : ¬ Enc.smE (b.drop lo) a.length = 0) :
    Calls Try.prog 79 #[.slice ao n c, .int .i64 (lo : Int), str a] w fun e w' => ∃ x r, e = .returned (.tuple #[entV x, .int .i64 r]) ∧ Hid (entR a b lo x r) ∧ Below w.heap.size w w' := by
  have B0 : Below w.heap.size w (w.alloc zE) := (Below.refl _ _).alloc (Nat.le_refl _) _
  have Z0 : Hid _ := World.alloc_heap_new w zE
  have HR : Hid (∀ x, entR a b lo x (-1)) := fun x => .inl ⟨by unfold Bk.pe; rw [if_neg (fun hc => he hc.1)], rfl⟩
  have hq := (sm_err (b.drop lo) a.length).resolve_left he
  have SM : Hid (∀ v, BytesIn (w.alloc zE) v (b.drop lo) → Calls Try.prog 78 #[v, .int .i64 (a.length : Int)] (w.alloc zE) fun e w' => e = .returned (.tuple #[.int .i64 0, .int .i64 0, .int .i64 5]) ∧ Below (w.alloc zE).heap.size (w.alloc zE) w') := fun v hv => by
    have := Enc.refSmall_any (w.alloc zE) v (b.drop lo) a.length (by omega) (by omega) hv
    rw [hq.1, hq.2.1, hq.2.2] at this
    exact this
  have R1 : Hid _ := bytes_rest (h.later B0) lo _ rfl
  have R2 : Hid (c = lo → ∀ m k, m = 0 → BytesIn (w.alloc zE) (.slice ao m k) (b.drop lo)) := fun e m k hm => rest_none _ ao b lo m hm k (by omega)
  have k1 : (lo : Int) ≤ (n : Int) := by omega
  have k2 : (n : Int) ≤ (c : Int) := by omega
  have k3 : (lo : Int) ≤ (c : Int) := by omega
  clear he hq h hn
  by_cases k4 : c = lo
  · have Q1 := hide (R2.out k4)
    clear R1 R2
    go_enter Try.func79, Try.ntmps79
    go_wp2_with (first
      | (go_at_call 78; refine (SM.out _ (Q1.out _ _ (by omega))).mono ?_; rintro e w1 ⟨rfl, b1⟩; have Z1 := hide (keepB b1 Z0.out); obtain ⟨⟨c0, c1, c2, c3⟩, f0, f1, f2, f3⟩ := zE_cells Z1.out; clear SM))
    have G1 := putX_heap (y := ⟨[], [], 0, false⟩) Z1.out ⟨[], [], 0, false⟩
    have L1 := putX_below (B0.trans (b1.mono B0.size)) w.heap.size (Nat.le_refl _) ⟨[], [], 0, false⟩
    refine bodyPost_ret (v := .tuple #[entV ⟨[], [], 0, false⟩, .int .i64 (-1)]) ?_ rfl ⟨⟨[], [], 0, false⟩, -1, rfl, HR.out _, L1⟩
    exact ret_entry (T := w.heap.size) (x := ⟨[], [], 0, false⟩) rfl rfl G1
  · clear R2
    go_enter Try.func79, Try.ntmps79
    go_wp2_with (first
      | (go_at_call 78; refine (SM.out _ R1.out).mono ?_; rintro e w1 ⟨rfl, b1⟩; have Z1 := hide (keepB b1 Z0.out); obtain ⟨⟨c0, c1, c2, c3⟩, f0, f1, f2, f3⟩ := zE_cells Z1.out; clear SM))
    have G1 := putX_heap (y := ⟨[], [], 0, false⟩) Z1.out ⟨[], [], 0, false⟩
    have L1 := putX_below (B0.trans (b1.mono B0.size)) w.heap.size (Nat.le_refl _) ⟨[], [], 0, false⟩
    refine bodyPost_ret (v := .tuple #[entV ⟨[], [], 0, false⟩, .int .i64 (-1)]) ?_ rfl ⟨⟨[], [], 0, false⟩, -1, rfl, HR.out _, L1⟩
    exact ret_entry (T := w.heap.size) (x := ⟨[], [], 0, false⟩) rfl rfl G1
end Go.Proofs.Ytanhmebjfockjaa
