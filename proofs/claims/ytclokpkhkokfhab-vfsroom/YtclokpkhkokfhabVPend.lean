/-
  The list of pending steps: where each lies, one put over an older one, the end made empty.
-/
import Derived.Test.YtclokpkhkokfhabVKeep
namespace Go.Proofs.Ytclokpkhkokfhab
open Go.RowKit Go.Maps

theorem infoS : (Try.prog.info? 55).map (fun i => (i.zero, i.size, i.bytes)) = some (some (.agg #[.int .i64 0, .int .i64 0, .int .i64 0, .string ⟨#[]⟩, .string ⟨#[]⟩]), 5, 56) := by kernel_rfl
theorem zeroSt (w : World) : (zeroValue 55).run Try.prog w = .ok (.agg #[.int .i64 0, .int .i64 0, .int .i64 0, .string ⟨#[]⟩, .string ⟨#[]⟩]) w := by kernel_rfl

/-- Block g begins with these steps. -/
def StepsAt (w : World) (g cap : Nat) (l : List Vf.Step) : Prop := ∃ cur : Array Value, w.heap[g]? = some (.cells cur 55 (0, 0)) ∧ cur.size = cap * 5 ∧ l.length ≤ cap ∧ cap ≤ maxLen ∧ cur.toList.take (l.length * 5) = scs l

theorem steps_of_row {w : World} {base g n cap : Nat} {l : List Vf.Step} (h : w.ownsRow base 55 5 (.slice (some ⟨g, 0, none⟩) n cap) n (scs l)) (hn : n = l.length) : StepsAt w g cap l := by
  subst hn
  rcases h.2 with ⟨e, _⟩ | ⟨g', cap', cur, e, _, hb, hnc, hcm, hcs, ht⟩
  · cases e
  · simp only [Value.slice.injEq, Option.some.injEq, Addr.mk.injEq, and_true, true_and] at e
    obtain ⟨rfl, rfl⟩ := e
    exact ⟨cur, hb, hcs, hnc, hcm, ht⟩
theorem row_of_steps {w : World} {g cap n : Nat} {l : List Vf.Step} (h : StepsAt w g cap l) (hn : n = l.length) : w.ownsRow 0 55 5 (.slice (some ⟨g, 0, none⟩) n cap) n (scs l) := by
  subst hn
  obtain ⟨cur, hb, hcs, hnc, hcm, ht⟩ := h
  exact ⟨scs_length l, .inr ⟨g, cap, cur, rfl, Nat.zero_le _, hb, hnc, hcm, hcs, ht⟩⟩
theorem StepsAt.take {w : World} {g cap : Nat} {l : List Vf.Step} (h : StepsAt w g cap l) (r : Nat) : StepsAt w g cap (l.take r) := by
  obtain ⟨cur, hb, hcs, hnc, hcm, ht⟩ := h
  have hl := List.length_take_le' r l
  refine ⟨cur, hb, hcs, by omega, hcm, ?_⟩
  have e : scs l = scs (l.take r) ++ scs (l.drop r) := by rw [← scs_append, List.take_append_drop]
  have := congrArg (List.take ((l.take r).length * 5)) ht
  rw [List.take_take, Nat.min_eq_left (by omega)] at this
  rw [this, e, List.take_left' (scs_length _)]
theorem StepsAt.same {w w' : World} {g cap : Nat} {l : List Vf.Step} (h : StepsAt w g cap l) (e : w'.heap[g]? = w.heap[g]?) : StepsAt w' g cap l := by
  obtain ⟨cur, hb, r⟩ := h
  exact ⟨cur, e.trans hb, r⟩

theorem scs_get (l : List Vf.Step) (j i : Nat) (hj : j < l.length) (hi : i < 5) : (scs l)[j * 5 + i]? = (sc l[j])[i]? := by
  have e : l = l.take j ++ (l[j] :: l.drop (j + 1)) := by rw [List.getElem_cons_drop, List.take_append_drop]
  have : scs l = scs (l.take j) ++ (sc l[j] ++ scs (l.drop (j + 1))) := by
    conv => lhs; rw [e]
    rw [scs_append]; rfl
  have hlen : (scs (l.take j)).length = j * 5 := by rw [scs_length, List.length_take, Nat.min_eq_left (by omega)]
  rw [this, List.getElem?_append_right (by omega), hlen, Nat.add_sub_cancel_left, List.getElem?_append_left (by show i < 5; exact hi)]

theorem StepsAt.cell {w : World} {g cap : Nat} {l : List Vf.Step} (h : StepsAt w g cap l) (j i : Nat) (hj : j < l.length) (hi : i < 5) : w.cell? ⟨g, j * 5 + i, none⟩ = (sc l[j])[i]? := by
  obtain ⟨cur, hb, hcs, hnc, hcm, ht⟩ := h
  rw [Joins.cell_of_block hb, ← scs_get l j i hj hi, ← ht, List.getElem?_take_of_lt (by omega), Array.getElem?_toList]

theorem scs_one (l : List Vf.Step) : ∀ u ∈ scs l, u.oneCell' = true := by
  intro u hu
  simp only [scs, List.mem_flatMap] at hu
  obtain ⟨s, _, hs⟩ := hu
  simp only [sc, List.mem_cons, List.not_mem_nil, or_false] at hs
  rcases hs with rfl | rfl | rfl | rfl | rfl <;> rfl

theorem step_cells {w : World} {B : Nat} {s : Vf.Step} (h : w.heap[B]? = some (.cells (sc s).toArray 55 (0, 0))) : ∀ j u, (scs [s])[j]? = some u → w.cell? ((⟨B, 0, none⟩ : Addr).add j) = some u := by
  intro j u hu
  have hadd : (⟨B, 0, none⟩ : Addr).add j = ⟨B, j, none⟩ := by unfold Addr.add; split <;> simp_all
  rw [hadd, Joins.cell_of_block h]
  simpa [scs] using hu

/-- One step put over an older one. -/
theorem wpList_over (w : World) {ops : Array Oper} {rest : List Oper} {o : Oper} {a : Act} {Q : Exit → Act → World → Prop} (hgd : o.guard = none) (x y : Operand)
    (hop : o.op = .call { callee := .builtin .append, args := #[x, y], argTypes := #[46, 46] })
    (g cap : Nat) (l : List Vf.Step) (s : Vf.Step) (r : Nat) (hr : r < l.length) (hx : a.eval x = .slice (some ⟨g, 0, none⟩) r cap) (B c : Nat) (hy : a.eval y = .slice (some ⟨B, 0, none⟩) 1 c)
    (hs : StepsAt w g cap l) (hB : w.heap[B]? = some (.cells (sc s).toArray 55 (0, 0)))
    (h : ∀ w', StepsAt w' g cap (l.take r ++ [s] ++ l.drop (r + 1)) → w.grownBy w' (some g) → w'.heap.size = w.heap.size → wpList Try.prog ops Q rest (a.put o.dst (.slice (some ⟨g, 0, none⟩) (r + 1) cap)) w') :
    wpList Try.prog ops Q (o :: rest) a w := by
  obtain ⟨i0, hi, hz0, hz1, hz2⟩ := info_parts infoS
  obtain ⟨cur, hb, hcs, hnc, hcm, ht⟩ := hs
  have hl1 : (scs [s]).length = 1 * i0.size := by rw [hz1]; rfl
  have hrun := fun ty => run_append_room (P := Try.prog) w 46 ty 55 i0 Try.underlying46 hi g r cap cur hb ⟨B, 0, none⟩ 1 c (scs [s]) hl1 (step_cells hB) (scs_one _) (by omega) (by rw [hl1, hz1, hcs]; omega)
  refine wpList_plain hgd fun K' hK' => ?_
  unfold Oper.wp
  simp [execOp, hop, resolve, invoke, builtin, hx, hy, hrun, Result.andThen]
  refine hK' _ _ (h _ ?_ ⟨rfl, rfl, rfl, by simp, fun k _ hk => setRow_other w g k _ (fun e => hk (by simp [e]))⟩ (by simp))
  have hlen : (l.take r ++ [s] ++ l.drop (r + 1)).length = l.length := by simp; omega
  refine ⟨_, setRow_heap w g cur _ 55 _ hb, ?_, by rw [hlen]; exact hnc, hcm, ?_⟩
  · have h5 : (scs [s]).length = 5 := rfl
    simp only [List.size_toArray, List.length_append, List.length_take, List.length_drop, Array.length_toList, h5, hz1]
    omega
  · have h5 : (scs [s]).length = 5 := rfl
    have hcl : cur.toList.length = cap * 5 := by rw [Array.length_toList, hcs]
    rw [hlen, h5, hz1, scs_append, scs_append]
    have e1 : cur.toList.take (r * 5) = scs (l.take r) := by
      have := congrArg (List.take (r * 5)) ht
      rw [List.take_take, Nat.min_eq_left (by omega)] at this
      rw [this]
      have e : scs l = scs (l.take r) ++ scs (l.drop r) := by rw [← scs_append, List.take_append_drop]
      rw [e, List.take_left' (by rw [scs_length, List.length_take, Nat.min_eq_left (by omega)])]
    have e2 : (cur.toList.drop (r * 5 + 5)).take ((l.length - (r + 1)) * 5) = scs (l.drop (r + 1)) := by
      have := congrArg (List.drop ((r + 1) * 5)) ht
      rw [List.drop_take] at this
      have e : scs l = scs (l.take (r + 1)) ++ scs (l.drop (r + 1)) := by rw [← scs_append, List.take_append_drop]
      rw [e, List.drop_left' (by rw [scs_length, List.length_take, Nat.min_eq_left (by omega)])] at this
      rw [← this, show r * 5 + 5 = (r + 1) * 5 from by omega, show (l.length - (r + 1)) * 5 = l.length * 5 - (r + 1) * 5 from by omega]
    rw [e1, List.toList_toArray, ← e2]
    have hl2 : (scs (l.take r) ++ scs [s]).length = (r + 1) * 5 := by rw [List.length_append, scs_length, h5, List.length_take, Nat.min_eq_left (by omega)]; omega
    rw [← List.append_assoc]
    generalize scs (l.take r) ++ scs [s] = A at hl2 ⊢
    rw [List.take_append, List.take_of_length_le (by rw [hl2]; omega), hl2, show l.length * 5 - (r + 1) * 5 = (l.length - (r + 1)) * 5 from by omega]

/-- The end of the list made empty. -/
theorem run_clear_steps (w : World) (g cap : Nat) (l : List Vf.Step) (r : Nat) (hr : r ≤ l.length) (hs : StepsAt w g cap l) (c : Nat) :
    ∃ w', (∀ ty, (Builtin.clear_ #[46] ty #[.slice (some ⟨g, r * 5, none⟩) (l.length - r) c]).run Try.prog w = .ok (.tuple #[]) w') ∧ StepsAt w' g cap (l.take r) ∧ w.grownBy w' (some g) ∧ w'.heap.size = w.heap.size := by
  by_cases h0 : l.length - r = 0
  · refine ⟨w, fun ty => ?_, ?_, World.grownBy.refl _ _, rfl⟩
    · rw [h0]
      simp [Builtin.clear_, run_underlying Try.underlying46]
    · rw [List.take_of_length_le (by omega)]; exact hs
  · obtain ⟨cur, hb, hcs, hnc, hcm, ht⟩ := hs
    have hz : (Builtin.zeroCells (Value.agg #[.int .i64 0, .int .i64 0, .int .i64 0, .string ⟨#[]⟩, .string ⟨#[]⟩]).cells (l.length - r)).toList.length = (l.length - r) * 5 := by rw [Array.length_toList, size_zeroCells]; rfl
    have h1 : ∀ v ∈ (Builtin.zeroCells (Value.agg #[.int .i64 0, .int .i64 0, .int .i64 0, .string ⟨#[]⟩, .string ⟨#[]⟩]).cells (l.length - r)).toList, v.oneCell' = true := by
      intro v hv
      rw [Array.mem_toList_iff] at hv
      unfold Builtin.zeroCells at hv
      rw [Array.mem_map] at hv
      obtain ⟨i, _, rfl⟩ := hv
      have hm : i % (Value.agg #[.int .i64 0, .int .i64 0, .int .i64 0, .string ⟨#[]⟩, .string ⟨#[]⟩]).cells.size < 5 := Nat.mod_lt _ (by decide)
      generalize i % (Value.agg #[.int .i64 0, .int .i64 0, .int .i64 0, .string ⟨#[]⟩, .string ⟨#[]⟩]).cells.size = m at hm ⊢
      match m, hm with
      | 0, _ => rfl
      | 1, _ => rfl
      | 2, _ => rfl
      | 3, _ => rfl
      | 4, _ => rfl
    generalize hZ : (Builtin.zeroCells (Value.agg #[.int .i64 0, .int .i64 0, .int .i64 0, .string ⟨#[]⟩, .string ⟨#[]⟩]).cells (l.length - r)).toList = Z at hz h1
    have hst := run_storeCells_at Try.prog g (r * 5) 55 Z 0 cur w hb (by rw [hz, hcs]; omega) h1
    refine ⟨w.setRow g (cur.toList.take (r * 5 + 0) ++ Z ++ cur.toList.drop (r * 5 + 0 + Z.length)).toArray, fun ty => ?_, ⟨_, setRow_heap w g cur _ 55 _ hb, ?_, ?_, hcm, ?_⟩, ⟨rfl, rfl, rfl, by simp, fun k _ hk => setRow_other w g k _ (fun e => hk (by simp [e]))⟩, by simp⟩
    · obtain ⟨m, hm⟩ : ∃ m, l.length - r = m + 1 := ⟨l.length - r - 1, by omega⟩
      rw [hm] at hZ ⊢
      simp [Builtin.clear_, run_underlying Try.underlying46, hZ, hst]
    · simp only [List.size_toArray, List.length_append, List.length_take, List.length_drop, Array.length_toList, hz]
      omega
    · have := List.length_take_le' r l
      omega
    · have hcl : cur.toList.length = cap * 5 := by rw [Array.length_toList, hcs]
      have hlr : (l.take r).length = r := by rw [List.length_take, Nat.min_eq_left hr]
      rw [List.toList_toArray, hlr, Nat.add_zero, List.append_assoc, List.take_left' (by rw [List.length_take, hcl]; omega)]
      have := congrArg (List.take (r * 5)) ht
      rw [List.take_take, Nat.min_eq_left (by omega)] at this
      rw [this]
      have e : scs l = scs (l.take r) ++ scs (l.drop r) := by rw [← scs_append, List.take_append_drop]
      rw [e, List.take_left' (by rw [scs_length, hlr])]
end Go.Proofs.Ytclokpkhkokfhab
