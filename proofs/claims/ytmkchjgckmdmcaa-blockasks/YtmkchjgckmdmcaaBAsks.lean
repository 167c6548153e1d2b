/-
  The document's own Find and Scan; a list's front.
-/
import Derived.Test.YtmkchjgckmdmcaaBRef7s
import Derived.Test.YtmkchjgckmdmcaaBApart
namespace Go.Proofs.Ytmkchjgckmdmcaa
open Go.RowKit

theorem ents_front {w : World} {b off m c c' : Nat} {l r : List Mm.Ent} (h : EntsAt w (.slice (some ⟨b, off, none⟩) m c) (l ++ r)) : EntsAt w (.slice (some ⟨b, off, none⟩) l.length c') l := by
  refine ⟨⟨_, _, rfl, fun _ => ⟨b, off, rfl, fun j hj => ?_⟩⟩⟩
  have := h.cells j (by rw [List.length_append]; omega)
  rw [List.getElem_append_left hj] at this
  exact this

set_option maxRecDepth 100000 in
set_option maxHeartbeats 4000000 in
theorem rfind_any (w : World) (a : Option Addr) (c n : Nat) (l : List Mm.Ent) (h : EntsAt w (.slice a n c) l) (hn : n = l.length) (hl : n ≤ 1000000) (k : List UInt8) (q : Int) :
    Calls Try.prog 29 #[.slice a n c, str k, .int .i64 q] w fun e w' => e = .returned (foundV (l.find? (visP k q))) ∧ Below w.heap.size w w' := by
  obtain ⟨W, hW⟩ : ∃ W, W = w.alloc (.cells #[.string ⟨#[]⟩, .string ⟨#[]⟩, .int .i64 0, .bool false] 27) := ⟨_, rfl⟩
  have b0 : Below w.heap.size w W := by rw [hW]; exact (Below.refl _ _).alloc (Nat.le_refl _) _
  have y0 : W.heap[w.heap.size]? = some (eO ⟨[], [], 0, false⟩) := by rw [hW]; exact World.alloc_heap_new w _
  have RV := hide (rvis_any W a c n l (h.later b0) hn hl k q)
  have HY := hide y0
  have HB := hide b0
  have FIN : Hid (∀ (w2 : World) (e : Mm.Ent), Below W.heap.size W w2 → (((((w2.setCell ⟨w.heap.size, 0, none⟩ (str e.key)).setCell ⟨w.heap.size, 1, none⟩ (str e.value)).setCell ⟨w.heap.size, 2, none⟩ (.int .i64 e.seq)).setCell ⟨w.heap.size, 3, none⟩ (.bool e.del)).heap[w.heap.size]? = some (eO e) ∧ Below w.heap.size w ((((w2.setCell ⟨w.heap.size, 0, none⟩ (str e.key)).setCell ⟨w.heap.size, 1, none⟩ (str e.value)).setCell ⟨w.heap.size, 2, none⟩ (.int .i64 e.seq)).setCell ⟨w.heap.size, 3, none⟩ (.bool e.del)))) := fun w2 e hb => by
    have y2 := keepB hb y0
    exact ⟨(Joins.block_setCell (Joins.block_setCell (Joins.block_setCell (Joins.block_setCell y2 _) _) _) _).trans rfl, ((((b0.trans (hb.mono b0.size)).setCell (Nat.le_refl _) _).setCell (Nat.le_refl _) _).setCell (Nat.le_refl _) _).setCell (Nat.le_refl _) _⟩
  rw [hW] at RV
  have HW := hide hW
  clear h hn hW b0 y0
  generalize l.find? (visP k q) = o at *
  cases o with
  | none =>
    go_enter Try.func29, Try.ntmps29
    go_wp2_with (first
      | (go_at_call 61; refine RV.out.mono ?_; rintro e w2 ⟨rfl, b2⟩; rw [← HW.out] at b2; obtain ⟨p0, p1, p2, p3, f0, f1, f2, f3⟩ := slot4 (keepB b2 HY.out)))
    obtain ⟨F1, F2⟩ := FIN.out w2 ⟨[], [], 0, false⟩ b2
    obtain ⟨t0, t1, t2, t3, _⟩ := slot4 F1
    refine bodyPost_ret (v := foundV none) (by simp [results, Try.results29, go_sem, t0, t1, t2, t3]) rfl ?_
    exact ⟨rfl, F2⟩
  | some x =>
    obtain ⟨K, V, Q, D⟩ := x
    go_enter Try.func29, Try.ntmps29
    go_wp2_with (first
      | (go_at_call 61; refine RV.out.mono ?_; rintro e w2 ⟨rfl, b2⟩; rw [← HW.out] at b2; obtain ⟨p0, p1, p2, p3, f0, f1, f2, f3⟩ := slot4 (keepB b2 HY.out)))
    obtain ⟨F1, F2⟩ := FIN.out w2 ⟨K, V, Q, D⟩ b2
    obtain ⟨t0, t1, t2, t3, _⟩ := slot4 F1
    refine bodyPost_ret (v := foundV (some ⟨K, V, Q, D⟩)) (by simp [results, Try.results29, go_sem, t0, t1, t2, t3]) rfl ?_
    exact ⟨rfl, F2⟩

set_option maxRecDepth 100000 in
set_option maxHeartbeats 4000000 in
theorem rscan_any (w : World) (a : Option Addr) (c n : Nat) (l : List Mm.Ent) (h : EntsAt w (.slice a n c) l) (hn : n = l.length) (hl : n ≤ 100000) (f t : List UInt8) (seq : Int) :
    Calls Try.prog 31 #[.slice a n c, .agg #[str f, str t], .int .i64 seq] w fun e w' => ∃ v, e = .returned v ∧ EntsAt w' v (Mm.told seq (Mm.spanL f t l)) ∧ Below w.heap.size w w' := by
  obtain ⟨W, hW⟩ : ∃ W, W = w.alloc (.cells #[str f, str t] 50) := ⟨_, rfl⟩
  have b0 : Below w.heap.size w W := by rw [hW]; exact (Below.refl _ _).alloc (Nat.le_refl _) _
  have RS := hide (rspan_any W a c n l (h.later b0) hn hl f t seq)
  have HB := hide b0
  rw [hW] at RS
  have HW := hide hW
  clear h hn hW b0
  generalize Mm.told seq (Mm.spanL f t l) = T at *
  go_enter Try.func31, Try.ntmps31
  go_wp2_with (first
    | (go_at_call 64; refine RS.out.mono ?_; rintro e w2 ⟨v, rfl, o2, b2⟩; rw [← HW.out] at b2))
  go_ret
  exact ⟨v, rfl, EntsAt.own o2, HB.out.trans (b2.mono HB.out.size)⟩
end Go.Proofs.Ytmkchjgckmdmcaa
