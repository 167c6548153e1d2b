/-
  What is asked of a memtable: the place of an entry, a version, how many entries, how many bytes, how many steps; and the same of no table.
-/
import Derived.Test.YtbdgdigpnfpnhaaMAdd
namespace Go.Proofs.Ytbdgdigpnfpnhaa.Q.P
open Go.RowKit

set_option maxRecDepth 100000 in
set_option maxHeartbeats 2000000 in
theorem seek_any (w : World) (b : Nat) (hv : Value) (hs : List Nat) (hd : Mm.Nd) (ns : List Mm.Nd) (T : TabAt w b hv hs hd ns) (hn : ns.length ≤ 1000000) (e : Mm.Ent) :
    Calls Try.prog 54 #[.pointer (some ⟨b, 0, none⟩), entV e] w fun r w' => r = .returned (ptr (Mm.back e ns).head?) ∧ Below w.heap.size w w' := by
  obtain ⟨A, hA⟩ : ∃ A, A = Mm.front e ns := ⟨_, rfl⟩
  have B0 : Below w.heap.size w (w.alloc (entO e)) := (Below.refl _ _).alloc (Nat.le_refl _) _
  have t := T.later B0
  have FD : Hid (Calls Try.prog 40 #[.pointer (some ⟨b, 0, none⟩), entV e] (w.alloc (entO e)) fun r w' => (∃ c : Int, r = .returned (.tuple #[.agg #[pt hd A 0, pt hd A 1, pt hd A 2, pt hd A 3, pt hd A 4, pt hd A 5, pt hd A 6, pt hd A 7, pt hd A 8, pt hd A 9, pt hd A 10, pt hd A 11], .int .i64 c])) ∧ Below (w.alloc (entO e)).heap.size (w.alloc (entO e)) w') := by
    refine (find_any _ b hd ns t.cells.2.2.1 t.chain t.sorted t.top hn e).mono ?_
    rintro r w' ⟨rfl, bb⟩
    exact ⟨⟨_, by rw [hA]; rfl⟩, bb⟩
  have C0 : Hid (∀ wx, Below w.heap.size w wx → wx.cell? ⟨(Mm.lastL 0 hd A).blk, 5, none⟩ = some (ptr (Mm.back e ns).head?)) := fun wx hw => by
    have t := T.later hw
    have ch := t.chain
    rw [← Mm.parts e ns, ← hA] at ch
    rw [← Mm.nxt_zero (fun x hx => (t.tall x (by rw [← Mm.parts e ns]; simp [hx])).1)]
    exact (ch.last 0 (by omega) t.top).1
  generalize ptr (Mm.back e ns).head? = v at *
  clear t T hn hA
  go_enter Try.func54, Try.ntmps54
  go_wp2_with (first
    | (go_at_call 40; refine FD.out.mono ?_; rintro r w2 ⟨⟨c, rfl⟩, b2⟩; have B2 := B0.trans (b2.mono B0.size); have z2 := B2.size; have x1 := fun o => C0.out (w2.alloc o) (B2.alloc z2 o); clear FD))
  go_ret
  exact ⟨rfl, B2.alloc z2 _⟩

end Go.Proofs.Ytbdgdigpnfpnhaa.Q.P
namespace Go.Proofs.Ytbdgdigpnfpnhaa.Q.Mm
/-- The visible version of a key at a number. -/
def got (ns : List Nd) (k : Bs) (s : Int) : Option Ent :=
  match (back ⟨k, [], s, false⟩ ns).head? with
  | some y => if y.ent.key = k then some y.ent else none
  | none => none
end Go.Proofs.Ytbdgdigpnfpnhaa.Q.Mm
namespace Go.Proofs.Ytbdgdigpnfpnhaa.Q.P
open Go.RowKit
def gotV : Option Mm.Ent → Value
  | some x => .tuple #[entV x, .bool true]
  | none => .tuple #[.agg #[.string ⟨#[]⟩, .string ⟨#[]⟩, .int .i64 0, .bool false], .bool false]

set_option maxRecDepth 100000 in
set_option maxHeartbeats 4000000 in
theorem get_any (w : World) (b : Nat) (hv : Value) (hs : List Nat) (hd : Mm.Nd) (ns : List Mm.Nd) (T : TabAt w b hv hs hd ns) (hn : ns.length ≤ 1000000) (k : Mm.Bs) (s : Int) :
    Calls Try.prog 33 #[.pointer (some ⟨b, 0, none⟩), str k, .int .i64 s] w fun r w' => r = .returned (gotV (Mm.got ns k s)) ∧ Below w.heap.size w w' := by
  have B0 : Below w.heap.size w (w.alloc (.cells #[.string ⟨#[]⟩, .string ⟨#[]⟩, .int .i64 0, .bool false] 38)) := (Below.refl _ _).alloc (Nat.le_refl _) _
  have MD := hide (made_yes _ b (T.later B0).cells.1)
  have SK := hide (seek_any _ b hv hs hd ns (T.later B0) hn ⟨k, [], s, false⟩)
  have N0 := World.alloc_heap_new w (.cells #[.string ⟨#[]⟩, .string ⟨#[]⟩, .int .i64 0, .bool false] 38)
  cases hB : (Mm.back ⟨k, [], s, false⟩ ns).head? with
  | none =>
    have HE : Hid (Mm.got ns k s = none) := by show _ = _; unfold Mm.got; rw [hB]
    rw [HE.out]
    rw [hB, show ptr none = .pointer none from rfl] at SK
    clear T hB hn HE
    go_enter Try.func33, Try.ntmps33
    go_wp2_with (first
      | (go_at_call 39; refine still MD.out ?_; clear MD)
      | (go_at_call 54; refine SK.out.mono ?_; rintro r w1 ⟨rfl, b1⟩; have n1 := keepB b1 N0; have f0 := Joins.cell_of_block n1 0; have f1 := Joins.cell_of_block n1 1; have f2 := Joins.cell_of_block n1 2; have f3 := Joins.cell_of_block n1 3; have u0 := Joins.unfrozen_of_block n1 0; have u1 := Joins.unfrozen_of_block n1 1; have u2 := Joins.unfrozen_of_block n1 2; have u3 := Joins.unfrozen_of_block n1 3; clear SK))
    rw [setCell_id n1 rfl, setCell_id n1 rfl, setCell_id n1 rfl, setCell_id n1 rfl]
    refine bodyPost_ret (v := gotV none) (by simp [results, Try.results33, go_sem, f0, f1, f2, f3, gotV]) rfl ?_
    exact ⟨rfl, B0.trans (b1.mono B0.size)⟩
  | some y =>
    have YC : Hid (∀ wx, Below w.heap.size w wx → (wx.cell? ⟨y.blk, 0, none⟩ = some (str y.ent.key) ∧ wx.cell? ⟨y.blk, 1, none⟩ = some (str y.ent.value) ∧ wx.cell? ⟨y.blk, 2, none⟩ = some (.int .i64 y.ent.seq) ∧ wx.cell? ⟨y.blk, 3, none⟩ = some (.bool y.ent.del))) := fun wx hw => by
      have ch := (T.later hw).chain
      obtain ⟨r, hr⟩ : ∃ r, Mm.back ⟨k, [], s, false⟩ ns = y :: r := by
        cases hb : Mm.back ⟨k, [], s, false⟩ ns with
        | nil => rw [hb] at hB; cases hB
        | cons z r => rw [hb] at hB; exact ⟨r, by cases hB; rfl⟩
      rw [← Mm.parts ⟨k, [], s, false⟩ ns, hr] at ch
      obtain ⟨q0, q1, q2, q3, _⟩ := Chain.cells (p := hd :: Mm.front ⟨k, [], s, false⟩ ns) ch
      exact ⟨q0, q1, q2, q3⟩
    rw [hB, show ptr (some y) = .pointer (some ⟨y.blk, 0, none⟩) from rfl] at SK
    have yne : w.heap.size ≠ y.blk := by
      have := World.block_lt_of_cell? w _ (YC.out w (Below.refl _ _)).1
      simp at this
      omega
    by_cases hk : y.ent.key = k
    · have HE : Hid (Mm.got ns k s = some y.ent) := by show _ = _; unfold Mm.got; rw [hB]; simp [hk]
      rw [HE.out]
      clear T hB hn HE
      obtain ⟨yb, ⟨yk, yv, ys, yd⟩, yn, yh⟩ := y
      simp only at hk YC SK yne
      subst hk
      go_enter Try.func33, Try.ntmps33
      go_wp2_with (first
        | (go_at_call 39; refine still MD.out ?_; clear MD)
        | (go_at_call 54; refine SK.out.mono ?_; rintro r w1 ⟨rfl, b1⟩; have n1 := keepB b1 N0; obtain ⟨y0, y1, y2, y3⟩ := YC.out _ (B0.trans (b1.mono B0.size)); have f0 := Joins.cell_of_block n1 0; have f1 := Joins.cell_of_block n1 1; have f2 := Joins.cell_of_block n1 2; have f3 := Joins.cell_of_block n1 3; have u0 := Joins.unfrozen_of_block n1 0; have u1 := Joins.unfrozen_of_block n1 1; have u2 := Joins.unfrozen_of_block n1 2; have u3 := Joins.unfrozen_of_block n1 3; clear SK))
      have m1 := heap_setCell_same _ _ 3 _ _ (.bool yd) (heap_setCell_same _ _ 2 _ _ (.int .i64 ys) (heap_setCell_same _ _ 1 _ _ (.string ⟨yv.toArray⟩) (heap_setCell_same w1 w.heap.size 0 _ _ (.string ⟨yk.toArray⟩) n1)))
      have B2 := (((B0.trans (b1.mono B0.size)).setCell (p := ⟨w.heap.size, 0, none⟩) (Nat.le_refl _) (.string ⟨yk.toArray⟩)).setCell (p := ⟨w.heap.size, 1, none⟩) (Nat.le_refl _) (.string ⟨yv.toArray⟩)).setCell (p := ⟨w.heap.size, 2, none⟩) (Nat.le_refl _) (.int .i64 ys)
      have B3 := B2.setCell (p := ⟨w.heap.size, 3, none⟩) (Nat.le_refl _) (.bool yd)
      generalize ((((w1.setCell ⟨w.heap.size, 0, none⟩ (.string ⟨yk.toArray⟩)).setCell ⟨w.heap.size, 1, none⟩ (.string ⟨yv.toArray⟩)).setCell ⟨w.heap.size, 2, none⟩ (.int .i64 ys)).setCell ⟨w.heap.size, 3, none⟩ (.bool yd)) = Z at m1 B3 ⊢
      have g0 := Joins.cell_of_block m1 0
      have g1 := Joins.cell_of_block m1 1
      have g2 := Joins.cell_of_block m1 2
      have g3 := Joins.cell_of_block m1 3
      simp at g0 g1 g2 g3
      refine bodyPost_ret (v := gotV (some ⟨yk, yv, ys, yd⟩)) (by simp [results, Try.results33, go_sem, g0, g1, g2, g3, gotV]) rfl ?_
      exact ⟨rfl, B3⟩
    · have HE : Hid (Mm.got ns k s = none) := by show _ = _; unfold Mm.got; rw [hB]; simp [hk]
      rw [HE.out]
      clear T hB hn HE
      obtain ⟨yb, ⟨yk, yv, ys, yd⟩, yn, yh⟩ := y
      simp only at hk YC SK yne
      have q : (!yk == k) = true := by simp [hk]
      go_enter Try.func33, Try.ntmps33
      go_wp2_with (first
        | (go_at_call 39; refine still MD.out ?_; clear MD)
        | (go_at_call 54; refine SK.out.mono ?_; rintro r w1 ⟨rfl, b1⟩; have n1 := keepB b1 N0; obtain ⟨y0, y1, y2, y3⟩ := YC.out _ (B0.trans (b1.mono B0.size)); have f0 := Joins.cell_of_block n1 0; have f1 := Joins.cell_of_block n1 1; have f2 := Joins.cell_of_block n1 2; have f3 := Joins.cell_of_block n1 3; have u0 := Joins.unfrozen_of_block n1 0; have u1 := Joins.unfrozen_of_block n1 1; have u2 := Joins.unfrozen_of_block n1 2; have u3 := Joins.unfrozen_of_block n1 3; clear SK))
      rw [setCell_id n1 rfl, setCell_id n1 rfl, setCell_id n1 rfl, setCell_id n1 rfl]
      refine bodyPost_ret (v := gotV none) (by simp [results, Try.results33, go_sem, f0, f1, f2, f3, gotV]) rfl ?_
      exact ⟨rfl, B0.trans (b1.mono B0.size)⟩

theorem len_any (w : World) (b : Nat) (hv : Value) (hs : List Nat) (hd : Mm.Nd) (ns : List Mm.Nd) (T : TabAt w b hv hs hd ns) :
    Calls Try.prog 44 #[.pointer (some ⟨b, 0, none⟩)] w fun r w' => r = .returned (.int .i64 (ns.length : Int)) ∧ w' = w := by
  obtain ⟨c0, _, _, c3, _⟩ := T.cells
  have MD := hide (made_yes w b c0)
  clear T
  go_enter Try.func44, Try.ntmps44
  go_wp2_with (first | (go_at_call 39; refine still MD.out ?_; clear MD))
  go_ret
  exact ⟨rfl, rfl⟩
theorem size_any (w : World) (b : Nat) (hv : Value) (hs : List Nat) (hd : Mm.Nd) (ns : List Mm.Nd) (T : TabAt w b hv hs hd ns) :
    Calls Try.prog 45 #[.pointer (some ⟨b, 0, none⟩)] w fun r w' => r = .returned (.int .i64 (bytesOf ns : Int)) ∧ w' = w := by
  obtain ⟨c0, _, _, _, c4⟩ := T.cells
  have MD := hide (made_yes w b c0)
  clear T
  go_enter Try.func45, Try.ntmps45
  go_wp2_with (first | (go_at_call 39; refine still MD.out ?_; clear MD))
  go_ret
  exact ⟨rfl, rfl⟩
end Go.Proofs.Ytbdgdigpnfpnhaa.Q.P
namespace Go.Proofs.Ytbdgdigpnfpnhaa.Q.Mm
/-- The steps to an entry with that key and that number. -/
def cost (ns : List Nd) (k : Bs) (s : Int) : Nat := costs (back ⟨k, [], s, false⟩ ns) 12 (front ⟨k, [], s, false⟩ ns)
end Go.Proofs.Ytbdgdigpnfpnhaa.Q.Mm
namespace Go.Proofs.Ytbdgdigpnfpnhaa.Q.P
open Go.RowKit
set_option maxHeartbeats 1000000 in
theorem cost_any (w : World) (b : Nat) (hv : Value) (hs : List Nat) (hd : Mm.Nd) (ns : List Mm.Nd) (T : TabAt w b hv hs hd ns) (hn : ns.length ≤ 1000000) (k : Mm.Bs) (s : Int) :
    Calls Try.prog 50 #[.pointer (some ⟨b, 0, none⟩), str k, .int .i64 s] w fun r w' => r = .returned (.int .i64 (Mm.cost ns k s : Int)) ∧ Below w.heap.size w w' := by
  have MD := hide (made_yes w b T.cells.1)
  have FD := hide (find_any w b hd ns T.cells.2.2.1 T.chain T.sorted T.top hn ⟨k, [], s, false⟩)
  unfold Mm.cost
  generalize Mm.costs (Mm.back ⟨k, [], s, false⟩ ns) 12 (Mm.front ⟨k, [], s, false⟩ ns) = c at *
  generalize Mm.front ⟨k, [], s, false⟩ ns = A at *
  unfold pathV at FD
  clear T hn
  go_enter Try.func50, Try.ntmps50
  go_wp2_with (first
    | (go_at_call 39; refine still MD.out ?_; clear MD)
    | (go_at_call 40; refine FD.out.mono ?_; rintro r w1 ⟨rfl, b1⟩; clear FD))
  go_ret
  exact ⟨rfl, b1.alloc b1.size _⟩

theorem two_new (w : World) (o1 o2 : Obj) : ((w.alloc o1).alloc o2).heap[w.heap.size]? = some o1 ∧ ((w.alloc o1).alloc o2).heap[w.heap.size + 1]? = some o2 ∧ Below w.heap.size w ((w.alloc o1).alloc o2) := by
  refine ⟨(Below.heap_alloc _ _ _ (by simp)).trans (World.alloc_heap_new w _), ?_, ((Below.refl _ _).alloc (Nat.le_refl _) _).alloc (by simp) _⟩
  have := World.alloc_heap_new (w.alloc o1) o2
  rw [World.size_alloc] at this
  exact this

set_option maxRecDepth 100000 in
set_option maxHeartbeats 2000000 in
theorem all_any (w : World) (b : Nat) (hv : Value) (hs : List Nat) (hd : Mm.Nd) (ns : List Mm.Nd) (T : TabAt w b hv hs hd ns) :
    Calls Try.prog 56 #[.pointer (some ⟨b, 0, none⟩)] w fun r w' => ∃ Bf Bc, r = .returned (.func (.func 77) #[] #[.pointer (some ⟨Bf, 0, none⟩), .pointer (some ⟨Bc, 0, none⟩)]) ∧ w'.heap[Bf]? = some (.cells #[ptr ns.head?] 61 (0, 0)) ∧ w'.heap[Bc]? = some (.cells #[.int .i64 (ns.length : Int)] 3 (0, 0)) ∧ w.heap.size ≤ Bf ∧ w.heap.size ≤ Bc ∧ Below w.heap.size w w' := by
  have hmf : ∀ (fn : Fn) (first cap : Array Value) (w : World), (Instr.makeFunc fn first cap).run Try.prog w = .ok (.func fn first cap) w := fun _ _ _ _ => rfl
  obtain ⟨c0, _, c2, c3, _⟩ := T.cells
  have MD := hide (made_yes w b c0)
  have l0 : w.cell? ⟨hd.blk, 5, none⟩ = some (ptr ns.head?) := by
    have := T.chain.lane (p := []) 0 (by omega) (decide_eq_true (by rw [T.top]; omega))
    rw [Mm.nxt_zero (fun x hx => (T.tall x hx).1)] at this
    exact this
  obtain ⟨pv, hpv⟩ : ∃ pv, ptr ns.head? = .pointer pv := by cases ns.head? <;> exact ⟨_, rfl⟩
  have b1 : hd.blk < w.heap.size := World.block_lt_of_cell? w _ l0
  have b2 : b < w.heap.size := World.block_lt_of_cell? w _ c0
  rw [hpv] at l0 ⊢
  clear hpv T c0
  go_enter Try.func56, Try.ntmps56
  go_wp2_with (first
    | (go_at_call 39; refine still MD.out ?_; clear MD))
  go_region
  · go_wp2_with (fail)
    go_ret
    obtain ⟨h1, h2, h3⟩ := two_new w (.cells #[.pointer pv] 61) (.cells #[.int .i64 (ns.length : Int)] 3)
    exact ⟨_, _, rfl, h1, h2, Nat.le_refl _, by omega, h3.drew⟩
  · go_wp2_with (fail)
    go_ret
    obtain ⟨h1, h2, h3⟩ := two_new w (.cells #[.int .i64 (ns.length : Int)] 3) (.cells #[.pointer pv] 61)
    exact ⟨_, _, rfl, h2, h1, by omega, Nat.le_refl _, h3.drew⟩
end Go.Proofs.Ytbdgdigpnfpnhaa.Q.P
