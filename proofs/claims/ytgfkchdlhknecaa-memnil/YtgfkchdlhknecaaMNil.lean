/-
  A memtable that is nil, or that nobody made: each call is refused.
-/
import Derived.Test.YtgfkchdlhknecaaMLives
namespace Go.Proofs.Ytgfkchdlhknecaa
open Go.RowKit

/-- No table. -/
def NoTab (w : World) (r : Value) : Prop := r = .pointer none ∨ ∃ b, r = .pointer (some ⟨b, 0, none⟩) ∧ w.cell? ⟨b, 0, none⟩ = some (.pointer none)
theorem NoTab.later {w w' : World} {r : Value} (h : NoTab w r) (hb : Below w.heap.size w w') : NoTab w' r := by
  rcases h with h | ⟨b, h, hc⟩
  · exact .inl h
  · exact .inr ⟨b, h, keepC hb hc⟩
section
variable {w : World} {r : Value}
theorem no_made (h : NoTab w r) : Calls Try.prog 35 #[r] w fun e w' => e = .returned (.bool false) ∧ w' = w := by
  rcases h with rfl | ⟨b, rfl, hc⟩
  · exact made_nil w
  · exact made_zero w b hc
theorem no_add (h : NoTab w r) (e : Mm.Ent) : Calls Try.prog 16 #[r, entV e] w fun q w' => q = .returned (.int .i64 1) ∧ Below w.heap.size w w' := by
  have B0 : Below w.heap.size w (w.alloc (entO e)) := (Below.refl _ _).alloc (Nat.le_refl _) _
  have q := no_made (h.later B0)
  clear h
  go_enter Try.func16, Try.ntmps16
  go_wp2_with (go_at_call 35; refine still q ?_)
  go_ret
  exact ⟨rfl, B0⟩
set_option maxHeartbeats 1000000 in
theorem no_get (h : NoTab w r) (k : Mm.Bs) (s : Int) : Calls Try.prog 11 #[r, str k, .int .i64 s] w fun q w' => q = .returned (.tuple #[.agg #[.string ⟨#[]⟩, .string ⟨#[]⟩, .int .i64 0, .bool false], .bool false]) ∧ Below w.heap.size w w' := by
  have B0 : Below w.heap.size w (w.alloc (.cells #[.string ⟨#[]⟩, .string ⟨#[]⟩, .int .i64 0, .bool false] 26)) := (Below.refl _ _).alloc (Nat.le_refl _) _
  have q := no_made (h.later B0)
  have n1 := World.alloc_heap_new w (.cells #[.string ⟨#[]⟩, .string ⟨#[]⟩, .int .i64 0, .bool false] 26)
  have f0 := Joins.cell_of_block n1 0
  have f1 := Joins.cell_of_block n1 1
  have f2 := Joins.cell_of_block n1 2
  have f3 := Joins.cell_of_block n1 3
  clear h
  go_enter Try.func11, Try.ntmps11
  go_wp2_with (go_at_call 35; refine still q ?_)
  refine bodyPost_ret (v := .tuple #[.agg #[.string ⟨#[]⟩, .string ⟨#[]⟩, .int .i64 0, .bool false], .bool false]) (by simp [results, Try.results11, go_sem, f0, f1, f2, f3]) rfl ?_
  exact ⟨rfl, B0⟩
theorem no_len (h : NoTab w r) : Calls Try.prog 17 #[r] w fun q w' => q = .returned (.int .i64 0) ∧ w' = w := by
  have q := no_made h
  clear h
  go_enter Try.func17, Try.ntmps17
  go_wp2_with (go_at_call 35; refine still q ?_)
  go_ret
  exact ⟨rfl, rfl⟩
theorem no_size (h : NoTab w r) : Calls Try.prog 18 #[r] w fun q w' => q = .returned (.int .i64 0) ∧ w' = w := by
  have q := no_made h
  clear h
  go_enter Try.func18, Try.ntmps18
  go_wp2_with (go_at_call 35; refine still q ?_)
  go_ret
  exact ⟨rfl, rfl⟩
theorem no_cost (h : NoTab w r) (k : Mm.Bs) (s : Int) : Calls Try.prog 15 #[r, str k, .int .i64 s] w fun q w' => q = .returned (.int .i64 0) ∧ w' = w := by
  have q := no_made h
  clear h
  go_enter Try.func15, Try.ntmps15
  go_wp2_with (go_at_call 35; refine still q ?_)
  go_ret
  exact ⟨rfl, rfl⟩
set_option maxHeartbeats 1000000 in
theorem no_scan (h : NoTab w r) (f t : Mm.Bs) (s : Int) : Calls Try.prog 30 #[r, .agg #[str f, str t], .int .i64 s] w fun q w' => q = .returned (.slice none 0 0) ∧ Below w.heap.size w w' := by
  have B0 : Below w.heap.size w ((w.alloc (.cells #[str f, str t] 52)).alloc (.cells #[.int .i64 s] 3)) := ((Below.refl _ _).alloc (Nat.le_refl _) _).alloc (by simp) _
  have q := no_made (h.later B0)
  clear h
  refine (callsIn_wide (n := 5)).1 ?_
  refine callsIn_of_wp_marks Try.func30 rfl trivial ?_ rfl
  simp only [Try.ntmps30, List.size_toArray, List.length_cons, List.length_nil, Nat.reduceAdd, Nat.reduceSub, Array.replicate_succ, Array.replicate_zero, List.push_toArray, List.append_toArray, List.nil_append, List.cons_append]
  rw [wpIn_wide]
  go_wp2_with (go_at_call 35; refine still q ?_)
  exact ⟨.slice none 0 0, (by simp [results, Try.results30, go_sem]), rfl, B0⟩
set_option maxHeartbeats 1000000 in
theorem no_lane (h : NoTab w r) (n : Int) : Calls Try.prog 14 #[r, .int .i64 n] w fun q w' => q = .returned (.slice none 0 0) ∧ Below w.heap.size w w' := by
  have B0 : Below w.heap.size w (w.alloc (.cells #[.int .i64 n] 3)) := (Below.refl _ _).alloc (Nat.le_refl _) _
  have q := no_made (h.later B0)
  clear h
  refine (callsIn_wide (n := 5)).1 ?_
  refine callsIn_of_wp_marks Try.func14 rfl trivial ?_ rfl
  simp only [Try.ntmps14, List.size_toArray, List.length_cons, List.length_nil, Nat.reduceAdd, Nat.reduceSub, Array.replicate_succ, Array.replicate_zero, List.push_toArray, List.append_toArray, List.nil_append, List.cons_append]
  rw [wpIn_wide]
  go_wp2_with (go_at_call 35; refine still q ?_)
  exact ⟨.slice none 0 0, (by simp [results, Try.results14, go_sem]), rfl, B0⟩
theorem no_all (h : NoTab w r) : Calls Try.prog 52 #[r] w fun q w' => q = .returned (.func (.func 59) #[] #[]) ∧ w' = w := by
  have q := no_made h
  clear h
  go_enter Try.func52, Try.ntmps52
  go_wp2_with (go_at_call 35; refine still q ?_)
  go_ret
  exact ⟨rfl, rfl⟩
end
/-- Nothing, one by one. -/
theorem none_hands (n : Nat) (w0 : World) : HandsK6 Fence.wide n Try.prog 59 #[] 0 (fun _ _ => True) (fun _ => #[undef]) w0 := by
  intro L J Jx W hK hW hJ hJx _ _ hY h0
  refine callsIn_of_wp Try.func59 rfl trivial ?_ rfl
  simp only [Try.ntmps59, List.size_toArray, List.length_cons, List.length_nil, Nat.reduceAdd, Nat.reduceSub, Array.replicate_succ, Array.replicate_zero, List.push_toArray, List.append_toArray, List.nil_append, List.cons_append]
  gi_wp2_with (fail)
  go_end0
  exact ⟨⟨_, rfl⟩, .inl h0⟩

set_option maxRecDepth 100000 in
set_option maxHeartbeats 4000000 in
theorem list_none_ptr (w : World) (p : Option Addr) (h : NoTab w (.pointer p)) (n : Int) : Calls Try.prog 32 #[.pointer p, .int .i64 n] w fun e w' => e = .returned (.slice none 0 0) ∧ Below w.heap.size w w' := by
  obtain ⟨W0, hW0⟩ : ∃ W0, W0 = (w.alloc (.cells #[.int .i64 n] 3)).alloc (.cells #[.slice none 0 0] 38) := ⟨_, rfl⟩
  obtain ⟨x0, x1, B0⟩ := two_new w (.cells #[.int .i64 n] 3) (.cells #[.slice none 0 0] 38)
  rw [← hW0] at x0 x1 B0
  have AL := hide (no_all (h.later B0))
  clear h
  refine (callsIn_wide (n := 5)).1 ?_
  refine callsIn_of_wp_marks Try.func32 rfl trivial ?_ rfl
  simp only [Try.ntmps32, List.size_toArray, List.length_cons, List.length_nil, Nat.reduceAdd, Nat.reduceSub, Array.replicate_succ, Array.replicate_zero, List.push_toArray, List.append_toArray, List.nil_append, List.cons_append]
  rw [wpIn_wide]
  have HW := hide hW0
  rw [hW0] at AL
  clear hW0
  go_wp2_with (first
    | (go_at_call 52; refine still AL.out ?_; clear AL))
  rw [← HW.out]
  have z0 : w.heap.size + 2 ≤ W0.heap.size := by rw [HW.out]; simp
  clear HW
  rw [← wpIn_wide (n := 5)]
  refine wpIn_handsK7 rfl (by decide) (gf := 59) (lb := #[]) rfl trivial (enters_of Try.func59 (by kernel_rfl) rfl) (none_hands _ W0) trivial (fun _ _ => trivial) (fun _ _ _ => trivial) (fun _ _ => trivial) (fun _ => rfl)
    (fun _ A => A.heap[w.heap.size + 1]? = some (.cells #[.slice none 0 0] 38 (0, 0)) ∧ Below w.heap.size w A) (fun _ _ _ => False)
    (fun k A B h hg => ⟨(hg.block _ (Array.getElem?_eq_some_iff.1 h.1).1 (by simp)).trans h.1, h.2.grown hg h.2.size (fun _ e => by cases e)⟩) (fun _ _ _ _ h _ => h) (fun k A i o o' h hi ha ho => ⟨(World.putObj_heap_other (by omega)).trans h.1, h.2.trans ⟨rfl, rfl, rfl, by simp [World.putObj], fun j hj => World.putObj_heap_other (by omega)⟩⟩) (fun _ _ _ _ _ _ h _ _ _ => h)
    (fun o => by
      have bb : Below W0.heap.size W0 ((W0.alloc (.deferred (some []))).alloc o) := ((Below.refl _ _).alloc (Nat.le_refl _) _).alloc (by simp) _
      exact ⟨keepB bb x1, B0.trans (bb.mono B0.size)⟩)
    (fun _ _ _ _ => trivial) (fun _ _ _ => False) (fun _ _ _ _ h => h) (fun _ _ _ _ h => absurd h (Nat.not_lt_zero _)) (fun _ _ _ _ h => absurd h (Nat.not_lt_zero _)) ?_ (fun _ _ _ _ h => h.elim)
  rintro B ⟨h1, h2⟩ hd
  have c1 := Joins.cell_of_block h1 0
  have B9 : Below w.heap.size w (B.putObj W0.heap.size (.deferred none)) := h2.trans ⟨rfl, rfl, rfl, by simp [World.putObj], fun i hi => World.putObj_heap_other (by omega)⟩
  clear x0 x1 B0 h1 h2
  gi_wp2_with (fail)
  go_wp2_with (fail)
  exact leaves_one hd (v := .slice none 0 0) (by simp [results, Try.results32, go_sem]) ⟨rfl, B9⟩
theorem list_none {w : World} {r : Value} (h : NoTab w r) (n : Int) : Calls Try.prog 32 #[r, .int .i64 n] w fun e w' => e = .returned (.slice none 0 0) ∧ Below w.heap.size w w' := by
  have h' := h
  rcases h' with rfl | ⟨b, rfl, _⟩
  · exact list_none_ptr w none h n
  · exact list_none_ptr w _ h n
end Go.Proofs.Ytgfkchdlhknecaa
