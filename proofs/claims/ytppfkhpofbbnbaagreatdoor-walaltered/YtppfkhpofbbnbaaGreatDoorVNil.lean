/-
  A file system that is nil, or that nobody made: each call is refused.
-/
import Derived.Test.YtppfkhpofbbnbaaGreatDoorVAppend
namespace Go.Proofs.YtppfkhpofbbnbaaGreatDoor
open Go.RowKit Go.Maps Go.Sort

/-- No file system. -/
def NoFs (w : World) (r : Value) : Prop := r = .pointer none ∨ ∃ b, r = .pointer (some ⟨b, 0, none⟩) ∧ w.cell? ⟨b, 5, none⟩ = some (.map none)
theorem NoFs.later {w w' : World} {r : Value} (h : NoFs w r) (hb : Below w.heap.size w w') : NoFs w' r := by
  rcases h with h | ⟨b, h, hc⟩
  · exact .inl h
  · exact .inr ⟨b, h, keepC hb hc⟩
section
variable {w : World} {r : Value}
theorem no_made (h : NoFs w r) : Calls Tryz.prog 69 #[r] w fun e w' => e = .returned (.bool false) ∧ w' = w := by
  rcases h with rfl | ⟨b, rfl, hc⟩
  · exact made_nil w
  · exact made_zero w b hc
theorem no_refused (h : NoFs w r) (v : Value) : Calls Tryz.prog 68 #[r, v] w fun e w' => e = .returned (.int .i64 1) ∧ w' = w := by
  rcases h with rfl | ⟨b, rfl, hc⟩
  · exact refused_nil w v
  · exact refused_zero w b v hc
theorem no_find (h : NoFs w r) (s : ByteArray) : Calls Tryz.prog 72 #[r, .string s] w fun e w' => e = .returned (.tuple #[.int .i64 0, .int .i64 1]) ∧ w' = w.alloc (.cells #[.string s] 9) := by
  rcases h with rfl | ⟨b, rfl, hc⟩
  · exact find_nil w s
  · exact find_zero w b s hc
theorem no_create (h : NoFs w r) (s : ByteArray) : Calls Tryz.prog 85 #[r, .string s] w fun e w' => e = .returned (.int .i64 1) ∧ Below w.heap.size w w' := by
  have q := no_find h s
  clear h
  go_enter Tryz.func85, Tryz.ntmps85
  go_wp2_with (go_at_call 72; refine still2 q ?_)
  go_ret
  exact ⟨rfl, (Below.refl _ _).alloc (Nat.le_refl _) _⟩
theorem no_remove (h : NoFs w r) (s : ByteArray) : Calls Tryz.prog 66 #[r, .string s] w fun e w' => e = .returned (.int .i64 1) ∧ Below w.heap.size w w' := by
  have q := no_find h s
  clear h
  go_enter Tryz.func66, Tryz.ntmps66
  go_wp2_with (go_at_call 72; refine still2 q ?_)
  go_ret
  exact ⟨rfl, (Below.refl _ _).alloc (Nat.le_refl _) _⟩
theorem no_sync (h : NoFs w r) (s : ByteArray) : Calls Tryz.prog 90 #[r, .string s] w fun e w' => e = .returned (.int .i64 1) ∧ Below w.heap.size w w' := by
  have q := no_find h s
  clear h
  go_enter Tryz.func90, Tryz.ntmps90
  go_wp2_with (go_at_call 72; refine still2 q ?_)
  go_ret
  exact ⟨rfl, (Below.refl _ _).alloc (Nat.le_refl _) _⟩
theorem no_syncNames (h : NoFs w r) : Calls Tryz.prog 67 #[r] w fun e w' => e = .returned (.int .i64 1) ∧ w' = w := by
  have q := no_refused h (.slice none 0 0)
  clear h
  go_enter Tryz.func67, Tryz.ntmps67
  go_wp2_with (go_at_call 68; refine still q ?_)
  go_ret
  exact ⟨rfl, rfl⟩
theorem no_fuse (h : NoFs w r) (n : Int) : Calls Tryz.prog 32 #[r, .int .i64 n] w fun e w' => e = .returned (.int .i64 1) ∧ w' = w := by
  have q := no_refused h (.slice none 0 0)
  clear h
  go_enter Tryz.func32, Tryz.ntmps32
  go_wp2_with (go_at_call 68; refine still q ?_)
  go_ret
  exact ⟨rfl, rfl⟩
theorem no_left (h : NoFs w r) : Calls Tryz.prog 50 #[r] w fun e w' => e = .returned (.int .i64 0) ∧ w' = w := by
  have q := no_refused h (.slice none 0 0)
  clear h
  go_enter Tryz.func50, Tryz.ntmps50
  go_wp2_with (go_at_call 68; refine still q ?_)
  go_ret
  exact ⟨rfl, rfl⟩
theorem no_names (h : NoFs w r) : Calls Tryz.prog 96 #[r] w fun e w' => e = .returned (.slice none 0 0) ∧ w' = w := by
  have q := no_refused h (.slice none 0 0)
  clear h
  go_enter Tryz.func96, Tryz.ntmps96
  go_wp2_with (go_at_call 68; refine still q ?_)
  go_ret
  exact ⟨rfl, rfl⟩
theorem no_crash (h : NoFs w r) (k t : Int) : Calls Tryz.prog 33 #[r, .int .i64 k, .int .i64 t] w fun e w' => e = .returned (.int .i64 1) ∧ w' = w := by
  have q := no_made h
  clear h
  go_enter Tryz.func33, Tryz.ntmps33
  go_wp2_with (go_at_call 69; refine still q ?_)
  go_ret
  exact ⟨rfl, rfl⟩
theorem no_alter (h : NoFs w r) (s : ByteArray) (n : Int) (v : Value) : Calls Tryz.prog 38 #[r, .string s, .int .i64 n, v] w fun e w' => e = .returned (.int .i64 1) ∧ w' = w := by
  have q := no_made h
  clear h
  go_enter Tryz.func38, Tryz.ntmps38
  go_wp2_with (go_at_call 69; refine still q ?_)
  go_ret
  exact ⟨rfl, rfl⟩
theorem no_on (h : NoFs w r) : Calls Tryz.prog 86 #[r] w fun e w' => e = .returned (.bool false) ∧ w' = w := by
  have q := no_made h
  clear h
  go_enter Tryz.func86, Tryz.ntmps86
  go_wp2_with (go_at_call 69; refine still q ?_)
  go_ret
  exact ⟨rfl, rfl⟩
theorem no_read (h : NoFs w r) (s : ByteArray) : Calls Tryz.prog 35 #[r, .string s] w fun e w' => e = .returned (.tuple #[.slice none 0 0, .int .i64 1]) ∧ Below w.heap.size w w' := by
  have q := no_find h s
  clear h
  go_enter Tryz.func35, Tryz.ntmps35
  go_wp2_with (go_at_call 72; refine still2 q ?_)
  go_ret2
  exact ⟨rfl, (Below.refl _ _).alloc (Nat.le_refl _) _⟩
set_option maxHeartbeats 1600000 in
theorem no_append_ptr (p : Option Addr) (h : NoFs w (.pointer p)) (s : ByteArray) (v : Value) : Calls Tryz.prog 89 #[.pointer p, .string s, v] w fun e w' => e = .returned (.int .i64 1) ∧ Below w.heap.size w w' := by
  have B0 : Below w.heap.size w ((w.alloc (.cells #[.pointer p] 37)).alloc (.cells #[.int .i64 0] 23)) := ((Below.refl _ _).alloc (Nat.le_refl _) _).alloc (by simp) _
  have q := no_find (h.later B0) s
  clear h
  refine (callsIn_wide (n := 5)).1 ?_
  refine callsIn_of_wp_marks Tryz.func89 rfl trivial ?_ rfl
  simp only [Tryz.ntmps89, List.size_toArray, List.length_cons, List.length_nil, Nat.reduceAdd, Nat.reduceSub, Array.replicate_succ, Array.replicate_zero, List.push_toArray, List.append_toArray, List.nil_append, List.cons_append]
  rw [wpIn_wide]
  go_wp2_with (first
    | (go_at_call 72; refine still2 q ?_))
  have BL : Below w.heap.size w ((((w.alloc (.cells #[.pointer p] 37)).alloc (.cells #[.int .i64 1] 23)).alloc (.cells #[.string s] 9)).alloc (.cells #[.int .i64 0] 3)) := (((((Below.refl _ _).alloc (Nat.le_refl _) _).alloc (by simp) _).alloc (by simp; omega) _).alloc (by simp; omega) _)
  have XE : Boxed ((((w.alloc (.cells #[.pointer p] 37)).alloc (.cells #[.int .i64 1] 23)).alloc (.cells #[.string s] 9)).alloc (.cells #[.int .i64 0] 3)) (w.heap.size + 1) 23 (.int .i64 1) := by
    have h0 := boxedL (Boxed.new (w.alloc (.cells #[.pointer p] 37)) 23 (.int .i64 1)) (((Below.refl _ _).alloc (Nat.le_refl _) (.cells #[.string s] 9)).alloc (by simp) (.cells #[.int .i64 0] 3))
    rw [World.size_alloc] at h0
    exact h0
  have ce := XE.cell
  exact ⟨.int .i64 1, (by simp [results, Tryz.results89, go_sem, ce]), rfl, BL⟩
theorem no_append (h : NoFs w r) (s : ByteArray) (v : Value) : Calls Tryz.prog 89 #[r, .string s, v] w fun e w' => e = .returned (.int .i64 1) ∧ Below w.heap.size w w' := by
  have h' := h
  rcases h' with rfl | ⟨b, rfl, _⟩
  · exact no_append_ptr none h s v
  · exact no_append_ptr _ h s v
end
end Go.Proofs.YtppfkhpofbbnbaaGreatDoor
