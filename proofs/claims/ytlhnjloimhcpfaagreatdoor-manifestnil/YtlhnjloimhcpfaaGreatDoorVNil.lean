/-
  A file system that is nil, or that nobody made: each call is refused.
-/
import Derived.Test.YtlhnjloimhcpfaaGreatDoorVAppend
namespace Go.Proofs.YtlhnjloimhcpfaaGreatDoor
open Go.RowKit Go.Maps Go.Sort

/-- No file system. -/
def NoFs (w : World) (r : Value) : Prop := r = .pointer none ∨ ∃ b, r = .pointer (some ⟨b, 0, none⟩) ∧ w.cell? ⟨b, 5, none⟩ = some (.map none)
theorem NoFs.later {w w' : World} {r : Value} (h : NoFs w r) (hb : Below w.heap.size w w') : NoFs w' r := by
  rcases h with h | ⟨b, h, hc⟩
  · exact .inl h
  · exact .inr ⟨b, h, keepC hb hc⟩
section
variable {w : World} {r : Value}
theorem no_made (h : NoFs w r) : Calls Tryz.prog 108 #[r] w fun e w' => e = .returned (.bool false) ∧ w' = w := by
  rcases h with rfl | ⟨b, rfl, hc⟩
  · exact made_nil w
  · exact made_zero w b hc
theorem no_refused (h : NoFs w r) (v : Value) : Calls Tryz.prog 59 #[r, v] w fun e w' => e = .returned (.int .i64 1) ∧ w' = w := by
  rcases h with rfl | ⟨b, rfl, hc⟩
  · exact refused_nil w v
  · exact refused_zero w b v hc
theorem no_find (h : NoFs w r) (s : ByteArray) : Calls Tryz.prog 105 #[r, .string s] w fun e w' => e = .returned (.tuple #[.int .i64 0, .int .i64 1]) ∧ w' = w.alloc (.cells #[.string s] 9) := by
  rcases h with rfl | ⟨b, rfl, hc⟩
  · exact find_nil w s
  · exact find_zero w b s hc
theorem no_create (h : NoFs w r) (s : ByteArray) : Calls Tryz.prog 164 #[r, .string s] w fun e w' => e = .returned (.int .i64 1) ∧ Below w.heap.size w w' := by
  have q := no_find h s
  clear h
  go_enter Tryz.func164, Tryz.ntmps164
  go_wp2_with (go_at_call 105; refine still2 q ?_)
  go_ret
  exact ⟨rfl, (Below.refl _ _).alloc (Nat.le_refl _) _⟩
theorem no_remove (h : NoFs w r) (s : ByteArray) : Calls Tryz.prog 50 #[r, .string s] w fun e w' => e = .returned (.int .i64 1) ∧ Below w.heap.size w w' := by
  have q := no_find h s
  clear h
  go_enter Tryz.func50, Tryz.ntmps50
  go_wp2_with (go_at_call 105; refine still2 q ?_)
  go_ret
  exact ⟨rfl, (Below.refl _ _).alloc (Nat.le_refl _) _⟩
theorem no_sync (h : NoFs w r) (s : ByteArray) : Calls Tryz.prog 115 #[r, .string s] w fun e w' => e = .returned (.int .i64 1) ∧ Below w.heap.size w w' := by
  have q := no_find h s
  clear h
  go_enter Tryz.func115, Tryz.ntmps115
  go_wp2_with (go_at_call 105; refine still2 q ?_)
  go_ret
  exact ⟨rfl, (Below.refl _ _).alloc (Nat.le_refl _) _⟩
theorem no_syncNames (h : NoFs w r) : Calls Tryz.prog 103 #[r] w fun e w' => e = .returned (.int .i64 1) ∧ w' = w := by
  have q := no_refused h (.slice none 0 0)
  clear h
  go_enter Tryz.func103, Tryz.ntmps103
  go_wp2_with (go_at_call 59; refine still q ?_)
  go_ret
  exact ⟨rfl, rfl⟩
theorem no_fuse (h : NoFs w r) (n : Int) : Calls Tryz.prog 45 #[r, .int .i64 n] w fun e w' => e = .returned (.int .i64 1) ∧ w' = w := by
  have q := no_refused h (.slice none 0 0)
  clear h
  go_enter Tryz.func45, Tryz.ntmps45
  go_wp2_with (go_at_call 59; refine still q ?_)
  go_ret
  exact ⟨rfl, rfl⟩
theorem no_left (h : NoFs w r) : Calls Tryz.prog 57 #[r] w fun e w' => e = .returned (.int .i64 0) ∧ w' = w := by
  have q := no_refused h (.slice none 0 0)
  clear h
  go_enter Tryz.func57, Tryz.ntmps57
  go_wp2_with (go_at_call 59; refine still q ?_)
  go_ret
  exact ⟨rfl, rfl⟩
theorem no_names (h : NoFs w r) : Calls Tryz.prog 18 #[r] w fun e w' => e = .returned (.slice none 0 0) ∧ w' = w := by
  have q := no_refused h (.slice none 0 0)
  clear h
  go_enter Tryz.func18, Tryz.ntmps18
  go_wp2_with (go_at_call 59; refine still q ?_)
  go_ret
  exact ⟨rfl, rfl⟩
theorem no_crash (h : NoFs w r) (k t : Int) : Calls Tryz.prog 82 #[r, .int .i64 k, .int .i64 t] w fun e w' => e = .returned (.int .i64 1) ∧ w' = w := by
  have q := no_made h
  clear h
  go_enter Tryz.func82, Tryz.ntmps82
  go_wp2_with (go_at_call 108; refine still q ?_)
  go_ret
  exact ⟨rfl, rfl⟩
theorem no_alter (h : NoFs w r) (s : ByteArray) (n : Int) (v : Value) : Calls Tryz.prog 86 #[r, .string s, .int .i64 n, v] w fun e w' => e = .returned (.int .i64 1) ∧ w' = w := by
  have q := no_made h
  clear h
  go_enter Tryz.func86, Tryz.ntmps86
  go_wp2_with (go_at_call 108; refine still q ?_)
  go_ret
  exact ⟨rfl, rfl⟩
theorem no_pending (h : NoFs w r) : Calls Tryz.prog 91 #[r] w fun e w' => e = .returned (.int .i64 0) ∧ w' = w := by
  have q := no_made h
  clear h
  go_enter Tryz.func91, Tryz.ntmps91
  go_wp2_with (go_at_call 108; refine still q ?_)
  go_ret
  exact ⟨rfl, rfl⟩
theorem no_steps (h : NoFs w r) : Calls Tryz.prog 90 #[r] w fun e w' => e = .returned (.int .i64 0) ∧ w' = w := by
  have q := no_made h
  clear h
  go_enter Tryz.func90, Tryz.ntmps90
  go_wp2_with (go_at_call 108; refine still q ?_)
  go_ret
  exact ⟨rfl, rfl⟩
theorem no_on (h : NoFs w r) : Calls Tryz.prog 52 #[r] w fun e w' => e = .returned (.bool false) ∧ w' = w := by
  have q := no_made h
  clear h
  go_enter Tryz.func52, Tryz.ntmps52
  go_wp2_with (go_at_call 108; refine still q ?_)
  go_ret
  exact ⟨rfl, rfl⟩
theorem no_read (h : NoFs w r) (s : ByteArray) : Calls Tryz.prog 93 #[r, .string s] w fun e w' => e = .returned (.tuple #[.slice none 0 0, .int .i64 1]) ∧ Below w.heap.size w w' := by
  have q := no_find h s
  clear h
  go_enter Tryz.func93, Tryz.ntmps93
  go_wp2_with (go_at_call 105; refine still2 q ?_)
  go_ret2
  exact ⟨rfl, (Below.refl _ _).alloc (Nat.le_refl _) _⟩
theorem no_rename (h : NoFs w r) (s t : ByteArray) : Calls Tryz.prog 104 #[r, .string s, .string t] w fun e w' => e = .returned (.int .i64 1) ∧ Below w.heap.size w w' := by
  have q := fun v => no_refused (h.later ((Below.refl _ _).alloc (Nat.le_refl _) (.cells #[.string s, .string t] 9))) v
  clear h
  go_enter Tryz.func104, Tryz.ntmps104
  go_wp2_with (go_at_call 59; refine still (q _) ?_)
  go_ret
  exact ⟨rfl, (Below.refl _ _).alloc (Nat.le_refl _) _⟩
set_option maxHeartbeats 1600000 in
theorem no_append_ptr (p : Option Addr) (h : NoFs w (.pointer p)) (s : ByteArray) (v : Value) : Calls Tryz.prog 114 #[.pointer p, .string s, v] w fun e w' => e = .returned (.int .i64 1) ∧ Below w.heap.size w w' := by
  have B0 : Below w.heap.size w ((w.alloc (.cells #[.pointer p] 22)).alloc (.cells #[.int .i64 0] 23)) := ((Below.refl _ _).alloc (Nat.le_refl _) _).alloc (by simp) _
  have q := no_find (h.later B0) s
  clear h
  refine (callsIn_wide (n := 5)).1 ?_
  refine callsIn_of_wp_marks Tryz.func114 rfl trivial ?_ rfl
  simp only [Tryz.ntmps114, List.size_toArray, List.length_cons, List.length_nil, Nat.reduceAdd, Nat.reduceSub, Array.replicate_succ, Array.replicate_zero, List.push_toArray, List.append_toArray, List.nil_append, List.cons_append]
  rw [wpIn_wide]
  go_wp2_with (first
    | (go_at_call 105; refine still2 q ?_))
  have BL : Below w.heap.size w ((((w.alloc (.cells #[.pointer p] 22)).alloc (.cells #[.int .i64 1] 23)).alloc (.cells #[.string s] 9)).alloc (.cells #[.int .i64 0] 3)) := (((((Below.refl _ _).alloc (Nat.le_refl _) _).alloc (by simp) _).alloc (by simp; omega) _).alloc (by simp; omega) _)
  have XE : Boxed ((((w.alloc (.cells #[.pointer p] 22)).alloc (.cells #[.int .i64 1] 23)).alloc (.cells #[.string s] 9)).alloc (.cells #[.int .i64 0] 3)) (w.heap.size + 1) 23 (.int .i64 1) := by
    have h0 := boxedL (Boxed.new (w.alloc (.cells #[.pointer p] 22)) 23 (.int .i64 1)) (((Below.refl _ _).alloc (Nat.le_refl _) (.cells #[.string s] 9)).alloc (by simp) (.cells #[.int .i64 0] 3))
    rw [World.size_alloc] at h0
    exact h0
  have ce := XE.cell
  exact ⟨.int .i64 1, (by simp [results, Tryz.results114, go_sem, ce]), rfl, BL⟩
theorem no_append (h : NoFs w r) (s : ByteArray) (v : Value) : Calls Tryz.prog 114 #[r, .string s, v] w fun e w' => e = .returned (.int .i64 1) ∧ Below w.heap.size w w' := by
  have h' := h
  rcases h' with rfl | ⟨b, rfl, _⟩
  · exact no_append_ptr none h s v
  · exact no_append_ptr _ h s v
end
end Go.Proofs.YtlhnjloimhcpfaaGreatDoor
