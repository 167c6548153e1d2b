/-
  The fuse; a new file system; what a file holds.
-/
import Derived.Test.YtclokpkhkokfhabVCalls3
namespace Go.Proofs.Ytclokpkhkokfhab
open Go.RowKit Go.Maps

theorem new_bad (w : World) (room : Int) (h : room < 0 ∨ room > 1073741824) : Calls Try.prog 6 #[.int .i64 room] w fun e w' => e = .returned (.tuple #[.pointer none, .int .i64 2]) ∧ w' = w := by
  by_cases h1 : room < 0
  · go_enter Try.func6, Try.ntmps6
    go_wp2
    go_ret2
    exact ⟨rfl, rfl⟩
  · have h2 : room > 1073741824 := by omega
    go_enter Try.func6, Try.ntmps6
    go_wp2
    go_ret2
    exact ⟨rfl, rfl⟩

theorem new_any (w : World) (room : Nat) (h : room ≤ 1073741824) : Calls Try.prog 6 #[.int .i64 (room : Int)] w fun e w' => e = .returned (.tuple #[.pointer (some ⟨w.heap.size + 3, 0, none⟩), .int .i64 0]) ∧ Rep w' (w.heap.size + 3) (Vf.new room) (fun i => w.heap.size ≤ i ∧ i < w'.heap.size) ∧ Below w.heap.size w w' := by
  have h1 : ¬ (room : Int) < 0 := by omega
  have h2 : ¬ (room : Int) > 1073741824 := by omega
  have hmm := @run_makeMap Try.prog
  have FIN : Hid (Rep ((((w.alloc (.map #[] 0)).alloc (.map #[] 0)).alloc (.map #[] 0)).alloc (.cells #[.int .i64 (room : Int), .int .i64 0, .bool true, .int .i64 (-1), .int .i64 0, .map (some w.heap.size), .map (some (w.heap.size + 1)), .map (some (w.heap.size + 1 + 1)), .slice none 0 0] 48)) (w.heap.size + 3) (Vf.new room) (fun i => w.heap.size ≤ i ∧ i < ((((w.alloc (.map #[] 0)).alloc (.map #[] 0)).alloc (.map #[] 0)).alloc (.cells #[.int .i64 (room : Int), .int .i64 0, .bool true, .int .i64 (-1), .int .i64 0, .map (some w.heap.size), .map (some (w.heap.size + 1)), .map (some (w.heap.size + 1 + 1)), .slice none 0 0] 48)).heap.size)) := by
    generalize hC : Obj.cells #[.int .i64 (room : Int), .int .i64 0, .bool true, .int .i64 (-1), .int .i64 0, .map (some w.heap.size), .map (some (w.heap.size + 1)), .map (some (w.heap.size + 1 + 1)), .slice none 0 0] 48 = C
    have z : ((((w.alloc (.map #[] 0)).alloc (.map #[] 0)).alloc (.map #[] 0)).alloc C).heap.size = w.heap.size + 4 := by simp
    have p1 : PtrsAt ((((w.alloc (.map #[] 0)).alloc (.map #[] 0)).alloc (.map #[] 0)).alloc C) w.heap.size 0 (fun _ => none) := (PtrsAt.made w).same (((Below.heap_alloc _ C _ (by simp; omega)).trans (Below.heap_alloc _ _ _ (by simp; omega))).trans (Below.heap_alloc _ _ _ (by simp)))
    have p2 : NamesAt ((((w.alloc (.map #[] 0)).alloc (.map #[] 0)).alloc (.map #[] 0)).alloc C) (w.heap.size + 1) [] := by
      have := NamesAt.made (w.alloc (.map #[] 0))
      rw [World.size_alloc] at this
      exact this.same ((Below.heap_alloc _ C _ (by simp)).trans (Below.heap_alloc _ _ _ (by simp)))
    have p3 : NamesAt ((((w.alloc (.map #[] 0)).alloc (.map #[] 0)).alloc (.map #[] 0)).alloc C) (w.heap.size + 2) [] := by
      have := NamesAt.made ((w.alloc (.map #[] 0)).alloc (.map #[] 0))
      rw [World.size_alloc, World.size_alloc] at this
      exact this.same (Below.heap_alloc _ C _ (by simp))
    have p4 : ((((w.alloc (.map #[] 0)).alloc (.map #[] 0)).alloc (.map #[] 0)).alloc C).heap[w.heap.size + 3]? = some C := by
      have := new_block (((w.alloc (.map #[] 0)).alloc (.map #[] 0)).alloc (.map #[] 0)) C
      rw [World.size_alloc, World.size_alloc, World.size_alloc] at this
      exact this
    refine ⟨w.heap.size, w.heap.size + 1, w.heap.size + 2, .slice none 0 0, fun _ => none, fun _ => .slice none 0 0, ⟨?_, p1, p2, p3, World.ownsRow_nil _ _ _ _, fun n => rfl, (fun n g x hn => by cases hn), (fun n n' g hn => by cases hn), (fun n n' g hn => absurd rfl hn), (by omega), (by omega), (by omega), ⟨by omega, by omega⟩, ⟨by omega, by omega⟩, ⟨by omega, by omega⟩, ⟨by omega, by omega⟩, (fun g hg => by cases hg), (fun n g hn => by cases hn), (fun n g hn => absurd rfl hn), (fun i hi => hi.2)⟩⟩
    rw [p4, ← hC]
    rfl
  go_enter Try.func6, Try.ntmps6
  go_wp2
  go_ret2
  exact ⟨rfl, FIN.out, ((((Below.refl _ _).alloc (Nat.le_refl _) _).alloc (by simp) _).alloc (by simp; omega) _).alloc (by simp; omega) _⟩

/-- A copy of bytes that a file has. -/
theorem clone_bytes (w : World) (v : Value) (l : List UInt8) (h : w.ownsRow 0 5 1 v l.length (bc l)) (hl : l.length ≤ 140737488355328) :
    Calls Try.prog 29 #[v] w fun e w' => ∃ v', e = .returned v' ∧ w'.ownsRow w.heap.size 5 1 v' l.length (bc l) ∧ Below w.heap.size w w' := by
  rcases h.2 with ⟨rfl, h0⟩ | ⟨g, cap, cur, hv, _⟩
  · refine (Try.bytes_Clone_nil 0 0 w).mono ?_
    rintro e w' ⟨rfl, rfl⟩
    have : l = [] := List.eq_nil_of_length_eq_zero h0
    subst this
    exact ⟨_, rfl, World.ownsRow_nil _ _ _ _, Below.refl _ _⟩
  · have ho := h
    subst hv
    have hxs : (l.map fun c => (c.toNat : Int)).map (Value.int .u8) = bc l := by unfold bc; rw [List.map_map]; rfl
    refine (Try.bytes_Clone_at ⟨g, 0, none⟩ l.length cap (l.map fun c => (c.toNat : Int)) w (by simp) hl ?_).mono ?_
    · intro i hi
      have e1 := own_cells ho i (.int .u8 (l[i].toNat : Int)) (bc_get l i hi)
      rw [e1]
      simp [hi]
    · rintro e w' ⟨v', rfl, o, _, hb⟩
      rw [hxs] at o
      exact ⟨v', rfl, o, hb⟩

set_option maxHeartbeats 400000 in
theorem read_any (w : World) (b : Nat) (σ : Vf.St) (S : Nat → Prop) (h : Rep w b σ S) (r : Ready σ) (k : Vf.Bs) (hk : k.length ≤ 1000000) (E : Int) (HE : Hid (E = Vf.findE σ k)) :
    Calls Try.prog 16 #[.pointer (some ⟨b, 0, none⟩), str k] w fun e w' => ∃ v', e = .returned (.tuple #[v', .int .i64 E]) ∧ w'.ownsRow w.heap.size 5 1 v' (Vf.read σ k).length (bc (Vf.read σ k)) ∧ Below w.heap.size w w' := by
  obtain ⟨bf, bh, bd, pv, fs, sl, hr⟩ := h
  obtain ⟨N, hN⟩ : ∃ N, N = if Vf.findE σ k = 0 then Vf.num σ.held k else 0 := ⟨_, rfl⟩
  have q := find_some w b bf bh bd pv fs sl σ S hr k hk E HE N hN
  have B1 : Below w.heap.size w (w.alloc (.cells #[str k] 9)) := (Below.refl _ _).alloc (Nat.le_refl _) _
  have h1 := hr.alloc (.cells #[str k] 9)
  by_cases f0 : E = 0
  · have ff : Vf.findE σ k = 0 := by rw [← HE.out, f0]
    have n0 : N = Vf.num σ.held k := by rw [hN, if_pos ff]
    have hlk : (Vf.look σ.held k).isSome = true := by
      cases e : (Vf.look σ.held k).isSome with
      | true => rfl
      | false =>
        unfold Vf.findE at ff
        split at ff
        · rw [e] at ff; cases ff
        · rename_i hh; exact absurd ff hh
    obtain ⟨m, hm⟩ := Option.isSome_iff_exists.1 hlk
    have nm : N = m := by rw [n0]; unfold Vf.num; rw [hm]; rfl
    obtain ⟨x, hx⟩ := r.heldIn k m hm
    rw [← nm] at hx
    obtain ⟨g, hg⟩ : ∃ g, fs N = some g := by have := hr.dom N; rw [hx] at this; exact Option.isSome_iff_exists.1 this
    have e2 : Vf.read σ k = x.bytes := by unfold Vf.read Vf.bytesOf; rw [if_pos ff, ← n0, hx]
    rw [e2]
    have c5 := h1.cells.2.2.2.2.2.1
    have nle : N ≤ 1000000000 := by rw [n0]; exact r.heldV k
    have L := h1.files.look N (by omega)
    rw [ptr_some hg] at L
    have d0 := file_cell h1 hg hx
    have CB := clone_bytes _ (sl N) x.bytes (h1.file N g x hg hx).2 (by have := r.bytes N x hx; omega)
    have B2 : Hid _ := B1
    subst f0
    clear hN HE ff n0 hlk hm nm hx hg e2 h1 hr B1
    go_enter Try.func16, Try.ntmps16
    go_wp2_with (first
      | (go_at_call 19; refine still2 q ?_)
      | (go_at_call 29; refine CB.mono ?_; rintro e w3 ⟨v3, rfl, o3, b3⟩))
    go_ret2
    exact ⟨v3, rfl, own_base o3 B2.out.size, B2.out.trans (b3.mono B2.out.size)⟩
  · have ff : ¬ Vf.findE σ k = 0 := by rw [← HE.out]; exact f0
    have e2 : Vf.read σ k = [] := by unfold Vf.read; rw [if_neg ff]
    rw [e2]
    have b0 : (E != 0) = true := by simpa using f0
    have B2 : Hid _ := B1
    clear hN HE ff e2 h1 hr B1
    go_enter Try.func16, Try.ntmps16
    go_wp2_with (go_at_call 19; refine still2 q ?_)
    go_ret2
    exact ⟨_, rfl, World.ownsRow_nil _ _ _ _, B2.out⟩
end Go.Proofs.Ytclokpkhkokfhab
