/-
  The statements' own first question: the examples that it asks hold, so it answers true; it leaves all that was there as it was.
-/
import Derived.Test.YtbcbdaaaglkjhaaTuple
import Derived.Test.YtbcbdaaaglkjhaaSame
namespace Go.Proofs.Ytbcbdaaaglkjhaa
open Go.RowKit

def liveVals : List Val := [⟨0, 0, ByteArray.empty⟩, ⟨1, 1, ByteArray.empty⟩, ⟨2, -1, ByteArray.empty⟩, ⟨3, 0, ⟨#[97]⟩⟩]
def liveBytes : List UInt8 := [1, 2, 1, 3, 127, 255, 255, 255, 255, 255, 255, 255, 4, 97, 0, 1]

theorem live_tupE : tupE liveVals = 0 := by decide +kernel
theorem live_tupB : tupB liveVals = liveBytes := by decide +kernel
theorem live_tupS : tupS liveVals = ⟨liveBytes.toArray⟩ := by unfold tupS; rw [if_pos live_tupE, live_tupB]

def liveCells : Array Value := #[.int .u8 0, .int .i64 0, .string ByteArray.empty, .int .u8 1, .int .i64 1, .string ByteArray.empty, .int .u8 2, .int .i64 (-1), .string ByteArray.empty, .int .u8 3, .int .i64 0, .string ⟨#[97]⟩]

set_option maxHeartbeats 400000 in
theorem values_any (w : World) : Calls Try.prog 50 #[] w fun e w' => e = .returned (.slice (some ⟨w.heap.size, 0, none⟩) 4 4) ∧ w' = w.alloc (.cells liveCells 32) := by
  go_enter Try.func50, Try.ntmps50
  go_wp2
  go_ret
  exact ⟨rfl, rfl⟩

theorem live_in (w : World) : ValsIn (w.alloc (.cells liveCells 32)) (.slice (some ⟨w.heap.size, 0, none⟩) 4 4) liveVals := by
  refine ⟨⟨_, 4, rfl, fun _ => ⟨_, _, rfl, ?_⟩⟩, ?_, by decide⟩
  · intro j hj
    have h : ∀ i, (w.alloc (.cells liveCells 32)).cell? ⟨w.heap.size, i, none⟩ = liveCells[i]? := fun i => World.cell?_alloc_mark w liveCells _ _ i
    simp only [h]
    match j, hj with
    | 0, _ => exact ⟨rfl, rfl, rfl⟩
    | 1, _ => exact ⟨rfl, rfl, rfl⟩
    | 2, _ => exact ⟨rfl, rfl, rfl⟩
    | 3, _ => exact ⟨rfl, rfl, rfl⟩
  · intro v hv
    simp only [liveVals, List.mem_cons, List.not_mem_nil, or_false] at hv
    rcases hv with rfl | rfl | rfl | rfl <;> exact ⟨by decide, by decide, by decide, by decide, by decide⟩

theorem rd_live : rd [172, 2, 9] = (300, 2, 0) := by decide +kernel

theorem tuple_live (w : World) : Calls Try.prog 10 #[.slice (some ⟨w.heap.size, 0, none⟩) 4 4] (w.alloc (.cells liveCells 32)) fun e w' =>
    e = .returned (.tuple #[.string ⟨liveBytes.toArray⟩, .int .i64 0]) ∧ Below w.heap.size w w' ∧ w.heap.size < w'.heap.size := by
  refine (tuple_any _ _ liveVals (live_in w)).mono ?_
  rintro e w' ⟨rfl, hb⟩
  have hs := hb.size
  simp only [World.size_alloc] at hs
  refine ⟨by rw [live_tupS, live_tupE], ?_, by omega⟩
  exact ((Below.refl _ _).alloc (Nat.le_refl _) _).trans (hb.mono (by simp))

theorem read_live (w : World) : Calls Try.prog 12 #[.slice (some ⟨w.heap.size, 0, none⟩) 3 3] (w.alloc (.cells #[.int .u8 172, .int .u8 2, .int .u8 9] 5)) fun e w' =>
    e = .returned (.tuple #[.int .u64 300, .int .i64 2, .int .i64 0]) ∧ w' = w.alloc (.cells #[.int .u8 172, .int .u8 2, .int .u8 9] 5) := by
  refine (read_any _ _ [172, 2, 9] (BytesIn.block (heap_alloc_new w _) _ (by decide) ?_ 3 3 rfl)).mono ?_
  · intro j hj
    match j, hj with
    | 0, _ => rfl
    | 1, _ => rfl
    | 2, _ => rfl
  · rintro e w' ⟨rfl, rfl⟩
    rw [rd_live]
    exact ⟨rfl, rfl⟩

/-- A text made a list of bytes, and a list that is written out, side by side. -/
theorem conv_left (W : World) (S : ByteArray) (cap c : Nat) (t : TypeId) (fr : Nat × Nat) (o : Obj) (B : Nat) (hB : B = W.heap.size) (hs : S.size ≤ 140737488355328) :
    BytesIn (((W.alloc (.cells (bytesRow S cap) t fr)).alloc o).drew) (.slice (some ⟨B, 0, none⟩) S.size c) S.data.toList := by
  subst hB
  have hl : S.data.toList.length = S.size := by rw [Array.length_toList]; rfl
  refine BytesIn.block (cs := bytesRow S cap) (t := t) (fr := fr) ?_ _ (by omega) ?_ c _ hl.symm
  · show ((W.alloc _).alloc o).heap[W.heap.size]? = _
    rw [Below.heap_alloc _ _ _ (by simp)]
    exact heap_alloc_new W _
  · intro j hj
    rw [bytesRow_at S cap j (by rw [hl] at hj; exact hj)]
    simp
theorem conv_right (W : World) (o : Obj) (l : List UInt8) (n c : Nat) (t : TypeId) (cs : Array Value) (hcs : cs.toList = bc l) (hn : n = l.length) (hl : l.length ≤ 140737488355328) (B : Nat) (hB : B = W.heap.size + 1) :
    BytesIn (((W.alloc o).alloc (.cells cs t)).drew) (.slice (some ⟨B, 0, none⟩) n c) l := by
  subst hB
  refine BytesIn.block (cs := cs) (t := t) (fr := (0, 0)) ?_ _ hl ?_ c _ hn
  · show ((W.alloc o).alloc _).heap[W.heap.size + 1]? = _
    have := heap_alloc_new (W.alloc o) (.cells cs t)
    simpa using this
  · intro j hj
    have h := bc_get l j hj
    rw [← hcs] at h
    simpa using h

set_option maxHeartbeats 800000 in
theorem lives_any (w : World) : Calls Try.prog 17 #[] w fun e w' => e = .returned (.bool true) ∧ Below w.heap.size w w' := by
  obtain ⟨S, hS⟩ : ∃ S : ByteArray, S = ⟨liveBytes.toArray⟩ := ⟨_, rfl⟩
  have HS : Hid (S.data.toList = liveBytes) := by show _ = _; rw [hS]
  have HSz : Hid (S.size ≤ 140737488355328) := by show _ ≤ _; rw [hS]; decide
  have tl := tuple_live w
  rw [← hS] at tl
  have TL : Hid (Calls Try.prog 10 #[.slice (some ⟨w.heap.size, 0, none⟩) 4 4] (w.alloc (.cells liveCells 32)) fun e w' =>
    e = .returned (.tuple #[.string S, .int .i64 0]) ∧ Below w.heap.size w w' ∧ w.heap.size < w'.heap.size) := tl
  clear hS tl
  have kb := fun (w : World) => run_bytes_of_string (P := Try.prog) w 9 22 5 S Try.underlying9 Try.underlying22 Try.underlying5
  go_enter Try.func17, Try.ntmps17
  go_wp2_with (first
    | (go_at_call 50; refine (values_any _).mono ?_; rintro e w' ⟨rfl, rfl⟩)
    | (go_at_call 10; refine TL.out.mono ?_; rintro e w1 ⟨rfl, hb1, hs1⟩)
    | (go_at_call 12; refine (read_live _).mono ?_; rintro e w' ⟨rfl, rfl⟩))
  refine (same_any _ _ _ S.data.toList liveBytes ?_ ?_).mono ?_
  · exact conv_left _ S _ _ _ _ _ _ (by simp) HSz.out
  · exact conv_right _ _ liveBytes 16 16 _ _ rfl rfl (by decide) _ (by simp)
  · rintro e w2 ⟨rfl, hb2⟩
    have hd : decide (S.data.toList = liveBytes) = true := by rw [HS.out]; exact decide_eq_true rfl
    have hz := hb2.size
    have B : Below w.heap.size w w2 := by
      refine (((hb1.alloc (by omega) _).alloc ?_ _).alloc ?_ _).drew.trans (hb2.mono ?_)
      all_goals (simp; omega)
    clear hb2 hz kb hb1 hs1
    go_wp2
    go_ret
    exact ⟨rfl, B⟩
end Go.Proofs.Ytbcbdaaaglkjhaa
