/-
  A call of a log's script that came in, as a struct.
-/
import Derived.Test.YtppfkhpofbbnbaaGreatDoorKFrame
import Derived.Deep.Slices
namespace Go.Proofs.YtppfkhpofbbnbaaGreatDoor
open Go.ChangeShapes Go.WideShapes Go.ChangeAt Go.RowKit

/-- A call: its four parts. -/
structure WAc where
  kind : Int
  n : Int
  t : Int
  v : Value
def WAc.cs (a : WAc) : List Value := [.int .i64 a.kind, .int .i64 a.n, .int .i64 a.t, a.v]

theorem cellsWA : Tryz.prog.cellsOf 56 = 4 := by kernel_rfl
theorem cellsWI : Tryz.prog.cellsOf 3 = 1 := by kernel_rfl
theorem cellsWS : Tryz.prog.cellsOf 26 = 1 := by kernel_rfl

theorem wfour {α : Type} {l : List α} (h : l.length = 4) : ∃ a b c d, l = [a, b, c, d] := by
  match l, h with
  | [a, b, c, d], _ => exact ⟨a, b, c, d, rfl⟩

theorem one_wact {H : Type} {enc : TypeId × Value → H} {W : World} {n : Nat} {cs : List Value} {x : DataW H × List MemPlace} (h : DataW.trod enc Tryz.prog W 0 (fun _ => true) true n 56 cs = some x) :
    ∃ a : WAc, cs = a.cs ∧ ∃ y m c, a.v = .slice y m c := by
  obtain ⟨xs, m, _, _, hl, hlen, hf⟩ := DataW.trod_struct Tryz.underlying56 h
  rw [cellsWA] at hl
  obtain ⟨c0, c1, c2, c3, rfl⟩ := wfour hl
  have hlen' : xs.length = 4 := hlen
  obtain ⟨y0, y1, y2, y3, rfl⟩ := wfour hlen'
  have h0 : DataW.trod enc Tryz.prog W 0 (fun _ => true) true m 3 [c0] = some y0 := by simpa [cellsWI, cellsWS] using hf 0 _ rfl
  have h1 : DataW.trod enc Tryz.prog W 0 (fun _ => true) true m 3 [c1] = some y1 := by simpa [cellsWI, cellsWS] using hf 1 _ rfl
  have h2 : DataW.trod enc Tryz.prog W 0 (fun _ => true) true m 3 [c2] = some y2 := by simpa [cellsWI, cellsWS] using hf 2 _ rfl
  have h3 : DataW.trod enc Tryz.prog W 0 (fun _ => true) true m 26 [c3] = some y3 := by simpa [cellsWI, cellsWS] using hf 3 _ rfl
  obtain ⟨k, e0, _, _⟩ := DataW.trod_int Tryz.underlying3 h0
  obtain ⟨i1, e1, _, _⟩ := DataW.trod_int Tryz.underlying3 h1
  obtain ⟨i2, e2, _, _⟩ := DataW.trod_int Tryz.underlying3 h2
  simp at e0 e1 e2
  subst e0 e1 e2
  refine ⟨⟨k, i1, i2, c3⟩, rfl, ?_⟩
  rcases Deep.open_slice Tryz.underlying26 h3 with ⟨hcs, _⟩ | ⟨ad, len', cap', m, n, D, Pl, hcs, _⟩
  · simp at hcs
    exact ⟨_, _, _, hcs⟩
  · simp at hcs
    exact ⟨_, _, _, hcs⟩
end Go.Proofs.YtppfkhpofbbnbaaGreatDoor
