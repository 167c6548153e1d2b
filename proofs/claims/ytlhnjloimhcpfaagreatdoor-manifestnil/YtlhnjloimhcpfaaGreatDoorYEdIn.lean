/-
  An edit that came in, as a struct.
-/
import Derived.Test.YtlhnjloimhcpfaaGreatDoorKFrame
import Derived.Deep.Slices
namespace Go.Proofs.YtlhnjloimhcpfaaGreatDoor
open Go.ChangeShapes Go.WideShapes Go.ChangeAt Go.RowKit

theorem cellsED : Tryz.prog.cellsOf 34 = 5 := by kernel_rfl
theorem cellsEI : Tryz.prog.cellsOf 3 = 1 := by kernel_rfl
theorem cellsES : Tryz.prog.cellsOf 31 = 1 := by kernel_rfl
theorem cellsEM : Tryz.prog.cellsOf 32 = 1 := by kernel_rfl

theorem yfive {α : Type} {l : List α} (h : l.length = 5) : ∃ a b c d e, l = [a, b, c, d, e] := by
  match l, h with
  | [a, b, c, d, e], _ => exact ⟨a, b, c, d, e, rfl⟩

theorem one_edit {H : Type} {enc : TypeId × Value → H} {W : World} {n : Nat} {cs : List Value} {x : DataW H × List MemPlace} (h : DataW.trod enc Tryz.prog W 0 (fun _ => true) true n 34 cs = some x) :
    ∃ y m c y2 m2 c2 lo se ne, cs = [.slice y m c, .slice y2 m2 c2, .int .i64 lo, .int .i64 se, .int .i64 ne] := by
  obtain ⟨xs, m, _, _, hl, hlen, hf⟩ := DataW.trod_struct Tryz.underlying34 h
  rw [cellsED] at hl
  obtain ⟨c0, c1, c2, c3, c4, rfl⟩ := yfive hl
  have hlen' : xs.length = 5 := hlen
  obtain ⟨y0, y1, y2, y3, y4, rfl⟩ := yfive hlen'
  have h0 : DataW.trod enc Tryz.prog W 0 (fun _ => true) true m 31 [c0] = some y0 := by simpa [cellsEI, cellsES, cellsEM] using hf 0 _ rfl
  have h1 : DataW.trod enc Tryz.prog W 0 (fun _ => true) true m 32 [c1] = some y1 := by simpa [cellsEI, cellsES, cellsEM] using hf 1 _ rfl
  have h2 : DataW.trod enc Tryz.prog W 0 (fun _ => true) true m 3 [c2] = some y2 := by simpa [cellsEI, cellsES, cellsEM] using hf 2 _ rfl
  have h3 : DataW.trod enc Tryz.prog W 0 (fun _ => true) true m 3 [c3] = some y3 := by simpa [cellsEI, cellsES, cellsEM] using hf 3 _ rfl
  have h4 : DataW.trod enc Tryz.prog W 0 (fun _ => true) true m 3 [c4] = some y4 := by simpa [cellsEI, cellsES, cellsEM] using hf 4 _ rfl
  obtain ⟨i2, e2, _, _⟩ := DataW.trod_int Tryz.underlying3 h2
  obtain ⟨i3, e3, _, _⟩ := DataW.trod_int Tryz.underlying3 h3
  obtain ⟨i4, e4, _, _⟩ := DataW.trod_int Tryz.underlying3 h4
  simp at e2 e3 e4
  subst e2 e3 e4
  obtain ⟨a0, n0, k0, hs0⟩ : ∃ y m c, c0 = .slice y m c := by
    rcases Deep.open_slice Tryz.underlying31 h0 with ⟨hcs, _⟩ | ⟨ad, len', cap', m, n, D, Pl, hcs, _⟩
    · simp at hcs
      exact ⟨_, _, _, hcs⟩
    · simp at hcs
      exact ⟨_, _, _, hcs⟩
  obtain ⟨a1, n1, k1, hs1⟩ : ∃ y m c, c1 = .slice y m c := by
    rcases Deep.open_slice Tryz.underlying32 h1 with ⟨hcs, _⟩ | ⟨ad, len', cap', m, n, D, Pl, hcs, _⟩
    · simp at hcs
      exact ⟨_, _, _, hcs⟩
    · simp at hcs
      exact ⟨_, _, _, hcs⟩
  subst hs0 hs1
  exact ⟨_, _, _, _, _, _, _, _, _, rfl⟩
end Go.Proofs.YtlhnjloimhcpfaaGreatDoor
