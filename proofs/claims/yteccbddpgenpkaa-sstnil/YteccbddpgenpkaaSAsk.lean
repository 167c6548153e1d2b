/-
  A question to a table that came in.
-/
import Derived.Test.YteccbddpgenpkaaJFrame
namespace Go.Proofs.Yteccbddpgenpkaa
open Go.ChangeShapes Go.WideShapes Go.ChangeAt Go.RowKit

theorem cells9I : Try.prog.cellsOf 3 = 1 := by kernel_rfl
theorem cells9T : Try.prog.cellsOf 9 = 1 := by kernel_rfl
theorem cells9S : Try.prog.cellsOf 40 = 2 := by kernel_rfl
theorem cells9A : Try.prog.cellsOf 43 = 5 := by kernel_rfl
theorem sfour {α : Type} {l : List α} (h : l.length = 4) : ∃ a b c d, l = [a, b, c, d] := by
  match l, h with
  | [a, b, c, d], _ => exact ⟨a, b, c, d, rfl⟩
theorem sfive {α : Type} {l : List α} (h : l.length = 5) : ∃ a b c d e, l = [a, b, c, d, e] := by
  match l, h with
  | [a, b, c, d, e], _ => exact ⟨a, b, c, d, e, rfl⟩
theorem stwo {α : Type} {l : List α} (h : l.length = 2) : ∃ a b, l = [a, b] := by
  match l, h with
  | [a, b], _ => exact ⟨a, b, rfl⟩
/-- A question. -/
structure Sq where
  kind : Int
  key : List UInt8
  seq : Int
  lo : List UInt8
  hi : List UInt8
def Sq.cs (a : Sq) : List Value := [.int .i64 a.kind, str a.key, .int .i64 a.seq, str a.lo, str a.hi]
theorem one_ask9 {H : Type} {enc : TypeId × Value → H} {W : World} {n : Nat} {cs : List Value} {x : DataW H × List MemPlace} (h : DataW.trod enc Try.prog W 0 (fun _ => true) true n 43 cs = some x) :
    ∃ a : Sq, cs = a.cs := by
  obtain ⟨xs, m, _, _, hl, hlen, hf⟩ := DataW.trod_struct Try.underlying43 h
  rw [cells9A] at hl
  obtain ⟨c0, c1, c2, c3, c4, rfl⟩ := sfive hl
  have hlen' : xs.length = 4 := hlen
  obtain ⟨y0, y1, y2, y3, rfl⟩ := sfour hlen'
  have h0 : DataW.trod enc Try.prog W 0 (fun _ => true) true m 3 [c0] = some y0 := by simpa [cells9T, cells9S, cells9I] using hf 0 _ rfl
  have h1 : DataW.trod enc Try.prog W 0 (fun _ => true) true m 9 [c1] = some y1 := by simpa [cells9T, cells9S, cells9I] using hf 1 _ rfl
  have h2 : DataW.trod enc Try.prog W 0 (fun _ => true) true m 3 [c2] = some y2 := by simpa [cells9T, cells9S, cells9I] using hf 2 _ rfl
  have h3 : DataW.trod enc Try.prog W 0 (fun _ => true) true m 40 [c3, c4] = some y3 := by simpa [cells9T, cells9S, cells9I] using hf 3 _ rfl
  obtain ⟨zs, m2, _, _, _, zlen, hz⟩ := DataW.trod_struct Try.underlying40 h3
  have zlen' : zs.length = 2 := zlen
  obtain ⟨z0, z1, rfl⟩ := stwo zlen'
  have g0 : DataW.trod enc Try.prog W 0 (fun _ => true) true m2 9 [c3] = some z0 := by simpa [cells9T] using hz 0 _ rfl
  have g1 : DataW.trod enc Try.prog W 0 (fun _ => true) true m2 9 [c4] = some z1 := by simpa [cells9T] using hz 1 _ rfl
  obtain ⟨i0, e0, _, _⟩ := DataW.trod_int Try.underlying3 h0
  obtain ⟨t1, e1, _, _⟩ := DataW.trod_string Try.underlying9 h1
  obtain ⟨i2, e2, _, _⟩ := DataW.trod_int Try.underlying3 h2
  obtain ⟨t3, e3, _, _⟩ := DataW.trod_string Try.underlying9 g0
  obtain ⟨t4, e4, _, _⟩ := DataW.trod_string Try.underlying9 g1
  simp at e0 e1 e2 e3 e4
  subst e0 e1 e2 e3 e4
  exact ⟨⟨i0, t1.data.toList, i2, t3.data.toList, t4.data.toList⟩, by simp [Sq.cs, str]⟩
end Go.Proofs.Yteccbddpgenpkaa
