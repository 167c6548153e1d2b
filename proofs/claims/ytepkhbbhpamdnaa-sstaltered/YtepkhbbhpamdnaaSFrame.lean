/-
  What the frame of SstFinds takes besides: entries with their room, and a span that came in.
-/
import Derived.Test.YtepkhbbhpamdnaaJFrame
namespace Go.Proofs.Ytepkhbbhpamdnaa
open Go.ChangeShapes Go.WideShapes Go.ChangeAt Go.RowKit
theorem cellsES : Try.prog.cellsOf 92 = 2 := by kernel_rfl
theorem etwo {α : Type} {l : List α} (h : l.length = 2) : ∃ a b, l = [a, b] := by
  match l, h with
  | [a, b], _ => exact ⟨a, b, rfl⟩
theorem one_span {H : Type} {enc : TypeId × Value → H} {W : World} {n : Nat} {cs : List Value} {x : DataW H × List MemPlace} (h : DataW.trod enc Try.prog W 0 (fun _ => true) true n 92 cs = some x) :
    ∃ f t : Mm.Bs, cs = [str f, str t] := by
  obtain ⟨zs, m2, _, _, hl, zlen, hz⟩ := DataW.trod_struct Try.underlying92 h
  rw [cellsES] at hl
  obtain ⟨c0, c1, rfl⟩ := etwo hl
  have zlen' : zs.length = 2 := zlen
  obtain ⟨z0, z1, rfl⟩ := etwo zlen'
  have g0 : DataW.trod enc Try.prog W 0 (fun _ => true) true m2 9 [c0] = some z0 := by simpa [cellsET] using hz 0 _ rfl
  have g1 : DataW.trod enc Try.prog W 0 (fun _ => true) true m2 9 [c1] = some z1 := by simpa [cellsET] using hz 1 _ rfl
  obtain ⟨t2, e2, _, w2⟩ := DataW.trod_string Try.underlying9 g0
  obtain ⟨t3, e3, _, w3⟩ := DataW.trod_string Try.underlying9 g1
  simp at e2 e3
  subst e2 e3
  exact ⟨t2.data.toList, t3.data.toList, by simp [str]⟩
theorem cap_in {H : Type} {enc : TypeId × Value → H} {W : World} {fuel : Nat} {a : Option Addr} {len cap : Nat} {x : DataW H × List MemPlace} (hf : DataW.trod enc Try.prog W 0 (fun _ => true) true fuel 22 [.slice a len cap] = some x) : len ≤ cap := by
  rcases Deep.open_slice Try.underlying22 hf with ⟨hcs, _⟩ | ⟨ad, len', cap', m, n, D, Pl, hcs, _, hl, _⟩
  · simp at hcs
    omega
  · simp at hcs
    omega
end Go.Proofs.Ytepkhbbhpamdnaa
