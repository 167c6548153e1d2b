/-
  What the frame of BlockFold takes besides: entries with their room, numbers and a span that came in.
-/
import Derived.Test.YtbdgdigpnfpnhaaJFrame
import Derived.Test.YtbdgdigpnfpnhaaBFold
namespace Go.Proofs.Ytbdgdigpnfpnhaa
open Go.ChangeShapes Go.WideShapes Go.ChangeAt Go.RowKit

theorem ints_in {H : Type} {enc : TypeId × Value → H} {W : World} {fuel : Nat} {c : Value} {x : DataW H × List MemPlace} (hf : DataW.trod enc Try.prog W 0 (fun _ => true) true fuel 22 [c] = some x) :
    ∃ (l : List Int) (a : Option Addr) (cap : Nat), c = .slice a l.length cap ∧ IntsAt W (.slice a l.length cap) l ∧ l.length ≤ maxLen := by
  rcases open_ints Try.underlying22 Try.underlying3 (by kernel_rfl) hf with ⟨hcs, _⟩ | ⟨ad, len, cap, zs, hcs, _, hl, hm, hz, _, hcell, _⟩
  · simp at hcs
    subst hcs
    exact ⟨[], none, 0, rfl, IntsAt.nil _, Nat.zero_le _⟩
  · simp at hcs
    subst hcs
    simp only [if_true] at hz
    have hlen : (zs.take len).length = len := by simp; omega
    refine ⟨zs.take len, some ad, cap, by rw [hlen], ⟨⟨some ad, cap, rfl, (fun e => by cases e), fun h0 => ?_⟩⟩, by omega⟩
    have hlen0 : 0 < len := by
      rcases Nat.eq_zero_or_pos len with h | h
      · subst h; exact absurd (by simp) h0
      · exact h
    obtain ⟨b, off, spot⟩ := ad
    have hc0 := hcell 0 (by omega)
    have hspot : spot = none := by simpa [Addr.add] using World.cell?_spot hc0
    subst hspot
    refine ⟨b, off, rfl, fun j hj => ?_⟩
    have hj' : j < zs.length := by omega
    have hcj := hcell j hj'
    rw [addr_add] at hcj
    rw [hcj]
    simp [List.getD_eq_getElem?_getD, List.getElem?_eq_getElem hj']
theorem cellsES : Try.prog.cellsOf 46 = 2 := by kernel_rfl
theorem etwo {α : Type} {l : List α} (h : l.length = 2) : ∃ a b, l = [a, b] := by
  match l, h with
  | [a, b], _ => exact ⟨a, b, rfl⟩
theorem one_span {H : Type} {enc : TypeId × Value → H} {W : World} {n : Nat} {cs : List Value} {x : DataW H × List MemPlace} (h : DataW.trod enc Try.prog W 0 (fun _ => true) true n 46 cs = some x) :
    ∃ f t : Mm.Bs, cs = [str f, str t] := by
  obtain ⟨zs, m2, _, _, hl, zlen, hz⟩ := DataW.trod_struct Try.underlying46 h
  rw [cellsES] at hl
  obtain ⟨c0, c1, rfl⟩ := etwo hl
  have zlen' : zs.length = 2 := zlen
  obtain ⟨z0, z1, rfl⟩ := etwo zlen'
  have g0 : DataW.trod enc Try.prog W 0 (fun _ => true) true m2 9 [c0] = some z0 := by simpa [cellsET] using hz 0 _ rfl
  have g1 : DataW.trod enc Try.prog W 0 (fun _ => true) true m2 9 [c1] = some z1 := by simpa [cellsET] using hz 1 _ rfl
  obtain ⟨t2, e2, _, w2⟩ := DataW.trod_string Try.underlying9 g0
  obtain ⟨t3, e3, _, w3⟩ := DataW.trod_string Try.underlying9 g1
  simp at e2 e3
  subst e2 e3
  exact ⟨t2.data.toList, t3.data.toList, by simp [str]⟩
theorem cap_in {H : Type} {enc : TypeId × Value → H} {W : World} {fuel : Nat} {a : Option Addr} {len cap : Nat} {x : DataW H × List MemPlace} (hf : DataW.trod enc Try.prog W 0 (fun _ => true) true fuel 23 [.slice a len cap] = some x) : len ≤ cap := by
  rcases Deep.open_slice Try.underlying23 hf with ⟨hcs, _⟩ | ⟨ad, len', cap', m, n, D, Pl, hcs, _, hl, _⟩
  · simp at hcs
    omega
  · simp at hcs
    omega
end Go.Proofs.Ytbdgdigpnfpnhaa
