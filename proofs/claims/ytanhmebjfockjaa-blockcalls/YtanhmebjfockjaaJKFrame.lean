/-
  What the frames of this layer's statements share: slices of bytes that came in.
-/
import Derived.Test.YtanhmebjfockjaaRows
import Derived.Test.YtanhmebjfockjaaJFrame
import Derived.Test.YtanhmebjfockjaaJKBytes
import Derived.SizedLaws
import Derived.ProofKit
import Derived.OpenShut
import Derived.ChangeOld
namespace Go.Proofs.Ytanhmebjfockjaa
open Go.ChangeShapes Go.WideShapes Go.ChangeAt Go.RowKit

theorem bytesT8 : Try.prog.bytesOf 5 = 1 := by kernel_rfl

/-- A slice of bytes that came in. -/
theorem bytes_in {H : Type} {enc : TypeId × Value → H} {W : World} {spare : Nat → Bool} {held : Bool} {a : Option Addr} {len cap : Nat} {d : DataW H} {p : List MemPlace} (hk : DataW.Trod enc Try.prog W 0 spare held 53 (.slice a len cap) d p)
    (hw : ∀ elems spr, d = .slice elems spr → (elems.length + spr.length) * 1 ≤ reachBytes) (hnot : spare = fun _ => true) (hh : held = true) :
    ∃ l : List UInt8, len = l.length ∧ BytesIn W (.slice a len cap) l ∧ l.length ≤ 140737488351232 ∧ (a = none → cap = 0) ∧ l.length ≤ cap := by
  subst hnot hh
  obtain ⟨fuel, hf⟩ := hk
  rcases open_ints Try.underlying53 Try.underlying5 (by kernel_rfl) hf with ⟨hcs, _⟩ | ⟨x, l', c', zs, hcs, _, hl, hm, hz, hx, hcell, hwz⟩
  · simp [Value.cells] at hcs
    obtain ⟨rfl, rfl, rfl⟩ := hcs
    exact ⟨[], rfl, ⟨⟨none, 0, rfl, fun h => absurd rfl h⟩, by decide⟩, by decide, fun _ => rfl, Nat.le_refl _⟩
  · simp [Value.cells] at hcs
    obtain ⟨rfl, rfl, rfl⟩ := hcs
    simp only [if_true] at hz
    simp only [Prod.mk.injEq] at hx
    have hreach := hw _ _ hx.1
    simp only [lits, List.length_map, List.length_take, List.length_drop, reachBytes] at hreach
    have hzl : zs.length = cap := by simpa using hz
    refine ⟨(zs.take len).map fun z => UInt8.ofNat z.toNat, by simp; omega, ⟨⟨some x, cap, by simp; omega, fun h0 => ?_⟩, by simp; omega⟩, by simp; omega, (fun e => (by cases e)), by simp; omega⟩
    have hlen0 : 0 < len := by
      rcases Nat.eq_zero_or_pos len with h | h
      · subst h; exact absurd (by simp) h0
      · exact h
    obtain ⟨b, off, spot⟩ := x
    have hc0 := hcell 0 (by omega)
    have hspot : spot = none := by simpa [Addr.add] using World.cell?_spot hc0
    subst hspot
    refine ⟨b, off, rfl, fun j hj => ?_⟩
    have hj' : j < zs.length := by simp at hj; omega
    have hcj := hcell j hj'
    have hadd : (⟨b, off, none⟩ : Addr).add j = ⟨b, off + j, none⟩ := by unfold Addr.add; split <;> simp_all
    rw [hadd] at hcj
    rw [hcj]
    have hzj : (Lit.int .u8 (zs[j])).wf = true := hwz _ (List.getElem_mem hj')
    have hb := bounds_u8 hzj
    simp only [List.getElem_map, List.getElem_take, List.getD_eq_getElem?_getD, List.getElem?_eq_getElem hj', Option.getD_some]
    rw [UInt8.toNat_ofNat']
    congr 2
    omega
end Go.Proofs.Ytanhmebjfockjaa
