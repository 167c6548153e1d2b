/-
  A list of kinds that came in; how much room a slice that came in has.
-/
import Derived.Test.YtjddhakaebkkeaaGreatDoorUArg
import Derived.Test.YtjddhakaebkkeaaGreatDoorUGives
namespace Go.Proofs.YtjddhakaebkkeaaGreatDoor
open Go.ChangeShapes Go.WideShapes Go.ChangeAt Go.RowKit

theorem bytesK : Tryz.prog.bytesOf 27 = 1 := by kernel_rfl
theorem slice_cap {H : Type} {enc : TypeId × Value → H} {W : World} {t e : TypeId} (hu : Tryz.prog.underlying t = some (.slice e)) {a : Option Addr} {len cap : Nat} {d : DataW H} {p : List MemPlace} (hk : DataW.Trod enc Tryz.prog W 0 (fun _ => true) true t (.slice a len cap) d p) : len ≤ cap ∧ (a = none → cap = 0) := by
  obtain ⟨fuel, hf⟩ := hk
  rcases Deep.open_slice hu hf with ⟨hcs, _⟩ | ⟨ad, len', cap', m, n, D, Pl, hcs, _, hl, _⟩
  · simp [Value.cells] at hcs
    obtain ⟨rfl, rfl, rfl⟩ := hcs
    exact ⟨Nat.le_refl _, fun _ => rfl⟩
  · simp [Value.cells] at hcs
    obtain ⟨rfl, rfl, rfl⟩ := hcs
    exact ⟨hl, fun h => by cases h⟩
theorem kinds_in {H : Type} {enc : TypeId × Value → H} {W : World} {a : Option Addr} {len cap : Nat} {d : DataW H} {p : List MemPlace} (hk : DataW.Trod enc Tryz.prog W 0 (fun _ => true) true 24 (.slice a len cap) d p)
    (hw : ∀ elems spr, d = .slice elems spr → (elems.length + spr.length) * 1 ≤ reachBytes) :
    ∃ vs : List Int, len = vs.length ∧ KindsIn W (.slice a len cap) vs := by
  obtain ⟨fuel, hf⟩ := hk
  rcases Deep.open_slice Tryz.underlying24 hf with ⟨hcs, _⟩ | ⟨ad, len', cap', m, n, D, Pl, hcs, _, hl, _, hm, hx, hall⟩
  · simp [Value.cells] at hcs
    obtain ⟨rfl, rfl, rfl⟩ := hcs
    exact ⟨[], rfl, ⟨⟨none, 0, rfl, fun h => absurd rfl h⟩, by decide⟩⟩
  · simp [Value.cells] at hcs
    obtain ⟨rfl, rfl, rfl⟩ := hcs
    simp only [if_true] at hm
    subst hm
    simp only [Prod.mk.injEq] at hx
    have hreach := hw _ _ hx.1
    simp only [List.length_map, List.length_range, reachBytes] at hreach
    obtain ⟨V, hV⟩ := @Deep.choose_lt Int ⟨0⟩ len (fun i v => W.cell? (ad.add i) = some (.int .u8 v)) (fun i hi => by
      obtain ⟨cs', h1, h2⟩ := hall i (by omega)
      rw [cellsK] at h1
      obtain ⟨k, e0, _, w0⟩ := DataW.trod_int Tryz.underlying27 h2
      subst e0
      obtain ⟨_, _, hc⟩ := World.cells?_some h1
      refine ⟨k, ?_⟩
      have := hc 0 (by simp)
      have e : (ad.add (i * 1)).add 0 = ad.add i := by rw [Nat.mul_one]; unfold Addr.add; split <;> simp_all
      rw [e] at this
      simpa using this)
    refine ⟨(List.range len).map V, by simp, ⟨⟨some ad, m, by simp, fun h0 => ?_⟩, by simp; omega⟩⟩
    have hl0 : 0 < len := by
      rcases Nat.eq_zero_or_pos len with h | h
      · subst h; exact absurd (by simp) h0
      · exact h
    obtain ⟨b, off, spot⟩ := ad
    have hc0 := hV 0 hl0
    have hspot : spot = none := by simpa [Addr.add] using World.cell?_spot hc0
    subst hspot
    refine ⟨b, off, rfl, fun j hj => ?_⟩
    have hj' : j < len := by simpa using hj
    have q0 := hV j hj'
    rw [add_plain] at q0
    simp only [List.getElem_map, List.getElem_range]
    exact q0
end Go.Proofs.YtjddhakaebkkeaaGreatDoor
