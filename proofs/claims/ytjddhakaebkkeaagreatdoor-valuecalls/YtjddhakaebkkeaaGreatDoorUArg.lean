/-
  A list of values that came in: where its values lie, and that their parts fit their kinds.
-/
import Derived.Test.YtjddhakaebkkeaaGreatDoorUBase
import Derived.ProofKit
import Derived.OpenShut
import Derived.SizedLaws
import Derived.Deep.Slices
import Derived.Deep.Strs
namespace Go.Proofs.YtjddhakaebkkeaaGreatDoor
open Go.ChangeShapes Go.WideShapes Go.ChangeAt Go.RowKit

theorem cellsV : Tryz.prog.cellsOf 29 = 3 := by kernel_rfl
theorem bytesV : Tryz.prog.bytesOf 29 = 32 := by kernel_rfl
theorem cellsK : Tryz.prog.cellsOf 27 = 1 := by kernel_rfl
theorem cellsI : Tryz.prog.cellsOf 2 = 1 := by kernel_rfl
theorem cellsT : Tryz.prog.cellsOf 9 = 1 := by kernel_rfl

theorem add_plain (b off j : Nat) : (⟨b, off, none⟩ : Addr).add j = ⟨b, off + j, none⟩ := by unfold Addr.add; split <;> simp_all

theorem three_of {α : Type} {l : List α} (h : l.length = 3) : ∃ a b c, l = [a, b, c] := by
  match l, h with
  | [a, b, c], _ => exact ⟨a, b, c, rfl⟩

theorem one_val {H : Type} {enc : TypeId × Value → H} {W : World} {n : Nat} {cs : List Value} {x : DataW H × List MemPlace} (h : DataW.trod enc Tryz.prog W 0 (fun _ => true) true n 29 cs = some x) :
    ∃ v : Val, cs = [.int .u8 v.k, .int .i64 v.n, .string v.t] ∧ v.wf := by
  obtain ⟨y0, y1, y2, m, _, hl, h0, h1, h2⟩ := Deep.trod_struct3 Tryz.underlying29 h
  rw [cellsV] at hl
  obtain ⟨c0, c1, c2, rfl⟩ := three_of hl
  simp only [cellsK, cellsI, cellsT] at h0 h1 h2
  obtain ⟨k, e0, _, w0⟩ := DataW.trod_int Tryz.underlying27 h0
  obtain ⟨i, e1, _, w1⟩ := DataW.trod_int Tryz.underlying2 h1
  obtain ⟨t, e2, _, w2⟩ := DataW.trod_string Tryz.underlying9 h2
  simp at e0 e1 e2
  subst e0 e1 e2
  have b0 := bounds_u8 w0
  have b1 := bounds_i64 w1
  exact ⟨⟨k, i, t⟩, rfl, ⟨by show 0 ≤ k; omega, by show k ≤ 255; omega, by show _ ≤ i; omega, by show i ≤ _; omega, w2⟩⟩

theorem vals_in {H : Type} {enc : TypeId × Value → H} {W : World} {a : Option Addr} {len cap : Nat} {d : DataW H} {p : List MemPlace} (hk : DataW.Trod enc Tryz.prog W 0 (fun _ => true) true 23 (.slice a len cap) d p)
    (hw : ∀ elems spr, d = .slice elems spr → (elems.length + spr.length) * 32 ≤ reachBytes) :
    ∃ vs : List Val, len = vs.length ∧ ValsIn W (.slice a len cap) vs := by
  obtain ⟨fuel, hf⟩ := hk
  rcases Deep.open_slice Tryz.underlying23 hf with ⟨hcs, _⟩ | ⟨ad, len', cap', m, n, D, Pl, hcs, _, hl, _, hm, hx, hall⟩
  · simp [Value.cells] at hcs
    obtain ⟨rfl, rfl, rfl⟩ := hcs
    exact ⟨[], rfl, ⟨⟨none, 0, rfl, fun h => absurd rfl h⟩, by simp, by decide⟩⟩
  · simp [Value.cells] at hcs
    obtain ⟨rfl, rfl, rfl⟩ := hcs
    simp only [if_true] at hm
    subst hm
    simp only [Prod.mk.injEq] at hx
    have hreach := hw _ _ hx.1
    simp only [List.length_map, List.length_range, reachBytes] at hreach
    obtain ⟨V, hV⟩ := @Deep.choose_lt Val ⟨⟨0, 0, ByteArray.empty⟩⟩ len (fun i v => (W.cell? (ad.add (i * 3)) = some (.int .u8 v.k) ∧ W.cell? ((ad.add (i * 3)).add 1) = some (.int .i64 v.n) ∧ W.cell? ((ad.add (i * 3)).add 2) = some (.string v.t)) ∧ v.wf) (fun i hi => by
      obtain ⟨cs', h1, h2⟩ := hall i (by omega)
      rw [cellsV] at h1
      obtain ⟨v, rfl, hv⟩ := one_val h2
      obtain ⟨_, _, hc⟩ := World.cells?_some h1
      refine ⟨v, ⟨?_, by simpa using hc 1 (by omega), by simpa using hc 2 (by omega)⟩, hv⟩
      have := hc 0 (by omega)
      have e : (ad.add (i * 3)).add 0 = ad.add (i * 3) := by unfold Addr.add; split <;> simp_all
      rw [e] at this
      simpa using this)
    refine ⟨(List.range len).map V, by simp, ⟨⟨some ad, m, by simp, fun h0 => ?_⟩, ?_, by simp; omega⟩⟩
    · have hl0 : 0 < len := by
        rcases Nat.eq_zero_or_pos len with h | h
        · subst h; exact absurd (by simp) h0
        · exact h
      obtain ⟨b, off, spot⟩ := ad
      have hc0 := (hV 0 hl0).1.1
      have hspot : spot = none := by simpa [Addr.add] using World.cell?_spot hc0
      subst hspot
      refine ⟨b, off, rfl, fun j hj => ?_⟩
      have hj' : j < len := by simpa using hj
      obtain ⟨⟨q0, q1, q2⟩, _⟩ := hV j hj'
      rw [add_plain] at q0
      rw [add_plain, add_plain] at q1 q2
      simp only [List.getElem_map, List.getElem_range]
      exact ⟨q0, q1, q2⟩
    · intro v hv
      simp only [List.mem_map, List.mem_range] at hv
      obtain ⟨i, hi, rfl⟩ := hv
      exact (hV i hi).2
end Go.Proofs.YtjddhakaebkkeaaGreatDoor
