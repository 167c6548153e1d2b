/-
  What the frames of this layer's statements share: slices of bytes that came in. .. and what follows from it.
-/
import Derived.Test.YtlhnjloimhcpfabGreatDoorRows
import Derived.Test.YtlhnjloimhcpfabGreatDoorKBytes
import Derived.SizedLaws
import Derived.ProofKit
import Derived.OpenShut
import Derived.ChangeOld
import Derived.Deep.Slices
import Derived.Test.YtlhnjloimhcpfabGreatDoorYBehind
import Derived.Deep.Strs
import Derived.ChangeSlices
import Derived.ChangeMaps5
namespace Go.Proofs.YtlhnjloimhcpfabGreatDoor
open Go.ChangeShapes Go.WideShapes Go.ChangeAt Go.RowKit

theorem own : ownKnob Tryz.prog.godebug = none := by kernel_rfl
theorem laidOut : laidOutB Tryz.prog = true := by kernel_rfl
theorem bytesT8 : Tryz.prog.bytesOf 5 = 1 := by kernel_rfl

/-- A slice of bytes that came in. -/
theorem bytes_in {H : Type} {enc : TypeId × Value → H} {W : World} {spare : Nat → Bool} {held : Bool} {a : Option Addr} {len cap : Nat} {d : DataW H} {p : List MemPlace} (hk : DataW.Trod enc Tryz.prog W 0 spare held 33 (.slice a len cap) d p)
    (hw : ∀ elems spr, d = .slice elems spr → (elems.length + spr.length) * 1 ≤ reachBytes) (hnot : spare = fun _ => true) (hh : held = true) :
    ∃ l : List UInt8, len = l.length ∧ BytesIn W (.slice a len cap) l ∧ l.length ≤ 140737488351232 ∧ (a = none → cap = 0) ∧ l.length ≤ cap := by
  subst hnot hh
  obtain ⟨fuel, hf⟩ := hk
  rcases open_ints Tryz.underlying33 Tryz.underlying5 (by kernel_rfl) hf with ⟨hcs, _⟩ | ⟨x, l', c', zs, hcs, _, hl, hm, hz, hx, hcell, hwz⟩
  · simp [Value.cells] at hcs
    obtain ⟨rfl, rfl, rfl⟩ := hcs
    exact ⟨[], rfl, ⟨⟨none, 0, rfl, fun h => absurd rfl h⟩, by decide⟩, by decide, fun _ => rfl, Nat.le_refl _⟩
  · simp [Value.cells] at hcs
    obtain ⟨rfl, rfl, rfl⟩ := hcs
    simp only [if_true] at hz
    simp only [Prod.mk.injEq] at hx
    have hreach := hw _ _ hx.1
    simp only [lits, List.length_map, List.length_take, List.length_drop, reachBytes] at hreach
    have hzl : zs.length = cap := by simpa using hz
    refine ⟨(zs.take len).map fun z => UInt8.ofNat z.toNat, by simp; omega, ⟨⟨some x, cap, by simp; omega, fun h0 => ?_⟩, by simp; omega⟩, by simp; omega, (fun e => (by cases e)), by simp; omega⟩
    have hlen0 : 0 < len := by
      rcases Nat.eq_zero_or_pos len with h | h
      · subst h; exact absurd (by simp) h0
      · exact h
    obtain ⟨b, off, spot⟩ := x
    have hc0 := hcell 0 (by omega)
    have hspot : spot = none := by simpa [Addr.add] using World.cell?_spot hc0
    subst hspot
    refine ⟨b, off, rfl, fun j hj => ?_⟩
    have hj' : j < zs.length := by simp at hj; omega
    have hcj := hcell j hj'
    have hadd : (⟨b, off, none⟩ : Addr).add j = ⟨b, off + j, none⟩ := by unfold Addr.add; split <;> simp_all
    rw [hadd] at hcj
    rw [hcj]
    have hzj : (Lit.int .u8 (zs[j])).wf = true := hwz _ (List.getElem_mem hj')
    have hb := bounds_u8 hzj
    simp only [List.getElem_map, List.getElem_take, List.getD_eq_getElem?_getD, List.getElem?_eq_getElem hj', Option.getD_some]
    rw [UInt8.toNat_ofNat']
    congr 2
    omega
end Go.Proofs.YtlhnjloimhcpfabGreatDoor
namespace Go.Proofs.YtlhnjloimhcpfabGreatDoor
open Go.ChangeShapes Go.WideShapes Go.ChangeAt Go.RowKit

theorem cellsED : Tryz.prog.cellsOf 46 = 5 := by kernel_rfl
theorem cellsEI : Tryz.prog.cellsOf 3 = 1 := by kernel_rfl
theorem cellsES : Tryz.prog.cellsOf 32 = 1 := by kernel_rfl
theorem cellsEM : Tryz.prog.cellsOf 37 = 1 := by kernel_rfl

theorem yfive {α : Type} {l : List α} (h : l.length = 5) : ∃ a b c d e, l = [a, b, c, d, e] := by
  match l, h with
  | [a, b, c, d, e], _ => exact ⟨a, b, c, d, e, rfl⟩

theorem one_edit {H : Type} {enc : TypeId × Value → H} {W : World} {n : Nat} {cs : List Value} {x : DataW H × List MemPlace} (h : DataW.trod enc Tryz.prog W 0 (fun _ => true) true n 46 cs = some x) :
    ∃ y m c y2 m2 c2 lo se ne, cs = [.slice y m c, .slice y2 m2 c2, .int .i64 lo, .int .i64 se, .int .i64 ne] := by
  obtain ⟨xs, m, _, _, hl, hlen, hf⟩ := DataW.trod_struct Tryz.underlying46 h
  rw [cellsED] at hl
  obtain ⟨c0, c1, c2, c3, c4, rfl⟩ := yfive hl
  have hlen' : xs.length = 5 := hlen
  obtain ⟨y0, y1, y2, y3, y4, rfl⟩ := yfive hlen'
  have h0 : DataW.trod enc Tryz.prog W 0 (fun _ => true) true m 32 [c0] = some y0 := by simpa [cellsEI, cellsES, cellsEM] using hf 0 _ rfl
  have h1 : DataW.trod enc Tryz.prog W 0 (fun _ => true) true m 37 [c1] = some y1 := by simpa [cellsEI, cellsES, cellsEM] using hf 1 _ rfl
  have h2 : DataW.trod enc Tryz.prog W 0 (fun _ => true) true m 3 [c2] = some y2 := by simpa [cellsEI, cellsES, cellsEM] using hf 2 _ rfl
  have h3 : DataW.trod enc Tryz.prog W 0 (fun _ => true) true m 3 [c3] = some y3 := by simpa [cellsEI, cellsES, cellsEM] using hf 3 _ rfl
  have h4 : DataW.trod enc Tryz.prog W 0 (fun _ => true) true m 3 [c4] = some y4 := by simpa [cellsEI, cellsES, cellsEM] using hf 4 _ rfl
  obtain ⟨i2, e2, _, _⟩ := DataW.trod_int Tryz.underlying3 h2
  obtain ⟨i3, e3, _, _⟩ := DataW.trod_int Tryz.underlying3 h3
  obtain ⟨i4, e4, _, _⟩ := DataW.trod_int Tryz.underlying3 h4
  simp at e2 e3 e4
  subst e2 e3 e4
  obtain ⟨a0, n0, k0, hs0⟩ : ∃ y m c, c0 = .slice y m c := by
    rcases Deep.open_slice Tryz.underlying32 h0 with ⟨hcs, _⟩ | ⟨ad, len', cap', m, n, D, Pl, hcs, _⟩
    · simp at hcs
      exact ⟨_, _, _, hcs⟩
    · simp at hcs
      exact ⟨_, _, _, hcs⟩
  obtain ⟨a1, n1, k1, hs1⟩ : ∃ y m c, c1 = .slice y m c := by
    rcases Deep.open_slice Tryz.underlying37 h1 with ⟨hcs, _⟩ | ⟨ad, len', cap', m, n, D, Pl, hcs, _⟩
    · simp at hcs
      exact ⟨_, _, _, hcs⟩
    · simp at hcs
      exact ⟨_, _, _, hcs⟩
  subst hs0 hs1
  exact ⟨_, _, _, _, _, _, _, _, _, rfl⟩
end Go.Proofs.YtlhnjloimhcpfabGreatDoor
namespace Go.Proofs.YtlhnjloimhcpfabGreatDoor
open Go.ChangeShapes Go.WideShapes Go.ChangeAt Go.RowKit

theorem cellsEV : Tryz.prog.cellsOf 39 = 4 := by kernel_rfl
theorem cellsEMt : Tryz.prog.cellsOf 43 = 5 := by kernel_rfl
theorem cellsEStr : Tryz.prog.cellsOf 9 = 1 := by kernel_rfl
theorem yfour {α : Type} {l : List α} (h : l.length = 4) : ∃ a b c d, l = [a, b, c, d] := by
  match l, h with
  | [a, b, c, d], _ => exact ⟨a, b, c, d, rfl⟩

/-- A table that came in. -/
def MtMay (x : Mf.Mt) : Prop := i64r x.number ∧ x.first.length ≤ maxLen ∧ x.last.length ≤ maxLen

theorem one_meta {H : Type} {enc : TypeId × Value → H} {W : World} {n : Nat} {cs : List Value} {x : DataW H × List MemPlace} (h : DataW.trod enc Tryz.prog W 0 (fun _ => true) true n 43 cs = some x) :
    ∃ a : Mf.Mt, cs = mc a ∧ MtMay a := by
  obtain ⟨xs, m, _, _, hl, hlen, hf⟩ := DataW.trod_struct Tryz.underlying43 h
  rw [cellsEMt] at hl
  obtain ⟨c0, c1, c2, c3, c4, rfl⟩ := yfive hl
  have hlen' : xs.length = 5 := hlen
  obtain ⟨y0, y1, y2, y3, y4, rfl⟩ := yfive hlen'
  have h0 : DataW.trod enc Tryz.prog W 0 (fun _ => true) true m 3 [c0] = some y0 := by simpa [cellsEI, cellsEStr] using hf 0 _ rfl
  have h1 : DataW.trod enc Tryz.prog W 0 (fun _ => true) true m 3 [c1] = some y1 := by simpa [cellsEI, cellsEStr] using hf 1 _ rfl
  have h2 : DataW.trod enc Tryz.prog W 0 (fun _ => true) true m 3 [c2] = some y2 := by simpa [cellsEI, cellsEStr] using hf 2 _ rfl
  have h3 : DataW.trod enc Tryz.prog W 0 (fun _ => true) true m 9 [c3] = some y3 := by simpa [cellsEI, cellsEStr] using hf 3 _ rfl
  have h4 : DataW.trod enc Tryz.prog W 0 (fun _ => true) true m 9 [c4] = some y4 := by simpa [cellsEI, cellsEStr] using hf 4 _ rfl
  obtain ⟨i0, e0, _, w0⟩ := DataW.trod_int Tryz.underlying3 h0
  obtain ⟨i1, e1, _, _⟩ := DataW.trod_int Tryz.underlying3 h1
  obtain ⟨i2, e2, _, _⟩ := DataW.trod_int Tryz.underlying3 h2
  obtain ⟨t3, e3, _, w3⟩ := DataW.trod_string Tryz.underlying9 h3
  obtain ⟨t4, e4, _, w4⟩ := DataW.trod_string Tryz.underlying9 h4
  simp at e0 e1 e2 e3 e4
  subst e0 e1 e2 e3 e4
  refine ⟨⟨i0, i1, i2, t3.data.toList, t4.data.toList⟩, by simp [mc, str], ?_, w3, w4⟩
  have := bounds_i64 w0
  unfold i64r
  omega

theorem metas_in {H : Type} {enc : TypeId × Value → H} {W : World} {fuel : Nat} {c : Value} {x : DataW H × List MemPlace} (hf : DataW.trod enc Tryz.prog W 0 (fun _ => true) true fuel 37 [c] = some x) :
    ∃ (l : List Mf.Mt) (a : Option Addr) (cap : Nat), c = .slice a l.length cap ∧ MtsAt W (.slice a l.length cap) l ∧ l.length ≤ maxLen ∧ ∀ x ∈ l, MtMay x := by
  rcases Deep.open_slice Tryz.underlying37 hf with ⟨hcs, _⟩ | ⟨ad, len, cap, m, n, D, Pl, hcs, _, hl, hmx, hm, hx, hall⟩
  · simp at hcs
    subst hcs
    exact ⟨[], none, 0, rfl, MtsAt.nil _ _ _, Nat.zero_le _, by simp⟩
  · simp at hcs
    subst hcs
    simp only [if_true] at hm
    subst hm
    obtain ⟨V, hV⟩ := @Deep.choose_lt Mf.Mt ⟨⟨0, 0, 0, [], []⟩⟩ len (fun i v => (∀ j u, (mc v)[j]? = some u → W.cell? ((ad.add (i * 5)).add j) = some u) ∧ MtMay v) (fun i hi => by
      obtain ⟨cs', h1, h2⟩ := hall i (by omega)
      rw [cellsEMt] at h1
      obtain ⟨v, rfl, hv⟩ := one_meta h2
      obtain ⟨_, hlen, hc⟩ := World.cells?_some h1
      refine ⟨v, fun j u hu => ?_, hv⟩
      have hj : j < 5 := by
        have := (List.getElem?_eq_some_iff.1 hu).1
        simpa [mc] using this
      rw [hc j hj, ← hu])
    refine ⟨(List.range len).map V, some ad, m, by simp, ⟨⟨some ad, m, rfl, fun h0 => ?_⟩⟩, by simp; omega, ?_⟩
    · have hl0 : 0 < len := by
        rcases Nat.eq_zero_or_pos len with h | h
        · subst h; exact absurd (by simp) h0
        · exact h
      obtain ⟨b, off, spot⟩ := ad
      have hc0 := (hV 0 hl0).1 0 _ rfl
      have hspot : spot = none := by simpa [Addr.add] using World.cell?_spot hc0
      subst hspot
      have addp : ∀ b off j : Nat, (⟨b, off, none⟩ : Addr).add j = ⟨b, off + j, none⟩ := fun b off j => by unfold Addr.add; split <;> simp_all
      refine ⟨b, off, rfl, fun j hj => ?_⟩
      have hj' : j < len := by simpa using hj
      simp only [List.getElem_map, List.getElem_range]
      have q0 := (hV j hj').1 0 _ rfl
      have q1 := (hV j hj').1 1 _ rfl
      have q2 := (hV j hj').1 2 _ rfl
      have q3 := (hV j hj').1 3 _ rfl
      have q4 := (hV j hj').1 4 _ rfl
      rw [addp, addp] at q0 q1 q2 q3 q4
      exact ⟨q0, q1, q2, q3, q4⟩
    · intro v hv
      simp only [List.mem_map, List.mem_range] at hv
      obtain ⟨i, hi, rfl⟩ := hv
      exact (hV i hi).2

theorem izs_in {H : Type} {enc : TypeId × Value → H} {W : World} {fuel : Nat} {c : Value} {x : DataW H × List MemPlace} (hf : DataW.trod enc Tryz.prog W 0 (fun _ => true) true fuel 32 [c] = some x) :
    ∃ (l : List Int) (a : Option Addr) (cap : Nat), c = .slice a l.length cap ∧ IzAt W (.slice a l.length cap) l ∧ l.length ≤ maxLen ∧ ∀ x ∈ l, i64r x := by
  rcases open_ints Tryz.underlying32 Tryz.underlying3 (by kernel_rfl) hf with ⟨hcs, _⟩ | ⟨ad, len, cap, zs, hcs, _, hl, hm, hz, _, hcell, hwz⟩
  · simp at hcs
    subst hcs
    exact ⟨[], none, 0, rfl, IzAt.nil _ _ _, Nat.zero_le _, by simp⟩
  · simp at hcs
    subst hcs
    simp only [if_true] at hz
    have hlen : (zs.take len).length = len := by simp; omega
    refine ⟨zs.take len, some ad, cap, by rw [hlen], ⟨⟨some ad, cap, rfl, fun h0 => ?_⟩⟩, by omega, fun x hx => ?_⟩
    · have hlen0 : 0 < len := by
        rcases Nat.eq_zero_or_pos len with h | h
        · subst h; exact absurd (by simp) h0
        · exact h
      obtain ⟨b, off, spot⟩ := ad
      have hc0 := hcell 0 (by omega)
      have hspot : spot = none := by simpa [Addr.add] using World.cell?_spot hc0
      subst hspot
      have addp : ∀ b off j : Nat, (⟨b, off, none⟩ : Addr).add j = ⟨b, off + j, none⟩ := fun b off j => by unfold Addr.add; split <;> simp_all
      refine ⟨b, off, rfl, fun j hj => ?_⟩
      have hj' : j < zs.length := by omega
      have hcj := hcell j hj'
      rw [addp] at hcj
      rw [hcj]
      simp [List.getD_eq_getElem?_getD, List.getElem?_eq_getElem hj']
    · have := bounds_i64 (hwz x (List.mem_of_mem_take hx))
      unfold i64r
      omega

/-- A slice that came in has a place of its own kind. -/
theorem slice_spot {P : Program} {W : World} {base B off : Nat} {spot} {t e : TypeId} {len cap : Nat} (hu : P.underlying t = some (.slice e)) (h : Value.okWide P W .any base t (.slice (some ⟨B, off, spot⟩) len cap)) : spot = none := by
  unfold Value.okWide at h
  simp only [hu, Cell.okWide, Cell.ok, World.has] at h
  exact h.2.2.2.1

/-- An edit that came in. -/
theorem edit_in {H : Type} {enc : TypeId × Value → H} {W : World} {n : Nat} {cs : List Value} {x : DataW H × List MemPlace} (h : DataW.trod enc Tryz.prog W 0 (fun _ => true) true n 46 cs = some x) :
    ∃ (e : Mf.Ed) (a2 a3 : Option Addr) (c2 c3 : Nat), cs = [.slice a2 e.drops.length c2, .slice a3 e.adds.length c3, .int .i64 e.log, .int .i64 e.seq, .int .i64 e.next] ∧ IzAt W (.slice a2 e.drops.length c2) e.drops ∧ MtsAt W (.slice a3 e.adds.length c3) e.adds ∧ e.drops.length ≤ maxLen ∧ e.adds.length ≤ maxLen ∧ (∀ x ∈ e.drops, i64r x) ∧ (∀ x ∈ e.adds, MtMay x) ∧ i64r e.log ∧ i64r e.seq ∧ i64r e.next := by
  obtain ⟨xs, m, _, _, hl, hlen, hf⟩ := DataW.trod_struct Tryz.underlying46 h
  rw [cellsED] at hl
  obtain ⟨c0, c1, c2, c3, c4, rfl⟩ := yfive hl
  have hlen' : xs.length = 5 := hlen
  obtain ⟨y0, y1, y2, y3, y4, rfl⟩ := yfive hlen'
  have h0 : DataW.trod enc Tryz.prog W 0 (fun _ => true) true m 32 [c0] = some y0 := by simpa [cellsEI, cellsES, cellsEM] using hf 0 _ rfl
  have h1 : DataW.trod enc Tryz.prog W 0 (fun _ => true) true m 37 [c1] = some y1 := by simpa [cellsEI, cellsES, cellsEM] using hf 1 _ rfl
  have h2 : DataW.trod enc Tryz.prog W 0 (fun _ => true) true m 3 [c2] = some y2 := by simpa [cellsEI, cellsES, cellsEM] using hf 2 _ rfl
  have h3 : DataW.trod enc Tryz.prog W 0 (fun _ => true) true m 3 [c3] = some y3 := by simpa [cellsEI, cellsES, cellsEM] using hf 3 _ rfl
  have h4 : DataW.trod enc Tryz.prog W 0 (fun _ => true) true m 3 [c4] = some y4 := by simpa [cellsEI, cellsES, cellsEM] using hf 4 _ rfl
  obtain ⟨i2, e2, _, w2⟩ := DataW.trod_int Tryz.underlying3 h2
  obtain ⟨i3, e3, _, w3⟩ := DataW.trod_int Tryz.underlying3 h3
  obtain ⟨i4, e4, _, w4⟩ := DataW.trod_int Tryz.underlying3 h4
  simp at e2 e3 e4
  subst e2 e3 e4
  obtain ⟨ds, a2, k2, rfl, hd, hdl, hdr⟩ := izs_in h0
  obtain ⟨as', a3, k3, rfl, ha, hal, har⟩ := metas_in h1
  have b2 := bounds_i64 w2
  have b3 := bounds_i64 w3
  have b4 := bounds_i64 w4
  exact ⟨⟨ds, as', i2, i3, i4⟩, a2, a3, k2, k3, rfl, hd, ha, hdl, hal, hdr, har, by unfold i64r; omega, by unfold i64r; omega, by unfold i64r; omega⟩

/-- A version that came in. -/
theorem version_in {H : Type} {enc : TypeId × Value → H} {W : World} {n : Nat} {cs : List Value} {x : DataW H × List MemPlace} (h : DataW.trod enc Tryz.prog W 0 (fun _ => true) true n 39 cs = some x) :
    ∃ (v : Mf.Vn) (a : Option Addr) (c : Nat), cs = [.slice a v.tabs.length c, .int .i64 v.log, .int .i64 v.seq, .int .i64 v.next] ∧ MtsAt W (.slice a v.tabs.length c) v.tabs ∧ v.tabs.length ≤ maxLen ∧ (∀ x ∈ v.tabs, MtMay x) ∧ i64r v.log ∧ i64r v.seq ∧ i64r v.next := by
  obtain ⟨xs, m, _, _, hl, hlen, hf⟩ := DataW.trod_struct Tryz.underlying39 h
  rw [cellsEV] at hl
  obtain ⟨c1, c2, c3, c4, rfl⟩ := yfour hl
  have hlen' : xs.length = 4 := hlen
  obtain ⟨y1, y2, y3, y4, rfl⟩ := yfour hlen'
  have h1 : DataW.trod enc Tryz.prog W 0 (fun _ => true) true m 37 [c1] = some y1 := by simpa [cellsEI, cellsES, cellsEM] using hf 0 _ rfl
  have h2 : DataW.trod enc Tryz.prog W 0 (fun _ => true) true m 3 [c2] = some y2 := by simpa [cellsEI, cellsES, cellsEM] using hf 1 _ rfl
  have h3 : DataW.trod enc Tryz.prog W 0 (fun _ => true) true m 3 [c3] = some y3 := by simpa [cellsEI, cellsES, cellsEM] using hf 2 _ rfl
  have h4 : DataW.trod enc Tryz.prog W 0 (fun _ => true) true m 3 [c4] = some y4 := by simpa [cellsEI, cellsES, cellsEM] using hf 3 _ rfl
  obtain ⟨i2, e2, _, w2⟩ := DataW.trod_int Tryz.underlying3 h2
  obtain ⟨i3, e3, _, w3⟩ := DataW.trod_int Tryz.underlying3 h3
  obtain ⟨i4, e4, _, w4⟩ := DataW.trod_int Tryz.underlying3 h4
  simp at e2 e3 e4
  subst e2 e3 e4
  obtain ⟨as', a3, k3, rfl, ha, hal, har⟩ := metas_in h1
  have b2 := bounds_i64 w2
  have b3 := bounds_i64 w3
  have b4 := bounds_i64 w4
  exact ⟨⟨as', i2, i3, i4⟩, a3, k3, rfl, ha, hal, har, by unfold i64r; omega, by unfold i64r; omega, by unfold i64r; omega⟩
end Go.Proofs.YtlhnjloimhcpfabGreatDoor
namespace Go.Proofs.YtlhnjloimhcpfabGreatDoor
open Go.ChangeShapes Go.WideShapes Go.ChangeAt Go.RowKit

/-- A list of keys lies there. -/
def KeysAt (w : World) (v : Value) (l : List ByteArray) : Prop := ∃ a cap, v = .slice a l.length cap ∧ (l ≠ [] → ∃ b off, a = some ⟨b, off, none⟩ ∧ ∀ j (h : j < l.length), w.cell? ⟨b, off + j, none⟩ = some (.string l[j]))
theorem keys_in {H : Type} {enc : TypeId × Value → H} {W : World} {spare : Nat → Bool} {held : Bool} {a : Option Addr} {len cap : Nat} {d : DataW H} {p : List MemPlace} (hk : DataW.Trod enc Tryz.prog W 0 spare held 22 (.slice a len cap) d p) :
    ∃ l : List ByteArray, len = l.length ∧ KeysAt W (.slice a len cap) l ∧ ∀ s ∈ l, s.size ≤ maxLen := by
  obtain ⟨fuel, hf⟩ := hk
  rcases Deep.open_strs Tryz.underlying22 Tryz.underlying9 (by kernel_rfl) hf with ⟨hcs, _⟩ | ⟨x, l', c', m, Sx, hcs, _, hl, hm, hmm, _, hcell⟩
  · simp [Value.cells] at hcs
    obtain ⟨rfl, rfl, rfl⟩ := hcs
    exact ⟨[], rfl, ⟨none, 0, rfl, fun h => absurd rfl h⟩, by simp⟩
  · simp [Value.cells] at hcs
    obtain ⟨rfl, rfl, rfl⟩ := hcs
    have hlm : len ≤ m := by rw [hmm]; split <;> omega
    refine ⟨(List.range len).map Sx, by simp, ⟨some x, cap, by simp, fun h0 => ?_⟩, fun s hs => ?_⟩
    · have hlen0 : 0 < len := by
        rcases Nat.eq_zero_or_pos len with h | h
        · subst h; exact absurd (by simp) h0
        · exact h
      obtain ⟨b, off, spot⟩ := x
      have hspot : spot = none := by simpa [Addr.add] using World.cell?_spot (hcell 0 (by omega)).1
      subst hspot
      have addp : ∀ b off j : Nat, (⟨b, off, none⟩ : Addr).add j = ⟨b, off + j, none⟩ := fun b off j => by unfold Addr.add; split <;> simp_all
      refine ⟨b, off, rfl, fun j hj => ?_⟩
      have hj' : j < len := by simpa using hj
      have := (hcell j (by omega)).1
      rw [addp] at this
      rw [this]
      simp
    · simp only [List.mem_map, List.mem_range] at hs
      obtain ⟨i, hi, rfl⟩ := hs
      exact (hcell i (by omega)).2
end Go.Proofs.YtlhnjloimhcpfabGreatDoor
