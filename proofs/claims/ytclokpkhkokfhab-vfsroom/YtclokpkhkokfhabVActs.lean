/-
  Calls of a script that came in, as a struct and as a list of them.
-/
import Derived.Test.YtclokpkhkokfhabKFrame
import Derived.Test.YtclokpkhkokfhabVf
import Derived.Deep.Slices
import Derived.Deep.Strs
namespace Go.Proofs.Ytclokpkhkokfhab
open Go.ChangeShapes Go.WideShapes Go.ChangeAt Go.RowKit

/-- A call: its six parts. -/
structure Ac where
  kind : Int
  name : ByteArray
  other : ByteArray
  n : Int
  t : Int
  v : Value
  l : List UInt8
def Ac.cs (a : Ac) : List Value := [.int .i64 a.kind, .string a.name, .string a.other, .int .i64 a.n, .int .i64 a.t, a.v]
/-- Bytes, of whatever length. -/
def Lies (W : World) (v : Value) (l : List UInt8) : Prop := ∃ a cap, v = .slice a l.length cap ∧ (l ≠ [] → ∃ b off, a = some ⟨b, off, none⟩ ∧ BytesAt W b off l)
structure AcOk (W : World) (a : Ac) : Prop where
  kind : -9223372036854775808 ≤ a.kind ∧ a.kind ≤ 9223372036854775807
  n : -9223372036854775808 ≤ a.n ∧ a.n ≤ 9223372036854775807
  t : -9223372036854775808 ≤ a.t ∧ a.t ≤ 9223372036854775807
  name : a.name.size ≤ maxLen
  other : a.other.size ≤ maxLen
  bytes : Lies W a.v a.l
  room : ∀ x m c, a.v = .slice x m c → a.l.length ≤ c

theorem cellsA : Try.prog.cellsOf 32 = 6 := by kernel_rfl
theorem cellsAI : Try.prog.cellsOf 3 = 1 := by kernel_rfl
theorem cellsAT : Try.prog.cellsOf 9 = 1 := by kernel_rfl
theorem cellsAB : Try.prog.cellsOf 30 = 1 := by kernel_rfl

theorem act_bytes {H : Type} {enc : TypeId × Value → H} {W : World} {fuel : Nat} {c : Value} {x : DataW H × List MemPlace} (hf : DataW.trod enc Try.prog W 0 (fun _ => true) true fuel 30 [c] = some x) :
    ∃ l : List UInt8, Lies W c l ∧ ∀ y m d, c = .slice y m d → l.length ≤ d := by
  rcases open_ints Try.underlying30 Try.underlying5 (by kernel_rfl) hf with ⟨hcs, _⟩ | ⟨x, len, cap, zs, hcs, _, hl, hm, hz, hx, hcell, hwz⟩
  · simp at hcs
    subst hcs
    exact ⟨[], ⟨none, 0, rfl, fun h => absurd rfl h⟩, fun y m d _ => Nat.zero_le _⟩
  · simp at hcs
    subst hcs
    simp only [if_true] at hz
    have hzl : zs.length = cap := by simpa using hz
    unfold maxLen at hm
    refine ⟨(zs.take len).map fun z => UInt8.ofNat z.toNat, ⟨some x, cap, by simp; omega, fun h0 => ?_⟩, fun y m d e => by cases e; simp; omega⟩
    have hlen0 : 0 < len := by
      rcases Nat.eq_zero_or_pos len with h | h
      · subst h; exact absurd (by simp) h0
      · exact h
    obtain ⟨b, off, spot⟩ := x
    have hc0 := hcell 0 (by omega)
    have hspot : spot = none := by simpa [Addr.add] using World.cell?_spot hc0
    subst hspot
    refine ⟨b, off, rfl, fun j hj => ?_⟩
    have hj' : j < zs.length := by simp at hj; omega
    have hcj := hcell j hj'
    have hadd : (⟨b, off, none⟩ : Addr).add j = ⟨b, off + j, none⟩ := by unfold Addr.add; split <;> simp_all
    rw [hadd] at hcj
    rw [hcj]
    have hzj : (Lit.int .u8 (zs[j])).wf = true := hwz _ (List.getElem_mem hj')
    have hb := bounds_u8 hzj
    simp only [List.getElem_map, List.getElem_take, List.getD_eq_getElem?_getD, List.getElem?_eq_getElem hj', Option.getD_some]
    rw [UInt8.toNat_ofNat']
    congr 2
    omega

theorem six {α : Type} {l : List α} (h : l.length = 6) : ∃ a b c d e f, l = [a, b, c, d, e, f] := by
  match l, h with
  | [a, b, c, d, e, f], _ => exact ⟨a, b, c, d, e, f, rfl⟩

theorem one_act {H : Type} {enc : TypeId × Value → H} {W : World} {n : Nat} {cs : List Value} {x : DataW H × List MemPlace} (h : DataW.trod enc Try.prog W 0 (fun _ => true) true n 32 cs = some x) :
    ∃ a : Ac, cs = a.cs ∧ AcOk W a := by
  obtain ⟨xs, m, _, _, hl, hlen, hf⟩ := DataW.trod_struct Try.underlying32 h
  rw [cellsA] at hl
  obtain ⟨c0, c1, c2, c3, c4, c5, rfl⟩ := six hl
  have hlen' : xs.length = 6 := hlen
  obtain ⟨y0, y1, y2, y3, y4, y5, rfl⟩ := six hlen'
  have h0 : DataW.trod enc Try.prog W 0 (fun _ => true) true m 3 [c0] = some y0 := by simpa [cellsAI, cellsAT, cellsAB] using hf 0 _ rfl
  have h1 : DataW.trod enc Try.prog W 0 (fun _ => true) true m 9 [c1] = some y1 := by simpa [cellsAI, cellsAT, cellsAB] using hf 1 _ rfl
  have h2 : DataW.trod enc Try.prog W 0 (fun _ => true) true m 9 [c2] = some y2 := by simpa [cellsAI, cellsAT, cellsAB] using hf 2 _ rfl
  have h3 : DataW.trod enc Try.prog W 0 (fun _ => true) true m 3 [c3] = some y3 := by simpa [cellsAI, cellsAT, cellsAB] using hf 3 _ rfl
  have h4 : DataW.trod enc Try.prog W 0 (fun _ => true) true m 3 [c4] = some y4 := by simpa [cellsAI, cellsAT, cellsAB] using hf 4 _ rfl
  have h5 : DataW.trod enc Try.prog W 0 (fun _ => true) true m 30 [c5] = some y5 := by simpa [cellsAI, cellsAT, cellsAB] using hf 5 _ rfl
  obtain ⟨k, e0, _, w0⟩ := DataW.trod_int Try.underlying3 h0
  obtain ⟨t1, e1, _, w1⟩ := DataW.trod_string Try.underlying9 h1
  obtain ⟨t2, e2, _, w2⟩ := DataW.trod_string Try.underlying9 h2
  obtain ⟨i3, e3, _, w3⟩ := DataW.trod_int Try.underlying3 h3
  obtain ⟨i4, e4, _, w4⟩ := DataW.trod_int Try.underlying3 h4
  obtain ⟨l, hb, hr⟩ := act_bytes h5
  simp at e0 e1 e2 e3 e4
  subst e0 e1 e2 e3 e4
  have b0 := bounds_i64 w0
  have b3 := bounds_i64 w3
  have b4 := bounds_i64 w4
  exact ⟨⟨k, t1, t2, i3, i4, c5, l⟩, rfl, ⟨⟨by show _ ≤ k; omega, by show k ≤ _; omega⟩, ⟨by show _ ≤ i3; omega, by show i3 ≤ _; omega⟩, ⟨by show _ ≤ i4; omega, by show i4 ≤ _; omega⟩, w1, w2, hb, hr⟩⟩

/-- A list of calls that came in. -/
structure ActsIn (W : World) (v : Value) (l : List Ac) : Prop where
  form : ∃ a cap, v = .slice a l.length cap ∧ (l ≠ [] → ∃ b off, a = some ⟨b, off, none⟩ ∧ ∀ j (h : j < l.length) i u, (l[j]).cs[i]? = some u → W.cell? ⟨b, off + j * 6 + i, none⟩ = some u)
  ok : ∀ a ∈ l, AcOk W a
  len : l.length ≤ maxLen

theorem acts_in {H : Type} {enc : TypeId × Value → H} {W : World} {a : Option Addr} {len cap : Nat} {d : DataW H} {p : List MemPlace} (hk : DataW.Trod enc Try.prog W 0 (fun _ => true) true 22 (.slice a len cap) d p) :
    ∃ l : List Ac, len = l.length ∧ ActsIn W (.slice a len cap) l := by
  obtain ⟨fuel, hf⟩ := hk
  rcases Deep.open_slice Try.underlying22 hf with ⟨hcs, _⟩ | ⟨ad, len', cap', m, n, D, Pl, hcs, _, hl, hmx, hm, hx, hall⟩
  · simp [Value.cells] at hcs
    obtain ⟨rfl, rfl, rfl⟩ := hcs
    exact ⟨[], rfl, ⟨⟨none, 0, rfl, fun h => absurd rfl h⟩, by simp, by decide⟩⟩
  · simp [Value.cells] at hcs
    obtain ⟨rfl, rfl, rfl⟩ := hcs
    simp only [if_true] at hm
    subst hm
    obtain ⟨V, hV⟩ := @Deep.choose_lt Ac ⟨⟨0, ByteArray.empty, ByteArray.empty, 0, 0, .slice none 0 0, []⟩⟩ len (fun i v => (∀ j u, v.cs[j]? = some u → W.cell? ((ad.add (i * 6)).add j) = some u) ∧ AcOk W v) (fun i hi => by
      obtain ⟨cs', h1, h2⟩ := hall i (by omega)
      rw [cellsA] at h1
      obtain ⟨v, rfl, hv⟩ := one_act h2
      obtain ⟨_, hlen, hc⟩ := World.cells?_some h1
      refine ⟨v, fun j u hu => ?_, hv⟩
      have hj : j < 6 := by
        have := (List.getElem?_eq_some_iff.1 hu).1
        simpa [Ac.cs] using this
      rw [hc j hj, ← hu])
    refine ⟨(List.range len).map V, by simp, ⟨⟨some ad, m, by simp, fun h0 => ?_⟩, ?_, by simp; omega⟩⟩
    · have hl0 : 0 < len := by
        rcases Nat.eq_zero_or_pos len with h | h
        · subst h; exact absurd (by simp) h0
        · exact h
      obtain ⟨b, off, spot⟩ := ad
      have hc0 := (hV 0 hl0).1 0 _ rfl
      have hspot : spot = none := by simpa [Addr.add] using World.cell?_spot hc0
      subst hspot
      have addp : ∀ b off j : Nat, (⟨b, off, none⟩ : Addr).add j = ⟨b, off + j, none⟩ := fun b off j => by unfold Addr.add; split <;> simp_all
      refine ⟨b, off, rfl, fun j hj i u hu => ?_⟩
      have hj' : j < len := by simpa using hj
      simp only [List.getElem_map, List.getElem_range] at hu
      have := (hV j hj').1 i u hu
      rw [addp, addp] at this
      exact this
    · intro v hv
      simp only [List.mem_map, List.mem_range] at hv
      obtain ⟨i, hi, rfl⟩ := hv
      exact (hV i hi).2
end Go.Proofs.Ytclokpkhkokfhab
