/-
  What the frames of this layer's statements share: entries and lists of entries that came in. .. and what follows from it.
-/
import Derived.Test.YtbdgdigpnfpnhaaRows
import Derived.Test.YtbdgdigpnfpnhaaJMem
import Derived.SizedLaws
import Derived.ProofKit
import Derived.OpenShut
import Derived.ChangeOld
import Derived.Deep.Slices
import Derived.Deep.Strs
import Derived.Test.YtbdgdigpnfpnhaaKL
namespace Go.Proofs.Ytbdgdigpnfpnhaa.Q
open Go.ChangeShapes Go.WideShapes Go.ChangeAt Go.RowKit

theorem addr_add (b off j : Nat) : (⟨b, off, none⟩ : Addr).add j = ⟨b, off + j, none⟩ := by unfold Addr.add; split <;> simp_all
theorem own : ownKnob Try.prog.godebug = none := by kernel_rfl
theorem laidOut : laidOutB Try.prog = true := by kernel_rfl
theorem cellsEE : Try.prog.cellsOf 38 = 4 := by kernel_rfl
theorem cellsET : Try.prog.cellsOf 9 = 1 := by kernel_rfl
theorem cellsEB : Try.prog.cellsOf 4 = 1 := by kernel_rfl
theorem cellsEI : Try.prog.cellsOf 3 = 1 := by kernel_rfl

theorem efour {α : Type} {l : List α} (h : l.length = 4) : ∃ a b c d, l = [a, b, c, d] := by
  match l, h with
  | [a, b, c, d], _ => exact ⟨a, b, c, d, rfl⟩
theorem one_ent {H : Type} {enc : TypeId × Value → H} {W : World} {n : Nat} {cs : List Value} {x : DataW H × List MemPlace} (h : DataW.trod enc Try.prog W 0 (fun _ => true) true n 38 cs = some x) :
    ∃ a : Mm.Ent, cs = ec a ∧ (a.key.length ≤ maxLen ∧ a.value.length ≤ maxLen) ∧ (-9223372036854775808 ≤ a.seq ∧ a.seq ≤ 9223372036854775807) := by
  obtain ⟨xs, m, _, _, hl, hlen, hf⟩ := DataW.trod_struct Try.underlying38 h
  rw [cellsEE] at hl
  obtain ⟨c0, c1, c2, c3, rfl⟩ := efour hl
  have hlen' : xs.length = 4 := hlen
  obtain ⟨y0, y1, y2, y3, rfl⟩ := efour hlen'
  have h0 : DataW.trod enc Try.prog W 0 (fun _ => true) true m 9 [c0] = some y0 := by simpa [cellsET, cellsEB, cellsEI] using hf 0 _ rfl
  have h1 : DataW.trod enc Try.prog W 0 (fun _ => true) true m 9 [c1] = some y1 := by simpa [cellsET, cellsEB, cellsEI] using hf 1 _ rfl
  have h2 : DataW.trod enc Try.prog W 0 (fun _ => true) true m 3 [c2] = some y2 := by simpa [cellsET, cellsEB, cellsEI] using hf 2 _ rfl
  have h3 : DataW.trod enc Try.prog W 0 (fun _ => true) true m 4 [c3] = some y3 := by simpa [cellsET, cellsEB, cellsEI] using hf 3 _ rfl
  obtain ⟨t0, e0, _, w0⟩ := DataW.trod_string Try.underlying9 h0
  obtain ⟨t1, e1, _, w1⟩ := DataW.trod_string Try.underlying9 h1
  obtain ⟨i2, e2, _, w2⟩ := DataW.trod_int Try.underlying3 h2
  obtain ⟨d, e3, _⟩ := DataW.trod_bool Try.underlying4 h3
  simp at e0 e1 e2 e3
  subst e0 e1 e2 e3
  have b2 := bounds_i64 w2
  exact ⟨⟨t0.data.toList, t1.data.toList, i2, d⟩, by simp [ec, str], ⟨w0, w1⟩, by omega⟩

theorem ents_in {H : Type} {enc : TypeId × Value → H} {W : World} {fuel : Nat} {c : Value} {x : DataW H × List MemPlace} (hf : DataW.trod enc Try.prog W 0 (fun _ => true) true fuel 23 [c] = some x) :
    ∃ (l : List Mm.Ent) (a : Option Addr) (cap : Nat), c = .slice a l.length cap ∧ EntsAt W (.slice a l.length cap) l ∧ l.length ≤ maxLen ∧ ∀ x ∈ l, (x.key.length ≤ maxLen ∧ x.value.length ≤ maxLen) ∧ (-9223372036854775808 ≤ x.seq ∧ x.seq ≤ 9223372036854775807) := by
  rcases Deep.open_slice Try.underlying23 hf with ⟨hcs, _⟩ | ⟨ad, len, cap, m, n, D, Pl, hcs, _, hl, hmx, hm, hx, hall⟩
  · simp at hcs
    subst hcs
    exact ⟨[], none, 0, rfl, EntsAt.nil _ _ _, Nat.zero_le _, by simp⟩
  · simp at hcs
    subst hcs
    simp only [if_true] at hm
    subst hm
    obtain ⟨V, hV⟩ := @Deep.choose_lt Mm.Ent ⟨⟨[], [], 0, false⟩⟩ len (fun i v => (∀ j u, (ec v)[j]? = some u → W.cell? ((ad.add (i * 4)).add j) = some u) ∧ (v.key.length ≤ maxLen ∧ v.value.length ≤ maxLen) ∧ (-9223372036854775808 ≤ v.seq ∧ v.seq ≤ 9223372036854775807)) (fun i hi => by
      obtain ⟨cs', h1, h2⟩ := hall i (by omega)
      rw [cellsEE] at h1
      obtain ⟨v, rfl, hv⟩ := one_ent h2
      obtain ⟨_, hlen, hc⟩ := World.cells?_some h1
      refine ⟨v, fun j u hu => ?_, hv⟩
      have hj : j < 4 := by
        have := (List.getElem?_eq_some_iff.1 hu).1
        simpa [ec] using this
      rw [hc j hj, ← hu])
    refine ⟨(List.range len).map V, some ad, m, by simp, ⟨⟨some ad, m, rfl, fun h0 => ?_⟩⟩, by simp; omega, ?_⟩
    · have hl0 : 0 < len := by
        rcases Nat.eq_zero_or_pos len with h | h
        · subst h; exact absurd (by simp) h0
        · exact h
      obtain ⟨b, off, spot⟩ := ad
      have hc0 := (hV 0 hl0).1 0 _ rfl
      have hspot : spot = none := by simpa [Addr.add] using World.cell?_spot hc0
      subst hspot
      refine ⟨b, off, rfl, fun j hj => ?_⟩
      have hj' : j < len := by simpa using hj
      simp only [List.getElem_map, List.getElem_range]
      have q0 := (hV j hj').1 0 _ rfl
      have q1 := (hV j hj').1 1 _ rfl
      have q2 := (hV j hj').1 2 _ rfl
      have q3 := (hV j hj').1 3 _ rfl
      rw [addr_add, addr_add] at q0 q1 q2 q3
      exact ⟨q0, q1, q2, q3⟩
    · intro x hx
      obtain ⟨i, hi, rfl⟩ := List.mem_map.1 hx
      exact (hV i (List.mem_range.1 hi)).2
end Go.Proofs.Ytbdgdigpnfpnhaa.Q
namespace Go.Proofs.Ytbdgdigpnfpnhaa.Q
open Go.ChangeShapes Go.WideShapes Go.ChangeAt Go.RowKit

theorem ints_in {H : Type} {enc : TypeId × Value → H} {W : World} {fuel : Nat} {c : Value} {x : DataW H × List MemPlace} (hf : DataW.trod enc Try.prog W 0 (fun _ => true) true fuel 22 [c] = some x) :
    ∃ (l : List Int) (a : Option Addr) (cap : Nat), c = .slice a l.length cap ∧ IntsAt W (.slice a l.length cap) l ∧ l.length ≤ maxLen := by
  rcases open_ints Try.underlying22 Try.underlying3 (by kernel_rfl) hf with ⟨hcs, _⟩ | ⟨ad, len, cap, zs, hcs, _, hl, hm, hz, _, hcell, _⟩
  · simp at hcs
    subst hcs
    exact ⟨[], none, 0, rfl, IntsAt.nil _, Nat.zero_le _⟩
  · simp at hcs
    subst hcs
    simp only [if_true] at hz
    have hlen : (zs.take len).length = len := by simp; omega
    refine ⟨zs.take len, some ad, cap, by rw [hlen], ⟨⟨some ad, cap, rfl, (fun e => by cases e), fun h0 => ?_⟩⟩, by omega⟩
    have hlen0 : 0 < len := by
      rcases Nat.eq_zero_or_pos len with h | h
      · subst h; exact absurd (by simp) h0
      · exact h
    obtain ⟨b, off, spot⟩ := ad
    have hc0 := hcell 0 (by omega)
    have hspot : spot = none := by simpa [Addr.add] using World.cell?_spot hc0
    subst hspot
    refine ⟨b, off, rfl, fun j hj => ?_⟩
    have hj' : j < zs.length := by omega
    have hcj := hcell j hj'
    rw [addr_add] at hcj
    rw [hcj]
    simp [List.getD_eq_getElem?_getD, List.getElem?_eq_getElem hj']
theorem cellsES : Try.prog.cellsOf 46 = 2 := by kernel_rfl
theorem etwo {α : Type} {l : List α} (h : l.length = 2) : ∃ a b, l = [a, b] := by
  match l, h with
  | [a, b], _ => exact ⟨a, b, rfl⟩
theorem one_span {H : Type} {enc : TypeId × Value → H} {W : World} {n : Nat} {cs : List Value} {x : DataW H × List MemPlace} (h : DataW.trod enc Try.prog W 0 (fun _ => true) true n 46 cs = some x) :
    ∃ f t : Mm.Bs, cs = [str f, str t] := by
  obtain ⟨zs, m2, _, _, hl, zlen, hz⟩ := DataW.trod_struct Try.underlying46 h
  rw [cellsES] at hl
  obtain ⟨c0, c1, rfl⟩ := etwo hl
  have zlen' : zs.length = 2 := zlen
  obtain ⟨z0, z1, rfl⟩ := etwo zlen'
  have g0 : DataW.trod enc Try.prog W 0 (fun _ => true) true m2 9 [c0] = some z0 := by simpa [cellsET] using hz 0 _ rfl
  have g1 : DataW.trod enc Try.prog W 0 (fun _ => true) true m2 9 [c1] = some z1 := by simpa [cellsET] using hz 1 _ rfl
  obtain ⟨t2, e2, _, w2⟩ := DataW.trod_string Try.underlying9 g0
  obtain ⟨t3, e3, _, w3⟩ := DataW.trod_string Try.underlying9 g1
  simp at e2 e3
  subst e2 e3
  exact ⟨t2.data.toList, t3.data.toList, by simp [str]⟩
theorem cap_in {H : Type} {enc : TypeId × Value → H} {W : World} {fuel : Nat} {a : Option Addr} {len cap : Nat} {x : DataW H × List MemPlace} (hf : DataW.trod enc Try.prog W 0 (fun _ => true) true fuel 23 [.slice a len cap] = some x) : len ≤ cap := by
  rcases Deep.open_slice Try.underlying23 hf with ⟨hcs, _⟩ | ⟨ad, len', cap', m, n, D, Pl, hcs, _, hl, _⟩
  · simp at hcs
    omega
  · simp at hcs
    omega
end Go.Proofs.Ytbdgdigpnfpnhaa.Q
