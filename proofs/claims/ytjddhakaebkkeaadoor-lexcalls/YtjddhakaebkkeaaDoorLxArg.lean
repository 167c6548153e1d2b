/-
  A list of tokens that came in: where its tokens lie, and that their parts fit their kinds. The library's tables, as the rows list them.
-/
import Derived.Test.YtjddhakaebkkeaaDoorLxM
import Derived.Test.YtjddhakaebkkeaaDoorUTabs
import Derived.ProofKit
import Derived.OpenShut
import Derived.SizedLaws
import Derived.Deep.Slices
import Derived.Deep.Strs
namespace Go.Proofs.YtjddhakaebkkeaaDoor
open Go.ChangeShapes Go.WideShapes Go.ChangeAt Go.RowKit Go.Shelf

theorem cellsTk : Tryd.prog.cellsOf 27 = 4 := by kernel_rfl
theorem bytesTk : Tryd.prog.bytesOf 27 = 40 := by kernel_rfl
theorem cellsTK : Tryd.prog.cellsOf 24 = 1 := by kernel_rfl
theorem cellsTS : Tryd.prog.cellsOf 9 = 1 := by kernel_rfl
theorem cellsTU : Tryd.prog.cellsOf 25 = 1 := by kernel_rfl
theorem cellsTI : Tryd.prog.cellsOf 3 = 1 := by kernel_rfl
theorem add_tk (b off j : Nat) : (⟨b, off, none⟩ : Addr).add j = ⟨b, off + j, none⟩ := by unfold Addr.add; split <;> simp_all
theorem four_of {α : Type} {l : List α} (h : l.length = 4) : ∃ a b c d, l = [a, b, c, d] := by
  match l, h with
  | [a, b, c, d], _ => exact ⟨a, b, c, d, rfl⟩

theorem one_tk {H : Type} {enc : TypeId × Value → H} {W : World} {n : Nat} {cs : List Value} {x : DataW H × List MemPlace} (h : DataW.trod enc Tryd.prog W 0 (fun _ => true) true n 27 cs = some x) :
    ∃ a : Lx.Tk, cs = tkc a ∧ Twf a := by
  obtain ⟨xs, m, _, _, hl, hlen, hf⟩ := DataW.trod_struct Tryd.underlying27 h
  rw [cellsTk] at hl
  obtain ⟨c0, c1, c2, c3, rfl⟩ := four_of hl
  have hlen' : xs.length = 4 := hlen
  obtain ⟨y0, y1, y2, y3, rfl⟩ := four_of hlen'
  have h0 : DataW.trod enc Tryd.prog W 0 (fun _ => true) true m 24 [c0] = some y0 := by simpa [cellsTK, cellsTS, cellsTU, cellsTI] using hf 0 _ rfl
  have h1 : DataW.trod enc Tryd.prog W 0 (fun _ => true) true m 9 [c1] = some y1 := by simpa [cellsTK, cellsTS, cellsTU, cellsTI] using hf 1 _ rfl
  have h2 : DataW.trod enc Tryd.prog W 0 (fun _ => true) true m 25 [c2] = some y2 := by simpa [cellsTK, cellsTS, cellsTU, cellsTI] using hf 2 _ rfl
  have h3 : DataW.trod enc Tryd.prog W 0 (fun _ => true) true m 3 [c3] = some y3 := by simpa [cellsTK, cellsTS, cellsTU, cellsTI] using hf 3 _ rfl
  obtain ⟨k, e0, _, w0⟩ := DataW.trod_int Tryd.underlying24 h0
  obtain ⟨t, e1, _, w1⟩ := DataW.trod_string Tryd.underlying9 h1
  obtain ⟨u, e2, _, w2⟩ := DataW.trod_int Tryd.underlying25 h2
  obtain ⟨a, e3, _, w3⟩ := DataW.trod_int Tryd.underlying3 h3
  simp at e0 e1 e2 e3
  subst e0 e1 e2 e3
  have b0 := bounds_u8 w0
  have b2 := bounds_u64 w2
  have b3 := bounds_i64 w3
  obtain ⟨u, rfl⟩ : ∃ v : Nat, u = v := ⟨u.toNat, by omega⟩
  have ht : t.data.toList.length = t.size := by rw [Array.length_toList]; rfl
  have e : (⟨t.data.toList.toArray⟩ : ByteArray) = t := by simp
  exact ⟨⟨k, t.data.toList, u, a⟩, by simp only [tkc, e], ⟨by show 0 ≤ k; omega, by show k ≤ 255; omega, by show u < _; omega, by show _ ≤ a; omega, by show a ≤ _; omega, by show t.data.toList.length ≤ _; rw [ht]; exact w1⟩⟩

theorem tks_in {H : Type} {enc : TypeId × Value → H} {W : World} {a : Option Addr} {len cap : Nat} {d : DataW H} {p : List MemPlace} (hk : DataW.Trod enc Tryd.prog W 0 (fun _ => true) true 22 (.slice a len cap) d p) :
    ∃ vs : List Lx.Tk, len = vs.length ∧ TksIn W (.slice a len cap) vs := by
  obtain ⟨fuel, hf⟩ := hk
  rcases Deep.open_slice Tryd.underlying22 hf with ⟨hcs, _⟩ | ⟨ad, len', cap', m, n, D, Pl, hcs, _, hl, _, hm, hx, hall⟩
  · simp [Value.cells] at hcs
    obtain ⟨rfl, rfl, rfl⟩ := hcs
    exact ⟨[], rfl, ⟨none, 0, rfl, fun _ => rfl, fun h => absurd rfl h⟩, by simp⟩
  · simp [Value.cells] at hcs
    obtain ⟨rfl, rfl, rfl⟩ := hcs
    simp only [if_true] at hm
    subst hm
    obtain ⟨V, hV⟩ := @Deep.choose_lt Lx.Tk ⟨⟨0, [], 0, 0⟩⟩ len (fun i v => (W.cell? (ad.add (i * 4)) = some (.int .u8 v.k) ∧ W.cell? ((ad.add (i * 4)).add 1) = some (.string ⟨v.t.toArray⟩) ∧ W.cell? ((ad.add (i * 4)).add 2) = some (.int .u64 v.n) ∧ W.cell? ((ad.add (i * 4)).add 3) = some (.int .i64 v.at')) ∧ Twf v) (fun i hi => by
      obtain ⟨cs', h1, h2⟩ := hall i (by omega)
      rw [cellsTk] at h1
      obtain ⟨v, rfl, hv⟩ := one_tk h2
      obtain ⟨_, _, hc⟩ := World.cells?_some h1
      refine ⟨v, ⟨?_, by simpa [tkc] using hc 1 (by simp), by simpa [tkc] using hc 2 (by simp), by simpa [tkc] using hc 3 (by simp)⟩, hv⟩
      have := hc 0 (by simp)
      have e : (ad.add (i * 4)).add 0 = ad.add (i * 4) := by unfold Addr.add; split <;> simp_all
      rw [e] at this
      simpa [tkc] using this)
    refine ⟨(List.range len).map V, by simp, ⟨some ad, m, by simp, (fun h => by cases h), fun h0 => ?_⟩, ?_⟩
    · have hl0 : 0 < len := by
        rcases Nat.eq_zero_or_pos len with h | h
        · subst h; exact absurd (by simp) h0
        · exact h
      obtain ⟨b, off, spot⟩ := ad
      have hc0 := (hV 0 hl0).1.1
      have hspot : spot = none := by simpa [Addr.add] using World.cell?_spot hc0
      subst hspot
      refine ⟨b, off, rfl, fun j hj => ?_⟩
      have hj' : j < len := by simpa using hj
      obtain ⟨⟨q0, q1, q2, q3⟩, _⟩ := hV j hj'
      rw [add_tk] at q0
      rw [add_tk, add_tk] at q1 q2 q3
      simp only [List.getElem_map, List.getElem_range]
      exact ⟨q0, q1, q2, q3⟩
    · intro v hv
      simp only [List.mem_map, List.mem_range] at hv
      obtain ⟨i, hi, rfl⟩ := hv
      exact (hV i hi).2

/-! ### The tables -/
theorem tab2_of {W : World} {L : List (String × DataW Unit)} (h : laidMet Tryd.prog L W) (hs : W.ShapedOpen Tryd.prog) (h1 : ("unicode/utf8.first", Rows.laid_unicode_utf8_first) ∈ L) (h2 : ("unicode/utf8.acceptRanges", Rows.laid_unicode_utf8_acceptRanges) ∈ L) : Tab2 W := by
  refine ⟨?_, ?_⟩
  · have h3 := Lib.laidMet.reads h (n := "unicode/utf8.first") (d := Lib.firstData) (by rw [← first_is]; exact h1)
    have h4 := Lib.laidMet.reads h (n := "unicode/utf8.acceptRanges") (d := Lib.acceptData) (by rw [← accept_is]; exact h2)
    exact utf8Tabs_of_readsT (U8Types.of196 Tryd.lays196) u8extra h3 h4
  · exact cell_of_shapedOpen_int (t := 3) (zero := #[.int .i64 0]) hs (by decide) (by kernel_rfl) (by kernel_rfl) (by kernel_rfl) (by kernel_rfl) Tryd.underlying3
end Go.Proofs.YtjddhakaebkkeaaDoor
