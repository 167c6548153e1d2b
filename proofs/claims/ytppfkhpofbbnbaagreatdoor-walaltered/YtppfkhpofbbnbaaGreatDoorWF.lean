/-
  Are writes gone through? The law's own question on a list of writes. .. and what follows from it.
-/
import Derived.Test.YtppfkhpofbbnbaaGreatDoorWCheck
import Derived.Test.YtppfkhpofbbnbaaGreatDoorKFrame
import Derived.Test.YtppfkhpofbbnbaaGreatDoorKWr
import Derived.Deep.Slices
import Derived.Deep.Strs
namespace Go.Proofs.YtppfkhpofbbnbaaGreatDoor
open Go.RowKit

def lightOne (x : Wl.Wr) : Bool := decide (x.key.length ≤ 600) && (decide (x.value.length ≤ 600) || decide (4096 < x.value.length) && decide (x.value.length ≤ 4105))

theorem lall_take {l : List Wl.Wr} {j : Nat} (h : j < l.length) (ht : (l.take j).all lightOne = true) : (l.take (j + 1)).all lightOne = lightOne l[j] := by
  rw [List.take_succ_eq_append_getElem h, List.all_append, ht]; simp
theorem lall_no {l : List Wl.Wr} {j : Nat} (h : j < l.length) (hf : lightOne l[j] = false) : l.all lightOne = false := by
  rw [List.all_eq_false]
  exact ⟨_, List.getElem_mem h, by simp [hf]⟩

set_option maxRecDepth 100000 in
set_option maxHeartbeats 4000000 in
theorem light_any (w : World) (a : Option Addr) (c n : Nat) (l : List Wl.Wr) (h : WrsAt w (.slice a n c) l) (hn : n = l.length) (hl : n ≤ 140737488355328) (S : Bool) (HS : Hid (S = l.all lightOne)) :
    Calls Tryz.prog 20 #[.slice a n c] w fun e w' => e = .returned (.bool S) ∧ w' = w := by
  have H := hide h
  have HN := hide hn
  clear h hn
  go_enter Tryz.func20, Tryz.ntmps20
  go_wp2_with (fail)
  go_loopw [3] (fun i wr => wr = w ∧ ∃ j : Nat, j ≤ n ∧ i = .int .i64 j ∧ Hid ((l.take j).all lightOne = true)) (fun i _ => n - (intOf i).toNat)
  case atStart => exact ⟨rfl, 0, Nat.zero_le _, rfl, hide (by simp)⟩
  case round =>
    obtain ⟨rfl, j, hj, rfl, HT⟩ := hrel
    by_cases hlt : j < n
    · have jl : j < l.length := by have := HN.out; omega
      obtain ⟨b, off, rfl⟩ := H.out.some (by omega)
      obtain ⟨c0, c1, c2⟩ := H.out.cells j jl
      obtain ⟨x, hx⟩ : ∃ x, x = l[j] := ⟨_, rfl⟩
      rw [← hx] at c0 c1 c2
      have FT : Hid (lightOne x = true → (l.take (j + 1)).all lightOne = true) := fun hf => by rw [lall_take jl HT.out, ← hx]; exact hf
      have FN : Hid (lightOne x = false → S = false) := fun hf => by rw [HS.out]; exact lall_no jl (by rw [← hx]; exact hf)
      clear hx H HS HT HN jl
      obtain ⟨K, V, D⟩ := x
      simp only at c0 c1 c2
      by_cases g0 : (K.length : Int) > 600
      · have HF : Hid (S = false) := FN.out (by unfold lightOne; rw [decide_eq_false (by show ¬ K.length ≤ 600; omega)]; rfl)
        clear FN FT
        go_wp2_with (fail)
        go_ret
        exact ⟨by rw [HF.out]; rfl, rfl⟩
      by_cases g1 : (V.length : Int) > 600
      · by_cases g2 : (V.length : Int) ≤ 4096
        · have HF : Hid (S = false) := FN.out (by unfold lightOne; rw [decide_eq_false (p := V.length ≤ 600) (by omega), decide_eq_false (p := 4096 < V.length) (by omega)]; simp)
          clear FN FT
          go_wp2_with (fail)
          go_ret
          exact ⟨by rw [HF.out]; rfl, rfl⟩
        · by_cases g3 : (V.length : Int) > 4105
          · have HF : Hid (S = false) := FN.out (by unfold lightOne; rw [decide_eq_false (p := V.length ≤ 600) (by omega), decide_eq_false (p := V.length ≤ 4105) (by omega)]; simp)
            clear FN FT
            go_wp2_with (fail)
            go_ret
            exact ⟨by rw [HF.out]; rfl, rfl⟩
          · have HR := hide (FT.out (by unfold lightOne; simp; omega))
            clear FN FT
            go_wp2_with (fail)
            exact ⟨⟨trivial, j + 1, by omega, by go_num, HR⟩, by simp [intOf]; omega⟩
      · have g3 : ¬ (V.length : Int) > 4105 := by omega
        have HR := hide (FT.out (by unfold lightOne; simp; omega))
        clear FN FT
        go_wp2_with (fail)
        exact ⟨⟨trivial, j + 1, by omega, by go_num, HR⟩, by simp [intOf]; omega⟩
    · have HF : Hid (S = true) := by
        show _ = _
        have := HT.out
        rw [List.take_of_length_le (by have := HN.out; omega)] at this
        rw [HS.out, this]
      go_wp2_with (fail)
      go_ret
      exact ⟨by rw [HF.out]; rfl, rfl⟩
end Go.Proofs.YtppfkhpofbbnbaaGreatDoor
namespace Go.Proofs.YtppfkhpofbbnbaaGreatDoor
open Go.ChangeShapes Go.WideShapes Go.ChangeAt Go.RowKit

theorem cellsWW : Tryz.prog.cellsOf 34 = 3 := by kernel_rfl
theorem cellsWT : Tryz.prog.cellsOf 9 = 1 := by kernel_rfl
theorem cellsWB : Tryz.prog.cellsOf 4 = 1 := by kernel_rfl
theorem cellsWL : Tryz.prog.cellsOf 26 = 1 := by kernel_rfl

theorem wthree {α : Type} {l : List α} (h : l.length = 3) : ∃ a b c, l = [a, b, c] := by
  match l, h with
  | [a, b, c], _ => exact ⟨a, b, c, rfl⟩

def wrCs (x : Wl.Wr) : List Value := [str x.key, str x.value, .bool x.del]

theorem one_wr {H : Type} {enc : TypeId × Value → H} {W : World} {n : Nat} {cs : List Value} {x : DataW H × List MemPlace} (h : DataW.trod enc Tryz.prog W 0 (fun _ => true) true n 34 cs = some x) :
    ∃ a : Wl.Wr, cs = wrCs a ∧ a.key.length ≤ maxLen ∧ a.value.length ≤ maxLen := by
  obtain ⟨xs, m, _, _, hl, hlen, hf⟩ := DataW.trod_struct Tryz.underlying34 h
  rw [cellsWW] at hl
  obtain ⟨c0, c1, c2, rfl⟩ := wthree hl
  have hlen' : xs.length = 3 := hlen
  obtain ⟨y0, y1, y2, rfl⟩ := wthree hlen'
  have h0 : DataW.trod enc Tryz.prog W 0 (fun _ => true) true m 9 [c0] = some y0 := by simpa [cellsWT, cellsWB] using hf 0 _ rfl
  have h1 : DataW.trod enc Tryz.prog W 0 (fun _ => true) true m 9 [c1] = some y1 := by simpa [cellsWT, cellsWB] using hf 1 _ rfl
  have h2 : DataW.trod enc Tryz.prog W 0 (fun _ => true) true m 4 [c2] = some y2 := by simpa [cellsWT, cellsWB] using hf 2 _ rfl
  obtain ⟨t0, e0, _, w0⟩ := DataW.trod_string Tryz.underlying9 h0
  obtain ⟨t1, e1, _, w1⟩ := DataW.trod_string Tryz.underlying9 h1
  obtain ⟨d, e2, _⟩ := DataW.trod_bool Tryz.underlying4 h2
  simp at e0 e1 e2
  subst e0 e1 e2
  exact ⟨⟨t0.data.toList, t1.data.toList, d⟩, by simp [wrCs, str], w0, w1⟩

theorem wrs_in {H : Type} {enc : TypeId × Value → H} {W : World} {fuel : Nat} {c : Value} {x : DataW H × List MemPlace} (hf : DataW.trod enc Tryz.prog W 0 (fun _ => true) true fuel 26 [c] = some x) :
    ∃ (l : List Wl.Wr) (a : Option Addr) (cap : Nat), c = .slice a l.length cap ∧ WrsAt W (.slice a l.length cap) l ∧ l.length ≤ maxLen ∧ ∀ x ∈ l, x.key.length ≤ maxLen ∧ x.value.length ≤ maxLen := by
  rcases Deep.open_slice Tryz.underlying26 hf with ⟨hcs, _⟩ | ⟨ad, len, cap, m, n, D, Pl, hcs, _, hl, hmx, hm, hx, hall⟩
  · simp at hcs
    subst hcs
    exact ⟨[], none, 0, rfl, WrsAt.nil _ _ _, Nat.zero_le _, by simp⟩
  · simp at hcs
    subst hcs
    simp only [if_true] at hm
    subst hm
    obtain ⟨V, hV⟩ := @Deep.choose_lt Wl.Wr ⟨⟨[], [], false⟩⟩ len (fun i v => (∀ j u, (wrCs v)[j]? = some u → W.cell? ((ad.add (i * 3)).add j) = some u) ∧ v.key.length ≤ maxLen ∧ v.value.length ≤ maxLen) (fun i hi => by
      obtain ⟨cs', h1, h2⟩ := hall i (by omega)
      rw [cellsWW] at h1
      obtain ⟨v, rfl, hv⟩ := one_wr h2
      obtain ⟨_, hlen, hc⟩ := World.cells?_some h1
      refine ⟨v, fun j u hu => ?_, hv⟩
      have hj : j < 3 := by
        have := (List.getElem?_eq_some_iff.1 hu).1
        simpa [wrCs] using this
      rw [hc j hj, ← hu])
    refine ⟨(List.range len).map V, some ad, m, by simp, ⟨⟨some ad, m, rfl, fun h0 => ?_⟩⟩, by simp; omega, ?_⟩
    · have hl0 : 0 < len := by
        rcases Nat.eq_zero_or_pos len with h | h
        · subst h; exact absurd (by simp) h0
        · exact h
      obtain ⟨b, off, spot⟩ := ad
      have hc0 := (hV 0 hl0).1 0 _ rfl
      have hspot : spot = none := by simpa [Addr.add] using World.cell?_spot hc0
      subst hspot
      have addp : ∀ b off j : Nat, (⟨b, off, none⟩ : Addr).add j = ⟨b, off + j, none⟩ := fun b off j => by unfold Addr.add; split <;> simp_all
      refine ⟨b, off, rfl, fun j hj => ?_⟩
      have hj' : j < len := by simpa using hj
      simp only [List.getElem_map, List.getElem_range]
      have q0 := (hV j hj').1 0 _ rfl
      have q1 := (hV j hj').1 1 _ rfl
      have q2 := (hV j hj').1 2 _ rfl
      rw [addp, addp] at q0 q1 q2
      exact ⟨q0, q1, q2⟩
    · intro v hv
      simp only [List.mem_map, List.mem_range] at hv
      obtain ⟨i, hi, rfl⟩ := hv
      exact (hV i hi).2

/-- A list of lists of writes that came in. -/
structure WrssAt (W : World) (v : Value) (l : List (List Wl.Wr)) : Prop where
  form : ∃ a cap, v = .slice a l.length cap ∧ (l ≠ [] → ∃ b off, a = some ⟨b, off, none⟩ ∧ ∀ j (h : j < l.length), ∃ x c, W.cell? ⟨b, off + j, none⟩ = some (.slice x l[j].length c) ∧ WrsAt W (.slice x l[j].length c) l[j])
  len : l.length ≤ maxLen
  each : ∀ x ∈ l, x.length ≤ maxLen ∧ ∀ y ∈ x, y.key.length ≤ maxLen ∧ y.value.length ≤ maxLen

theorem wrss_in {H : Type} {enc : TypeId × Value → H} {W : World} {a : Option Addr} {len cap : Nat} {d : DataW H} {p : List MemPlace} (hk : DataW.Trod enc Tryz.prog W 0 (fun _ => true) true 73 (.slice a len cap) d p) :
    ∃ l : List (List Wl.Wr), len = l.length ∧ WrssAt W (.slice a len cap) l := by
  obtain ⟨fuel, hf⟩ := hk
  rcases Deep.open_slice Tryz.underlying73 hf with ⟨hcs, _⟩ | ⟨ad, len', cap', m, n, D, Pl, hcs, _, hl, hmx, hm, hx, hall⟩
  · simp [Value.cells] at hcs
    obtain ⟨rfl, rfl, rfl⟩ := hcs
    exact ⟨[], rfl, ⟨⟨none, 0, rfl, fun h => absurd rfl h⟩, by decide, by simp⟩⟩
  · simp [Value.cells] at hcs
    obtain ⟨rfl, rfl, rfl⟩ := hcs
    simp only [if_true] at hm
    subst hm
    obtain ⟨V, hV⟩ := @Deep.choose_lt (List Wl.Wr) ⟨[]⟩ len (fun i v => (∃ x c, W.cell? (ad.add i) = some (.slice x v.length c) ∧ WrsAt W (.slice x v.length c) v) ∧ v.length ≤ maxLen ∧ ∀ y ∈ v, y.key.length ≤ maxLen ∧ y.value.length ≤ maxLen) (fun i hi => by
      obtain ⟨cs', h1, h2⟩ := hall i (by omega)
      rw [cellsWL] at h1
      obtain ⟨_, hlen, hc⟩ := World.cells?_some h1
      obtain ⟨c0, rfl⟩ := List.length_eq_one_iff.1 hlen
      obtain ⟨l, x, k, rfl, h3, h4, h5⟩ := wrs_in h2
      refine ⟨l, ⟨x, k, ?_, h3⟩, h4, h5⟩
      have := hc 0 (by omega)
      have e : ∀ b : Addr, b.add 0 = b := fun b => by unfold Addr.add; split <;> simp_all
      rw [e] at this
      simpa using this)
    refine ⟨(List.range len).map V, by simp, ⟨⟨some ad, m, by simp, fun h0 => ?_⟩, by simp; omega, ?_⟩⟩
    · have hl0 : 0 < len := by
        rcases Nat.eq_zero_or_pos len with h | h
        · subst h; exact absurd (by simp) h0
        · exact h
      obtain ⟨b, off, spot⟩ := ad
      obtain ⟨⟨x0, k0, hc0, _⟩, _⟩ := hV 0 hl0
      have hspot : spot = none := by simpa [Addr.add] using World.cell?_spot hc0
      subst hspot
      have addp : ∀ b off j : Nat, (⟨b, off, none⟩ : Addr).add j = ⟨b, off + j, none⟩ := fun b off j => by unfold Addr.add; split <;> simp_all
      refine ⟨b, off, rfl, fun j hj => ?_⟩
      have hj' : j < len := by simpa using hj
      simp only [List.getElem_map, List.getElem_range]
      obtain ⟨⟨x, k, hc, hw⟩, _⟩ := hV j hj'
      rw [addp] at hc
      exact ⟨x, k, hc, hw⟩
    · intro v hv
      simp only [List.mem_map, List.mem_range] at hv
      obtain ⟨i, hi, rfl⟩ := hv
      exact (hV i hi).2
end Go.Proofs.YtppfkhpofbbnbaaGreatDoor
