/-
  The statements' own first question: the chapter's first examples hold, so it answers true; it leaves all that was there as it was. .. and what follows from it.
-/
import Derived.Test.YtlhnjloimhcpfabGreatDoorYM
namespace Go.Proofs.YtlhnjloimhcpfabGreatDoor
open Go.RowKit Go.Maps Go.Sort

namespace Liv
def a : Vf.Bs := [97]
def z70 : Vf.Bs := List.replicate 70 0
def z31 : Vf.Bs := List.replicate 31 0
def s1 : Vf.St := Vf.create (Vf.new 100) a
def s2 : Vf.St := Vf.append s1 a z70
def s3 : Vf.St := Vf.append s2 a z31
def s4 : Vf.St := Vf.sync s3 a
def s5 : Vf.St := Vf.crash s4 0 0
theorem e1 : Vf.createE (Vf.new 100) a = 0 := by decide +kernel
theorem e2 : Vf.appendE s1 a z70 = 0 := by decide +kernel
theorem e3 : Vf.left s2 = 30 := by decide +kernel
theorem e4 : Vf.appendE s2 a z31 = 8 := by decide +kernel
theorem e5 : s3.pending.length = 3 := by decide +kernel
theorem e6 : Vf.syncE s3 a = 0 := by decide +kernel
theorem e7 : s4.pending.length = 1 := by decide +kernel
theorem e8 : (namesOf s5).length = 0 := by decide +kernel
theorem k1 : s1.steps + z70.length ≤ 90000000 := by decide +kernel
theorem k2 : s2.steps + z31.length ≤ 90000000 := by decide +kernel
theorem k2' : s2.steps ≤ 90000000 := by decide +kernel
theorem k3 : s3.steps ≤ 90000000 := by decide +kernel
theorem k4 : s4.steps ≤ 90000000 := by decide +kernel
theorem k5 : s5.steps ≤ 90000000 := by decide +kernel
end Liv

/-- A new list of n bytes 0 is free. -/
theorem zeros_free {base lim : Nat} (u : World) (n : Nat) (h : lim ≤ u.heap.size) (hn : n ≤ 1000000) : Free base lim (u.alloc (.cells (zeros n) 5)) (.slice (some ⟨u.heap.size, 0, none⟩) n n) (List.replicate n 0) := by
  refine ⟨BytesIn.block (B := u.heap.size) (World.alloc_heap_new u _) _ (by rw [List.length_replicate]; omega) (fun j hj => ?_) n n (by simp), fun a m c e _ => ?_, fun a m c e _ => ?_⟩
  · rw [List.length_replicate] at hj
    simp [zeros, hj]
  · cases e; exact .inr h
  · cases e; simp

theorem new_fs (w : World) (room : Nat) (h : room ≤ 1073741824) : Calls Tryz.prog 5 #[.int .i64 (room : Int)] w fun e w' => ∃ b, e = .returned (.tuple #[.pointer (some ⟨b, 0, none⟩), .int .i64 0]) ∧ FsIn w.heap.size w'.heap.size w' b (Vf.new room) ∧ Below w.heap.size w w' := by
  refine (new_any w room h).mono ?_
  rintro e w' ⟨rfl, h1, h2⟩
  exact ⟨_, rfl, ⟨⟨_, h1, fun i hi => hi⟩, Vf.Inv.new h, h2.size, Nat.le_refl _⟩, h2⟩

end Go.Proofs.YtlhnjloimhcpfabGreatDoor
namespace Go.Proofs.YtlhnjloimhcpfabGreatDoor
open Go.RowKit Go.Maps Go.Sort

/-- A list of texts lies there. -/
def TextsAt (w : World) (v : Value) (l : List Vf.Bs) : Prop := ∃ a cap, v = .slice a l.length cap ∧ (l ≠ [] → ∃ b off, a = some ⟨b, off, none⟩ ∧ ∀ j (h : j < l.length), w.cell? ⟨b, off + j, none⟩ = some (str l[j]))
theorem TextsAt.later {w w' : World} {v : Value} {l : List Vf.Bs} (h : TextsAt w v l) (hb : Below w.heap.size w w') : TextsAt w' v l := by
  obtain ⟨a, cap, e, hf⟩ := h
  refine ⟨a, cap, e, fun h0 => ?_⟩
  obtain ⟨b, off, ha, hat⟩ := hf h0
  exact ⟨b, off, ha, fun j hj => keepC hb (hat j hj)⟩
theorem texts_of_own {w : World} {base : Nat} {v : Value} {l : List Vf.Bs} (h : w.ownsRow base 9 1 v l.length (l.map str)) : TextsAt w v l := by
  rcases h.2 with ⟨rfl, h0⟩ | ⟨g, cap, cur, rfl, _⟩
  · have : l = [] := List.eq_nil_of_length_eq_zero h0
    subst this
    exact ⟨none, 0, rfl, fun h => absurd rfl h⟩
  · refine ⟨_, cap, rfl, fun _ => ⟨g, 0, rfl, fun j hj => ?_⟩⟩
    rw [Nat.zero_add, h.cellAt j (by omega)]
    simp [hj]
theorem texts_new (w : World) (l : List Vf.Bs) : TextsAt (w.alloc (.cells (l.map str).toArray 9)) (.slice (some ⟨w.heap.size, 0, none⟩) l.length l.length) l := by
  refine ⟨_, l.length, rfl, fun _ => ⟨w.heap.size, 0, rfl, fun j hj => ?_⟩⟩
  rw [Nat.zero_add]
  refine (Joins.cell_of_block (World.alloc_heap_new w _) j).trans ?_
  simp [hj]

theorem take_ne {l m : List Vf.Bs} {j : Nat} (h : j < l.length) (h' : j < m.length) (hne : l[j] ≠ m[j]) : l ≠ m := fun e => by subst e; exact hne rfl
set_option maxHeartbeats 1000000 in
theorem sameTexts_any (w : World) (v v' : Value) (l m : List Vf.Bs) (h : TextsAt w v l) (h' : TextsAt w v' m) (hl : l.length ≤ 1000000000) :
    Calls Tryz.prog 16 #[v, v'] w fun e w' => e = .returned (.bool (decide (l = m))) ∧ Below w.heap.size w w' := by
  obtain ⟨a, c, rfl, hf⟩ := h
  obtain ⟨a', c', rfl, hf'⟩ := h'
  by_cases hlen : l.length = m.length
  · obtain ⟨n, hn⟩ : ∃ n, n = l.length := ⟨_, rfl⟩
    have hn' : m.length = n := by omega
    rw [← hn, hn']
    have HN : Hid (n = l.length) := hn
    have HN' : Hid (m.length = n) := hn'
    have HF : Hid _ := hf
    have HF' : Hid _ := hf'
    have nle : n ≤ 1000000000 := by omega
    clear hlen hn hn' hf hf' hl
    go_enter Tryz.func16, Tryz.ntmps16
    go_wp2_with (fail)
    go_loopw [5] (fun i wr => Below w.heap.size w wr ∧ ∃ j : Nat, j ≤ n ∧ i = .int .i64 j ∧ Hid (l.take j = m.take j)) (fun i _ => n - (intOf i).toNat)
    case atStart => exact ⟨Below.refl _ _, 0, Nat.zero_le _, rfl, rfl⟩
    case round =>
      obtain ⟨bx, j, hj, rfl, HT⟩ := hrel
      by_cases hlt : j < n
      · have jl : j < l.length := by have := HN.out; omega
        have jm : j < m.length := by have := HN'.out; omega
        obtain ⟨b, off, rfl, hat⟩ := HF.out (fun h0 => by rw [h0] at jl; cases jl)
        obtain ⟨b', off', rfl, hat'⟩ := HF'.out (fun h0 => by rw [h0] at jm; cases jm)
        have c1 := keepC bx (hat j jl)
        have c2 := keepC bx (hat' j jm)
        obtain ⟨x, hx⟩ : ∃ x, x = l[j] := ⟨_, rfl⟩
        obtain ⟨y, hy⟩ : ∃ y, y = m[j] := ⟨_, rfl⟩
        rw [← hx] at c1
        rw [← hy] at c2
        by_cases e : x = y
        · have HE : Hid (l.take (j + 1) = m.take (j + 1)) := by
            show _ = _
            rw [List.take_succ_eq_append_getElem jl, List.take_succ_eq_append_getElem jm, HT.out, ← hx, ← hy, e]
          subst e
          clear HF HF' hat hat' hx hy HT HN HN' jl jm
          go_wp2_with (fail)
          go_region
          go_wp2_with (fail)
          exact ⟨⟨bx.drew, j + 1, by omega, rfl, HE⟩, by simp [intOf]; omega⟩
        · have be : (!x == y) = true := by simpa using e
          have HD : Hid (decide (l = m) = false) := decide_eq_false (take_ne jl jm (by rw [← hx, ← hy]; exact e))
          clear HF HF' hat hat' hx hy HT HN HN' jl jm
          go_wp2_with (fail)
          go_region
          go_wp2_with (fail)
          go_ret
          exact ⟨by rw [HD.out]; rfl, bx.drew⟩
      · have e : j = n := by omega
        have HD : Hid (decide (l = m) = true) := by
          refine decide_eq_true ?_
          have := HT.out
          rw [e, List.take_of_length_le (by have := HN.out; omega), List.take_of_length_le (by have := HN'.out; omega)] at this
          exact this
        have i3 : ¬ (j : Int) < (n : Int) := by omega
        clear e HT HF HF' HN HN' hlt hj
        go_wp2_with (fail)
        go_ret
        exact ⟨by rw [HD.out]; rfl, bx⟩
  · have HD : Hid (decide (l = m) = false) := decide_eq_false (fun e => hlen (by rw [e]))
    have q : ((l.length : Int) != (m.length : Int)) = true := by simp; omega
    clear hf hf' hlen
    go_enter Tryz.func16, Tryz.ntmps16
    go_wp2_with (fail)
    go_ret
    exact ⟨by rw [HD.out]; rfl, Below.refl _ _⟩

/-- Bytes as a text. -/
theorem own_str {w : World} {base : Nat} {v : Value} {l : Vf.Bs} (h : w.ownsRow base 5 1 v l.length (bc l)) : (convert 33 9 v).run Tryz.prog w = .ok (.string ⟨l.toArray⟩) w :=
  Ext.str (base := base) (a := w) (b := w) (u := v) ⟨h, World.grownBy.refl w _, .inl rfl⟩

/-- Bytes that are written out. -/
theorem const_free {base lim : Nat} (u : World) (l : Vf.Bs) (n m : Nat) (h : lim ≤ u.heap.size) (hl : l.length ≤ 1000) (hn : n = l.length) : Free base lim (u.alloc (.cells (bc l).toArray 5 (n, m))) (.slice (some ⟨u.heap.size, 0, none⟩) n n) l := by
  subst hn
  refine ⟨BytesIn.block (B := u.heap.size) (World.alloc_heap_new u _) _ (by omega) (fun j hj => ?_) _ _ rfl, fun a m c e _ => ?_, fun a m c e _ => ?_⟩
  · have := bc_get l j hj
    simpa using this
  · cases e; exact .inr h
  · cases e; exact Nat.le_refl _

theorem rising_two (a b : Vf.Bs) : rising [a, b] = if a ≤ b then [a, b] else [b, a] := by
  unfold rising
  simp [List.mergeSort, List.MergeSort.Internal.splitInTwo, List.merge]
theorem names_two {σ : Vf.St} {a b : Vf.Bs} (ho : σ.on = true) (hh : σ.held.map (·.1) = [a, b]) (h : a ≤ b) : namesOf σ = [a, b] := by
  unfold namesOf; rw [if_pos ho, hh, rising_two, if_pos h]
theorem names_back {σ : Vf.St} {a b : Vf.Bs} (ho : σ.on = true) (hh : σ.held.map (·.1) = [b, a]) (h : ¬ b ≤ a) : namesOf σ = [a, b] := by
  unfold namesOf; rw [if_pos ho, hh, rising_two, if_neg h]
end Go.Proofs.YtlhnjloimhcpfabGreatDoor
