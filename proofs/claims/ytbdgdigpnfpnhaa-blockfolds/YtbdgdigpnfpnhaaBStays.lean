/-
  Numbers sorted, and whether an entry stays.
-/
import Derived.Test.YtbdgdigpnfpnhaaBFoldP
import Derived.Test.YtbdgdigpnfpnhaaBShelf
namespace Go.Proofs.Ytbdgdigpnfpnhaa
open Go.RowKit

/-- Sorted numbers, where they lie. -/
def IntsSorted (w : World) (g : Nat) (S : List Int) : Prop := ∀ j (h : j < S.length), w.cell? ⟨g, j, none⟩ = some (.int .i64 S[j])
theorem IntsSorted.later {w w' : World} {g : Nat} {S : List Int} (h : IntsSorted w g S) (b : Below w.heap.size w w') : IntsSorted w' g S := fun j hj => keepC b (h j hj)

open Go.Sort in
theorem sort_ints (w : World) (g cap : Nat) (A : List Int) (hc : ∀ j (h : j < A.length), w.cell? ⟨g, j, none⟩ = some (.int .i64 A[j])) (hf : ∀ j, w.frozen? ⟨g, j, none⟩ = false) (hg : g < w.heap.size) (hl : A.length ≤ 1000000) :
    Calls Try.prog 66 #[.slice (some ⟨g, 0, none⟩) A.length cap] w fun e w' => ∃ S : List Int, e = .returned (.tuple #[]) ∧ Hid (S.Perm A ∧ S.Pairwise (· ≤ ·) ∧ S.length = A.length) ∧ IntsSorted w' g S ∧ Moved (fun i => i = g) w w' := by
  have HH : Holds (Value.int .i64) w g 0 A.toArray := fun j hj => by
    have hj' : j < A.length := by simpa using hj
    rw [Nat.zero_add]
    refine ⟨?_, hf j⟩
    rw [hc j hj', getElem!_pos _ j hj]
    simp
  refine (Try.slices_Sort_int g 0 cap A w HH hg (by omega)).mono ?_
  rintro e w' ⟨rfl, n, os, rfl⟩
  have hp : (A.mergeSort fun x y => decide (x ≤ y)).Perm A := List.mergeSort_perm _ _
  have hlen : (A.mergeSort fun x y => decide (x ≤ y)).length = A.length := hp.length_eq
  have hs : (A.mergeSort fun x y => decide (x ≤ y)).Pairwise (· ≤ ·) := by
    have := List.pairwise_mergeSort (le := fun x y : Int => decide (x ≤ y)) (fun a b c h1 h2 => by simp at *; omega) (fun a b => by simp; omega) A
    exact this.imp (fun h => by simpa using h)
  refine ⟨_, rfl, ⟨hp, hs, hlen⟩, fun j hj => ?_, ⟨rfl, rfl, rfl, by simp, fun k hk hne => ?_⟩⟩
  · rw [cell?_grow _ _ _ (by simpa using hg)]
    have := cell?_putRow (Value.int .i64) (Sort.ahead w n) g 0 A.toArray (A.mergeSort fun x y => decide (x ≤ y)).toArray (holds_ahead _ _ _ _ _ _ HH) (by simp) j (by simpa using hj)
    rw [Nat.zero_add] at this
    rw [this, getElem!_pos _ j (by simpa using hj)]
    simp
  · rw [heap_grow_old _ _ (by simpa using hk)]
    show (mapBlock _ _ _).heap[k]? = _
    unfold mapBlock
    rw [heap_ahead]
    show (w.heap.modify g _)[k]? = _
    rw [Array.getElem?_modify]
    rw [if_neg (fun e => hne e.symm)]

theorem search_ints (w : World) (g cap : Nat) (S : List Int) (hc : IntsSorted w g S) (hs : S.Pairwise (· ≤ ·)) (hl : S.length ≤ 1000000) (x : Int) :
    Calls Try.prog 86 #[.slice (some ⟨g, 0, none⟩) S.length cap, .int .i64 x] w fun e w' => ∃ b, e = .returned (.tuple #[.int .i64 (S.countP (· < x) : Nat), .bool b]) ∧ Below w.heap.size w w' := by
  refine (Try.slices_BinarySearch_int g 0 S.length cap S x w (Nat.le_refl _) (by omega) (fun j hj => by rw [Nat.zero_add, hc j hj]; simp [List.getD_eq_getElem?_getD, hj]) (by rw [List.take_length]; exact hs)).mono ?_
  rintro e w' ⟨rfl, q, rfl⟩
  rw [List.take_length]
  exact ⟨_, rfl, below_drewN (Below.refl _ _) _⟩

def predE (l : List Mm.Ent) : Nat → Option Mm.Ent
  | 0 => none
  | k + 1 => l[k]?
set_option maxRecDepth 100000 in
set_option maxHeartbeats 8000000 in
theorem stays_any (w : World) (a : Option Addr) (c n : Nat) (l : List Mm.Ent) (h : EntsAt w (.slice a n c) l) (hn : n = l.length) (hl : n ≤ 1000000) (i : Nat) (hi : i < l.length) (g cap : Nat) (S A : List Int) (hc : IntsSorted w g S) (hp : S.Perm A) (hs : S.Pairwise (· ≤ ·)) (hSl : S.length ≤ 1000000) :
    Calls Try.prog 67 #[.slice a n c, .int .i64 (i : Int), .slice (some ⟨g, 0, none⟩) S.length cap] w fun e w' => e = .returned (.bool (Bk.staysB A (predE l i) l[i])) ∧ Below w.heap.size w w' := by
  have BS := hide (search_ints w g cap S hc hs hSl l[i].seq)
  obtain ⟨b, off, rfl⟩ := h.some (by omega)
  obtain ⟨c0, c1, c2, c3⟩ := h.cells i hi
  have i1 : (i : Int) < (n : Int) := by omega
  have i2 : (0 : Int) ≤ (i : Int) := by omega
  have hkl : S.countP (· < l[i].seq) ≤ S.length := List.countP_le_length
  have H := hide h
  have HC := hide hc
  by_cases hk : S.countP (· < l[i].seq) = S.length
  · have HF : Hid (Bk.staysB A (predE l i) l[i] = false) := Bk.stays_none hp hs _ _ hk
    rw [HF.out]
    rw [hk] at BS
    generalize l[i] = x at *
    clear h hc hp hs hk hkl H HC hn hl
    generalize S.length = sl at *
    go_enter Try.func67, Try.ntmps67
    go_wp2_with (first
      | (go_at_call 86; refine BS.out.mono ?_; rintro e w1 ⟨bb, rfl, b1⟩))
    go_ret
    exact ⟨rfl, b1⟩
  · have hlt : S.countP (· < l[i].seq) < S.length := by omega
    have HS := Bk.stays_some hp hs (predE l i) l[i] hlt
    have g0 := hc _ hlt
    generalize hSk : S[S.countP (· < l[i].seq)] = sk at *
    generalize hkk : S.countP (· < l[i].seq) = k at *
    have kn : ((k : Int) == (S.length : Int)) = false := by simp; omega
    have k1 : (k : Int) < (S.length : Int) := by omega
    have k2 : (0 : Int) ≤ (k : Int) := by omega
    clear hkk hSk hc hp hs hk hkl
    generalize S.length = sl at *
    cases i with
    | zero =>
      have HF : Hid (Bk.staysB A (predE l 0) l[0] = true) := HS
      rw [HF.out]
      clear HS h H
      generalize l[0] = x at *
      clear HF hn
      go_enter Try.func67, Try.ntmps67
      go_wp2_with (first
        | (go_at_call 86; refine BS.out.mono ?_; rintro e w1 ⟨bb, rfl, b1⟩; clear BS))
      go_quiet (fail)
      go_wp2_with (fail)
      go_quiet (fail)
      go_wp2_with (fail)
      go_ret
      exact ⟨rfl, below_drewN (below_drewN b1 _) _⟩
    | succ m =>
      have hm : m < l.length := by omega
      obtain ⟨p0, p1, p2, p3⟩ := h.cells m hm
      have hpe : predE l (m + 1) = some l[m] := List.getElem?_eq_getElem hm
      rw [hpe] at HS ⊢
      have m1 : (m : Int) < (n : Int) := by omega
      have m2 : (0 : Int) ≤ (m : Int) := by omega
      have m4 : (m : Int) + 1 < (n : Int) := by omega
      have m5 : (0 : Int) ≤ (m : Int) + 1 := by omega
      have m3 : ((m : Int) + 1 == 0) = false := by simp; omega
      have wm : IntKind.i64.wrap (m : Int) = (m : Int) := by rw [IntKind.wrap_i64]; omega
      have KC : Hid (∀ wx, Below w.heap.size w wx → (wx.cell? ⟨b, off + m * 4, none⟩ = some (str l[m].key) ∧ wx.cell? ⟨b, off + m * 4 + 2, none⟩ = some (.int .i64 l[m].seq)) ∧ wx.cell? ⟨b, off + (m + 1) * 4, none⟩ = some (str l[m + 1].key) ∧ wx.cell? ⟨g, k, none⟩ = some (.int .i64 sk)) := fun wx hw => ⟨⟨keepC hw p0, keepC hw p2⟩, keepC hw c0, keepC hw g0⟩
      generalize l[m] = y at *
      generalize l[m + 1] = x at *
      rw [show ((m + 1 : Nat) : Int) = (m : Int) + 1 by omega]
      clear h H HC hn i1 i2 hpe
      by_cases hky : y.key = x.key
      · have hb : (!y.key == x.key) = false := by simp [hky]
        have HF : Hid (Bk.staysB A (some y) x = decide (sk < y.seq)) := by show _ = _; rw [HS]; simp [hky]
        rw [HF.out]
        clear HS HF
        go_enter Try.func67, Try.ntmps67
        go_wp2_with (first
          | (go_at_call 86; refine BS.out.mono ?_; rintro e w1 ⟨bb, rfl, b1⟩; obtain ⟨⟨q0, q2⟩, q3, q4⟩ := KC.out _ b1; clear BS))
        go_quiet (fail)
        go_wp2_with (fail)
        go_quiet (fail)
        go_wp2_with (fail)
        go_ret
        exact ⟨rfl, below_drewN (below_drewN b1 _) _⟩
      · have hb : (!y.key == x.key) = true := by simp [hky]
        have HF : Hid (Bk.staysB A (some y) x = true) := by show _ = _; rw [HS]; simp [hky]
        rw [HF.out]
        clear HS HF
        go_enter Try.func67, Try.ntmps67
        go_wp2_with (first
          | (go_at_call 86; refine BS.out.mono ?_; rintro e w1 ⟨bb, rfl, b1⟩; obtain ⟨⟨q0, q2⟩, q3, q4⟩ := KC.out _ b1; clear BS))
        go_quiet (fail)
        go_wp2_with (fail)
        go_quiet (fail)
        go_wp2_with (fail)
        go_ret
        exact ⟨rfl, below_drewN (below_drewN b1 _) _⟩
end Go.Proofs.Ytbdgdigpnfpnhaa
