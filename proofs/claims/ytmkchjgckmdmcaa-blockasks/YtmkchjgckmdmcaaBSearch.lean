/-
  sort.Search as Visible asks it: the first place from which the answer is yes.
-/
import Derived.Test.YtmkchjgckmdmcaaBOwn
import Derived.Laws.Bits64
import Derived.Laws.BitsAllLaws
namespace Go.Proofs.Ytmkchjgckmdmcaa
open Go.RowKit

set_option maxRecDepth 100000 in
set_option maxHeartbeats 4000000 in
theorem search_vis (w : World) (n : Nat) (hn : n ≤ 1000000) (c1 c2 : Value) (p : Nat → Bool) (hp : ∀ i j, i ≤ j → p i = true → p j = true)
    (F : Hid (∀ wx, Below w.heap.size w wx → ∀ i : Nat, i < n → Calls Try.prog 62 #[.int .i64 (i : Int), c1, c2] wx fun e w' => e = .returned (.bool (p i)) ∧ Below wx.heap.size wx w')) :
    Calls Try.prog 38 #[.int .i64 (n : Int), .func (.func 62) #[] #[c1, c2]] w fun e w' => ∃ r : Nat, e = .returned (.int .i64 (r : Int)) ∧ r ≤ n ∧ (∀ k, k < r → p k = false) ∧ (∀ k, r ≤ k → k < n → p k = true) ∧ Below w.heap.size w w' := by
  have HP : Hid (∀ i j, i ≤ j → p i = true → p j = true) := hp
  clear hp
  go_enter Try.func38, Try.ntmps38
  go_wp2_with (fail)
  go_loopw [5, 6] (fun i j wr => ∃ lo hi : Nat, i = .int .i64 (lo : Int) ∧ j = .int .i64 (hi : Int) ∧ lo ≤ hi ∧ hi ≤ n ∧ Hid (∀ k, k < lo → p k = false) ∧ Hid (∀ k, hi ≤ k → k < n → p k = true) ∧ Below w.heap.size w wr) (fun i j _ => (intOf j).toNat - (intOf i).toNat)
  case atStart => exact ⟨0, n, rfl, rfl, Nat.zero_le _, Nat.le_refl _, fun k h => absurd h (by omega), fun k h1 h2 => absurd h1 (by omega), Below.refl _ _⟩
  case round =>
    obtain ⟨lo, hi, rfl, rfl, hlh, hhn, HL, HH, bx⟩ := hrel
    by_cases hlt : lo < hi
    · have FM := hide (F.out wr bx ((lo + hi) / 2) (by omega))
      have m1 : lo ≤ (lo + hi) / 2 := by omega
      have m2 : (lo + hi) / 2 < hi := by omega
      have FL : Hid (p ((lo + hi) / 2) = false → ∀ k, k < (lo + hi) / 2 + 1 → p k = false) := fun h0 k hk => by
        cases hc : p k with
        | false => rfl
        | true => have := HP.out k ((lo + hi) / 2) (by omega) hc; rw [h0] at this; cases this
      have FH : Hid (p ((lo + hi) / 2) = true → ∀ k, (lo + hi) / 2 ≤ k → k < n → p k = true) := fun h0 k hk _ => HP.out _ k hk h0
      obtain ⟨b, hb⟩ : ∃ b, b = p ((lo + hi) / 2) := ⟨_, rfl⟩
      rw [← hb] at FM FL FH
      clear hb
      have HI : Hid ((((lo + hi) / 2 : Nat) : Int) = ((lo : Int) + (hi : Int)) / 2) := by show _ = _; omega
      rw [HI.out] at FM
      have q1 : (0 : Int) ≤ ((lo : Int) + (hi : Int)) / 2 := by omega
      have q2 : ((lo : Int) + (hi : Int)) / 2 < 1000000 := by omega
      cases b with
      | true =>
        have FQ := hide (FH.out rfl)
        clear FL FH
        go_wp2_with (first
          | (go_at_call 62; refine FM.out.mono ?_; rintro e w1 ⟨rfl, b1⟩))
        exact ⟨⟨lo, (lo + hi) / 2, rfl, by rw [HI.out], m1, by omega, HL, FQ, bx.trans (b1.mono bx.size)⟩, by simp [intOf]; omega⟩
      | false =>
        have FQ := hide (FL.out rfl)
        clear FL FH
        go_wp2_with (first
          | (go_at_call 62; refine FM.out.mono ?_; rintro e w1 ⟨rfl, b1⟩))
        exact ⟨⟨(lo + hi) / 2 + 1, hi, by rw [Int.natCast_add, HI.out]; rfl, rfl, by omega, hhn, FQ, HH, bx.trans (b1.mono bx.size)⟩, by simp [intOf]; omega⟩
    · have e : lo = hi := by omega
      subst e
      have i3 : ¬ (lo : Int) < (lo : Int) := by omega
      go_wp2_with (fail)
      go_ret
      exact ⟨lo, rfl, hhn, HL.out, HH.out, bx⟩

set_option maxRecDepth 100000 in
set_option maxHeartbeats 4000000 in
theorem vis_asks (w : World) (a : Option Addr) (c n : Nat) (l : List Mm.Ent) (h : EntsAt w (.slice a n c) l) (hn : n = l.length) (A B : Nat) (f _t : List UInt8) (hA : w.cell? ⟨A, 0, none⟩ = some (.slice a n c)) (hB : w.cell? ⟨B, 0, none⟩ = some (str f)) (i : Nat) (hi : i < l.length) (hi6 : l.length ≤ 1000000) :
    Calls Try.prog 62 #[.int .i64 (i : Int), .pointer (some ⟨A, 0, none⟩), .pointer (some ⟨B, 0, none⟩)] w fun e w' => e = .returned (.bool (!Op.bytesLess l[i].key f)) ∧ Below w.heap.size w w' := by
  obtain ⟨b, off, rfl⟩ := h.some (by omega)
  obtain ⟨c0, c1, c2, c3⟩ := h.cells i hi
  have i1 : (i : Int) < (n : Int) := by omega
  have i2 : (0 : Int) ≤ (i : Int) := by omega
  generalize l[i] = x at *
  clear h hn
  go_enter Try.func62, Try.ntmps62
  go_wp2_with (fail)
  go_quiet (fail)
  go_wp2_with (fail)
  go_ret
  exact ⟨rfl, below_drewN (Below.refl _ _) _⟩
end Go.Proofs.Ytmkchjgckmdmcaa
