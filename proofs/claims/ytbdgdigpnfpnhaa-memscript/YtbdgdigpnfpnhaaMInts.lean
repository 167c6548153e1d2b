/-
  Two lists of numbers that hold the same: the call of the kit says so; a list of numbers that came in; and which places of a lane are places of the one below it.
-/
import Derived.Test.YtbdgdigpnfpnhaaMLaneP
import Derived.Test.YtbdgdigpnfpnhaaMFrame
namespace Go.Proofs.Ytbdgdigpnfpnhaa.Q.P
open Go.ChangeShapes Go.WideShapes Go.ChangeAt Go.RowKit

theorem IntsAt.own {w : World} {base : Nat} {v : Value} {l : List Int} (h : w.ownsRow base 3 1 v l.length (ics l)) : IntsAt w v l := by
  rcases h.2 with ⟨rfl, h0⟩ | ⟨g, cap, cur, rfl, _⟩
  · have : l = [] := List.eq_nil_of_length_eq_zero h0
    subst this
    exact IntsAt.nil _
  · refine ⟨_, cap, rfl, (fun e => by cases e), (fun _ => ⟨g, 0, rfl, fun j hj => ?_⟩)⟩
    rw [Nat.zero_add, h.cellAt j (by omega)]
    simp [ics, hj]

set_option maxHeartbeats 1600000 in
theorem samei_some (w : World) (b off cap b2 off2 cap2 : Nat) (l : List Int) (hv : ∀ j (h : j < l.length), w.cell? ⟨b, off + j, none⟩ = some (.int .i64 l[j])) (hv2 : ∀ j (h : j < l.length), w.cell? ⟨b2, off2 + j, none⟩ = some (.int .i64 l[j])) (hlen : l.length ≤ 1000000) :
    Calls Try.prog 36 #[.slice (some ⟨b, off, none⟩) l.length cap, .slice (some ⟨b2, off2, none⟩) l.length cap2] w fun e w' => e = .returned (.bool true) ∧ Below w.heap.size w w' := by
  go_enter Try.func36, Try.ntmps36
  go_wp2
  go_loopw [5] (fun i wr => ∃ j : Nat, j ≤ l.length ∧ i = .int .i64 j ∧ Below w.heap.size w wr) (fun i _ => l.length - (intOf i).toNat)
  case atStart => exact ⟨0, Nat.zero_le _, rfl, Below.refl _ _⟩
  case round =>
    obtain ⟨j, hj, rfl, hbel⟩ := hrel
    by_cases hlt : j < l.length
    · have d0 := keepC (Below.mono hbel (Nat.le_refl _)) (hv j hlt)
      have e0 := keepC (Below.mono hbel (Nat.le_refl _)) (hv2 j hlt)
      generalize l[j] = c at d0 e0
      clear hv hv2
      go_wp2
      go_quiet (fail)
      go_wp2
      go_roundw
      case rel => exact ⟨j + 1, by omega, by go_num, below_drewN hbel _⟩
      case measure => simp [intOf]; omega
    · go_wp2
      go_ret
      exact ⟨rfl, hbel⟩
set_option maxHeartbeats 800000 in
theorem samei_none (w : World) (a a2 : Option Addr) (cap cap2 : Nat) :
    Calls Try.prog 36 #[.slice a 0 cap, .slice a2 0 cap2] w fun e w' => e = .returned (.bool true) ∧ w' = w := by
  go_enter Try.func36, Try.ntmps36
  go_wp2
  refine wp_loop_rounds 1 ?_
  rw [rounds_succ]
  go_wp2
  go_ret
  exact ⟨rfl, rfl⟩
theorem samei_any (w : World) (v v2 : Value) (l : List Int) (h : IntsAt w v l) (h2 : IntsAt w v2 l) (hlen : l.length ≤ 1000000) :
    Calls Try.prog 36 #[v, v2] w fun e w' => e = .returned (.bool true) ∧ Below w.heap.size w w' := by
  obtain ⟨a, cap, rfl, _, hf⟩ := h
  obtain ⟨a2, cap2, rfl, _, hf2⟩ := h2
  by_cases h0 : l = []
  · subst h0
    refine (samei_none w a a2 cap cap2).mono ?_
    rintro e w' ⟨rfl, rfl⟩
    exact ⟨rfl, Below.refl _ _⟩
  · obtain ⟨b, off, rfl, hv⟩ := hf h0
    obtain ⟨b2, off2, rfl, hv2⟩ := hf2 h0
    exact samei_some w b off cap b2 off2 cap2 l hv hv2 hlen

end Go.Proofs.Ytbdgdigpnfpnhaa.Q.P
namespace Go.Proofs.Ytbdgdigpnfpnhaa.Q.Mm
/-- A lane's places rise, from s on. -/
theorem places_up (h : Nat) (l : List It) : ∀ s, (places h s l).Pairwise (· < ·) ∧ ∀ x ∈ places h s l, s ≤ x := by
  induction l with
  | nil => intro s; exact ⟨List.Pairwise.nil, by simp [places]⟩
  | cons y r ih =>
    intro s
    obtain ⟨h1, h2⟩ := ih (s + 1)
    rw [places]
    split
    · exact ⟨List.pairwise_cons.2 ⟨fun x hx => by have := h2 x hx; omega, h1⟩, fun x hx => by
        rcases List.mem_cons.1 hx with rfl | hx
        · exact Nat.le_refl _
        · have := h2 x hx; omega⟩
    · exact ⟨h1, fun x hx => by have := h2 x hx; omega⟩
/-- Each lane is part of the one below it. -/
theorem places_sub (h : Nat) (l : List It) : ∀ s, ∀ x ∈ places (h + 1) s l, x ∈ places h s l := by
  induction l with
  | nil => intro s x hx; exact hx
  | cons y r ih =>
    intro s x hx
    rw [places] at hx ⊢
    by_cases hy : h + 1 ≤ y.2
    · rw [if_pos hy] at hx
      rw [if_pos (by omega)]
      rcases List.mem_cons.1 hx with rfl | hx
      · simp
      · exact List.mem_cons_of_mem _ (ih _ x hx)
    · rw [if_neg hy] at hx
      have := ih _ x hx
      split
      · exact List.mem_cons_of_mem _ this
      · exact this
theorem places_one (l : List It) (hl : ∀ x ∈ l, 1 ≤ x.2) : ∀ s, (places 1 s l).length = l.length := by
  induction l with
  | nil => intro s; rfl
  | cons y r ih =>
    intro s
    rw [places, if_pos (hl y (by simp)), List.length_cons, List.length_cons, ih (fun x hx => hl x (by simp [hx]))]
end Go.Proofs.Ytbdgdigpnfpnhaa.Q.Mm
namespace Go.Proofs.Ytbdgdigpnfpnhaa.Q.P
open Go.RowKit
end Go.Proofs.Ytbdgdigpnfpnhaa.Q.P
