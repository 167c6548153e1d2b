/-
  Two lists of writes, two lists of batches, that hold the same: the calls of the kit say so.
-/
import Derived.Test.YtppfkhpofbbnbaaGreatDoorKBat
namespace Go.Proofs.YtppfkhpofbbnbaaGreatDoor
open Go.RowKit

set_option maxHeartbeats 1600000 in
theorem samew_some (w : World) (b off cap b2 off2 cap2 : Nat) (l : List Wl.Wr) (hv : WrsAt w (.slice (some ⟨b, off, none⟩) l.length cap) l) (hv2 : WrsAt w (.slice (some ⟨b2, off2, none⟩) l.length cap2) l) (hlen : l.length ≤ 140737488355328) :
    Calls Tryz.prog 54 #[.slice (some ⟨b, off, none⟩) l.length cap, .slice (some ⟨b2, off2, none⟩) l.length cap2] w fun e w' => e = .returned (.bool true) ∧ Below w.heap.size w w' := by
  go_enter Tryz.func54, Tryz.ntmps54
  go_wp2
  go_loopw [5] (fun i wr => ∃ j : Nat, j ≤ l.length ∧ i = .int .i64 j ∧ Below w.heap.size w wr) (fun i _ => l.length - (intOf i).toNat)
  case atStart => exact ⟨0, Nat.zero_le _, rfl, Below.refl _ _⟩
  case round =>
    obtain ⟨j, hj, rfl, hbel⟩ := hrel
    by_cases hlt : j < l.length
    · obtain ⟨d0, d1, d2⟩ := (hv.later hbel).cells j hlt
      obtain ⟨e0, e1, e2⟩ := (hv2.later hbel).cells j hlt
      generalize l[j] = c at d0 d1 d2 e0 e1 e2
      obtain ⟨ck, cv, cd⟩ := c
      clear hv hv2
      go_wp2
      go_quiet (fail)
      go_wp2
      go_roundw
      case rel => exact ⟨j + 1, by omega, by go_num, below_drewN hbel _⟩
      case measure => simp [intOf]; omega
    · go_wp2
      go_ret
      exact ⟨rfl, hbel⟩

set_option maxHeartbeats 800000 in
theorem samew_none (w : World) (a a2 : Option Addr) (cap cap2 : Nat) :
    Calls Tryz.prog 54 #[.slice a 0 cap, .slice a2 0 cap2] w fun e w' => e = .returned (.bool true) ∧ w' = w := by
  go_enter Tryz.func54, Tryz.ntmps54
  go_wp2
  refine wp_loop_rounds 1 ?_
  rw [rounds_succ]
  go_wp2
  go_ret
  exact ⟨rfl, rfl⟩

theorem samew_any (w : World) (v v2 : Value) (l : List Wl.Wr) (h : WrsAt w v l) (h2 : WrsAt w v2 l) (hlen : l.length ≤ 140737488355328) :
    Calls Tryz.prog 54 #[v, v2] w fun e w' => e = .returned (.bool true) ∧ Below w.heap.size w w' := by
  have h' := h
  have h2' := h2
  obtain ⟨⟨a, cap, rfl, hf⟩⟩ := h'
  obtain ⟨⟨a2, cap2, rfl, hf2⟩⟩ := h2'
  by_cases h0 : l = []
  · subst h0
    refine (samew_none w a a2 cap cap2).mono ?_
    rintro e w' ⟨rfl, rfl⟩
    exact ⟨rfl, Below.refl _ _⟩
  · obtain ⟨b, off, rfl, _⟩ := hf h0
    obtain ⟨b2, off2, rfl, _⟩ := hf2 h0
    exact samew_some w b off cap b2 off2 cap2 l h h2 hlen

/-- Batches, where they can be read. -/
structure BatsAt (w : World) (v : Value) (l : List Wl.Bat) : Prop where
  form : ∃ a cap, v = .slice a l.length cap ∧ (l ≠ [] → ∃ b off, a = some ⟨b, off, none⟩ ∧ ∀ j (h : j < l.length), ∃ x m c, w.cell? ⟨b, off + j * 2, none⟩ = some (.int .i64 (l[j].seq : Int)) ∧ w.cell? ⟨b, off + j * 2 + 1, none⟩ = some (.slice x m c) ∧ WrsAt w (.slice x m c) l[j].writes)

set_option maxHeartbeats 1600000 in
theorem sameb_some (w : World) (b off cap b2 off2 cap2 : Nat) (l : List Wl.Bat)
    (hv : ∀ j (h : j < l.length), ∃ x m c, w.cell? ⟨b, off + j * 2, none⟩ = some (.int .i64 (l[j].seq : Int)) ∧ w.cell? ⟨b, off + j * 2 + 1, none⟩ = some (.slice x m c) ∧ WrsAt w (.slice x m c) l[j].writes)
    (hv2 : ∀ j (h : j < l.length), ∃ x m c, w.cell? ⟨b2, off2 + j * 2, none⟩ = some (.int .i64 (l[j].seq : Int)) ∧ w.cell? ⟨b2, off2 + j * 2 + 1, none⟩ = some (.slice x m c) ∧ WrsAt w (.slice x m c) l[j].writes)
    (hlen : l.length ≤ 140737488355328) (hws : ∀ x ∈ l, x.writes.length ≤ 140737488355328) :
    Calls Tryz.prog 19 #[.slice (some ⟨b, off, none⟩) l.length cap, .slice (some ⟨b2, off2, none⟩) l.length cap2] w fun e w' => e = .returned (.bool true) ∧ Below w.heap.size w w' := by
  go_enter Tryz.func19, Tryz.ntmps19
  go_wp2
  go_loopw [5] (fun i wr => ∃ j : Nat, j ≤ l.length ∧ i = .int .i64 j ∧ Below w.heap.size w wr) (fun i _ => l.length - (intOf i).toNat)
  case atStart => exact ⟨0, Nat.zero_le _, rfl, Below.refl _ _⟩
  case round =>
    obtain ⟨j, hj, rfl, hbel⟩ := hrel
    by_cases hlt : j < l.length
    · obtain ⟨x, m, c, d0, d1, W1⟩ := hv j hlt
      obtain ⟨x2, m2, c2, e0, e1, W2⟩ := hv2 j hlt
      have hw := hws _ (List.getElem_mem hlt)
      have SW : Hid (∀ wx, Below w.heap.size w wx → Calls Tryz.prog 54 #[.slice x m c, .slice x2 m2 c2] wx fun e w' => e = .returned (.bool true) ∧ Below wx.heap.size wx w') := fun wx hb => samew_any wx _ _ _ (W1.later hb) (W2.later hb) hw
      have KC : Hid (∀ wx, Below w.heap.size w wx → wx.cell? ⟨b, off + j * 2, none⟩ = some (.int .i64 (l[j].seq : Int)) ∧ wx.cell? ⟨b, off + j * 2 + 1, none⟩ = some (.slice x m c) ∧ wx.cell? ⟨b2, off2 + j * 2, none⟩ = some (.int .i64 (l[j].seq : Int)) ∧ wx.cell? ⟨b2, off2 + j * 2 + 1, none⟩ = some (.slice x2 m2 c2)) := fun wx hb => ⟨keepC hb d0, keepC hb d1, keepC hb e0, keepC hb e1⟩
      clear hv hv2 d0 d1 e0 e1 W1 W2 hws hw
      generalize l[j].seq = q at KC
      have P1 := KC.out _ hbel.drew
      go_wp2
      go_region_held3 (fun w' => w'.cell? ⟨b, off + j * 2, none⟩ = some (.int .i64 (q : Int)) ∧ w'.cell? ⟨b, off + j * 2 + 1, none⟩ = some (.slice x m c) ∧ w'.cell? ⟨b2, off2 + j * 2, none⟩ = some (.int .i64 (q : Int)) ∧ w'.cell? ⟨b2, off2 + j * 2 + 1, none⟩ = some (.slice x2 m2 c2))
        (first | exact P1 | exact P2)
        (first | (go_at_call 54; refine (SW.out _ hbel.drew).mono ?_; rintro e w1 ⟨rfl, b1⟩; have B1 := hbel.drew.trans (b1.mono hbel.drew.size); have P2 := KC.out _ B1))
      go_wp2
      go_roundw
      case rel => exact ⟨j + 1, by omega, by go_num, B1⟩
      case measure => simp [intOf]; omega
    · go_wp2
      go_ret
      exact ⟨rfl, hbel⟩

set_option maxHeartbeats 800000 in
theorem sameb_none (w : World) (a a2 : Option Addr) (cap cap2 : Nat) :
    Calls Tryz.prog 19 #[.slice a 0 cap, .slice a2 0 cap2] w fun e w' => e = .returned (.bool true) ∧ w' = w := by
  go_enter Tryz.func19, Tryz.ntmps19
  go_wp2
  refine wp_loop_rounds 1 ?_
  rw [rounds_succ]
  go_wp2
  go_ret
  exact ⟨rfl, rfl⟩

theorem sameb_any (w : World) (v v2 : Value) (l : List Wl.Bat) (h : BatsAt w v l) (h2 : BatsAt w v2 l) (hlen : l.length ≤ 140737488355328) (hws : ∀ x ∈ l, x.writes.length ≤ 140737488355328) :
    Calls Tryz.prog 19 #[v, v2] w fun e w' => e = .returned (.bool true) ∧ Below w.heap.size w w' := by
  obtain ⟨⟨a, cap, rfl, hf⟩⟩ := h
  obtain ⟨⟨a2, cap2, rfl, hf2⟩⟩ := h2
  by_cases h0 : l = []
  · subst h0
    refine (sameb_none w a a2 cap cap2).mono ?_
    rintro e w' ⟨rfl, rfl⟩
    exact ⟨rfl, Below.refl _ _⟩
  · obtain ⟨b, off, rfl, hv⟩ := hf h0
    obtain ⟨b2, off2, rfl, hv2⟩ := hf2 h0
    exact sameb_some w b off cap b2 off2 cap2 l hv hv2 hlen hws

theorem BatsAt.of {base : Nat} {w : World} {v : Value} {l : List Wl.Bat} {vs : List Value} (h : Bats base w v l vs) : BatsAt w v l := by
  obtain ⟨a, c, rfl, _, ha⟩ := h.shape
  refine ⟨⟨a, c, rfl, fun h0 => ?_⟩⟩
  have hp : 0 < l.length := List.length_pos_iff.2 h0
  obtain ⟨g, rfl⟩ : ∃ g, a = some ⟨g, 0, none⟩ := by
    rcases h.row.2 with ⟨e, h0'⟩ | ⟨g, cap, cur, e, _⟩
    · omega
    · cases e; exact ⟨g, rfl⟩
  refine ⟨g, 0, rfl, fun j hj => ?_⟩
  have hj' : j < vs.length := by rw [h.len]; exact hj
  obtain ⟨c0, c1⟩ := h.cells j hj hj'
  obtain ⟨x, m, k, e⟩ := h.slices _ (List.getElem_mem hj')
  refine ⟨x, m, k, by rw [Nat.zero_add]; exact c0, by rw [Nat.zero_add, c1, e], ?_⟩
  rw [← e]
  exact WrsAt.own (h.own j hj' hj)
end Go.Proofs.YtppfkhpofbbnbaaGreatDoor
