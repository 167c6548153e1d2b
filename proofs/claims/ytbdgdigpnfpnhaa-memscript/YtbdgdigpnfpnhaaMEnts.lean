/-
  Lists of entries: where they can be read, that two hold the same, and the list of all that a table goes over.
-/
import Derived.Test.YtbdgdigpnfpnhaaMRead
import Derived.Test.YtbdgdigpnfpnhaaMIter2
import Derived.Test.YtbdgdigpnfpnhaaMRange2
namespace Go.Proofs.Ytbdgdigpnfpnhaa.Q.P
open Go.RowKit

/-- The cells of an entry. -/
def ec (x : Mm.Ent) : List Value := [str x.key, str x.value, .int .i64 x.seq, .bool x.del]
def ecs (l : List Mm.Ent) : List Value := l.flatMap ec
theorem ecs_length (l : List Mm.Ent) : (ecs l).length = l.length * 4 := by
  induction l with
  | nil => rfl
  | cons s r ih =>
    have : ecs (s :: r) = ec s ++ ecs r := rfl
    rw [this, List.length_append, ih, List.length_cons]
    show 4 + _ = _
    omega
theorem ecs_append (l m : List Mm.Ent) : ecs (l ++ m) = ecs l ++ ecs m := by simp [ecs]
theorem ecs_get (l : List Mm.Ent) (j : Nat) (h : j < l.length) : (ecs l)[j * 4]? = some (str l[j].key) ∧ (ecs l)[j * 4 + 1]? = some (str l[j].value) ∧ (ecs l)[j * 4 + 2]? = some (.int .i64 l[j].seq) ∧ (ecs l)[j * 4 + 3]? = some (.bool l[j].del) := by
  induction l generalizing j with
  | nil => simp at h
  | cons s r ih =>
    have e : ecs (s :: r) = str s.key :: str s.value :: .int .i64 s.seq :: .bool s.del :: ecs r := rfl
    cases j with
    | zero => rw [e]; exact ⟨rfl, rfl, rfl, rfl⟩
    | succ j =>
      have := ih j (by simpa using h)
      have e1 : (j + 1) * 4 = j * 4 + 1 + 1 + 1 + 1 := by omega
      rw [e, e1]
      exact this
theorem ecs_one (l : List Mm.Ent) : ∀ u ∈ ecs l, u.oneCell' = true := by
  intro u hu
  simp only [ecs, List.mem_flatMap, ec] at hu
  obtain ⟨x, _, hx⟩ := hu
  simp only [List.mem_cons, List.not_mem_nil, or_false] at hx
  rcases hx with rfl | rfl | rfl | rfl <;> rfl

/-- Entries, where they can be read. -/
structure EntsAt (w : World) (v : Value) (l : List Mm.Ent) : Prop where
  form : ∃ a cap, v = .slice a l.length cap ∧ (l ≠ [] → ∃ b off, a = some ⟨b, off, none⟩ ∧ ∀ j (h : j < l.length), w.cell? ⟨b, off + j * 4, none⟩ = some (str l[j].key) ∧ w.cell? ⟨b, off + j * 4 + 1, none⟩ = some (str l[j].value) ∧ w.cell? ⟨b, off + j * 4 + 2, none⟩ = some (.int .i64 l[j].seq) ∧ w.cell? ⟨b, off + j * 4 + 3, none⟩ = some (.bool l[j].del))
theorem EntsAt.later {w w' : World} {v : Value} {l : List Mm.Ent} (h : EntsAt w v l) (hb : Below w.heap.size w w') : EntsAt w' v l := by
  obtain ⟨⟨a, cap, e, hf⟩⟩ := h
  refine ⟨⟨a, cap, e, fun h0 => ?_⟩⟩
  obtain ⟨b, off, ha, hat⟩ := hf h0
  exact ⟨b, off, ha, fun j hj => ⟨keepC hb (hat j hj).1, keepC hb (hat j hj).2.1, keepC hb (hat j hj).2.2.1, keepC hb (hat j hj).2.2.2⟩⟩
theorem EntsAt.cells {w : World} {b off n cap : Nat} {l : List Mm.Ent} (h : EntsAt w (.slice (some ⟨b, off, none⟩) n cap) l) (j : Nat) (hj : j < l.length) :
    w.cell? ⟨b, off + j * 4, none⟩ = some (str l[j].key) ∧ w.cell? ⟨b, off + j * 4 + 1, none⟩ = some (str l[j].value) ∧ w.cell? ⟨b, off + j * 4 + 2, none⟩ = some (.int .i64 l[j].seq) ∧ w.cell? ⟨b, off + j * 4 + 3, none⟩ = some (.bool l[j].del) := by
  obtain ⟨⟨a, c, e, hf⟩⟩ := h
  obtain ⟨b', off', ha, hat⟩ := hf (fun h0 => by rw [h0] at hj; cases hj)
  cases e
  cases ha
  exact hat j hj
theorem EntsAt.some {w : World} {a : Option Addr} {n cap : Nat} {l : List Mm.Ent} (h : EntsAt w (.slice a n cap) l) (h0 : 0 < l.length) : ∃ b off, a = some ⟨b, off, none⟩ := by
  obtain ⟨⟨a', c', e, hf⟩⟩ := h
  obtain ⟨b, off, ha, _⟩ := hf (fun h1 => by rw [h1] at h0; cases h0)
  cases e
  exact ⟨b, off, ha⟩
theorem EntsAt.nil (w : World) (a : Option Addr) (c : Nat) : EntsAt w (.slice a 0 c) [] := ⟨⟨a, c, rfl, fun h => absurd rfl h⟩⟩
theorem EntsAt.own {w : World} {base : Nat} {v : Value} {l : List Mm.Ent} (h : w.ownsRow base 38 4 v l.length (ecs l)) : EntsAt w v l := by
  rcases h.2 with ⟨rfl, h0⟩ | ⟨g, cap, cur, rfl, _⟩
  · have : l = [] := List.eq_nil_of_length_eq_zero h0
    subst this
    exact EntsAt.nil _ _ _
  · refine ⟨⟨_, cap, rfl, fun _ => ⟨g, 0, rfl, fun j hj => ?_⟩⟩⟩
    obtain ⟨e0, e1, e2, e3⟩ := ecs_get l j hj
    rw [Nat.zero_add, h.cellAt (j * 4) (by omega), h.cellAt (j * 4 + 1) (by omega), h.cellAt (j * 4 + 2) (by omega), h.cellAt (j * 4 + 3) (by omega)]
    exact ⟨e0, e1, e2, e3⟩

set_option maxHeartbeats 1600000 in
theorem samee_some (w : World) (b off cap b2 off2 cap2 : Nat) (l : List Mm.Ent) (hv : EntsAt w (.slice (some ⟨b, off, none⟩) l.length cap) l) (hv2 : EntsAt w (.slice (some ⟨b2, off2, none⟩) l.length cap2) l) (hlen : l.length ≤ 1000000) :
    Calls Try.prog 20 #[.slice (some ⟨b, off, none⟩) l.length cap, .slice (some ⟨b2, off2, none⟩) l.length cap2] w fun e w' => e = .returned (.bool true) ∧ Below w.heap.size w w' := by
  go_enter Try.func20, Try.ntmps20
  go_wp2
  go_loopw [5] (fun i wr => ∃ j : Nat, j ≤ l.length ∧ i = .int .i64 j ∧ Below w.heap.size w wr) (fun i _ => l.length - (intOf i).toNat)
  case atStart => exact ⟨0, Nat.zero_le _, rfl, Below.refl _ _⟩
  case round =>
    obtain ⟨j, hj, rfl, hbel⟩ := hrel
    by_cases hlt : j < l.length
    · obtain ⟨d0, d1, d2, d3⟩ := (hv.later hbel).cells j hlt
      obtain ⟨e0, e1, e2, e3⟩ := (hv2.later hbel).cells j hlt
      generalize l[j] = c at d0 d1 d2 d3 e0 e1 e2 e3
      obtain ⟨ck, cv, cs, cd⟩ := c
      clear hv hv2
      go_wp2
      go_quiet (fail)
      go_wp2
      go_roundw
      case rel => exact ⟨j + 1, by omega, by go_num, below_drewN hbel _⟩
      case measure => simp [intOf]; omega
    · go_wp2
      go_ret
      exact ⟨rfl, hbel⟩
set_option maxHeartbeats 800000 in
theorem samee_none (w : World) (a a2 : Option Addr) (cap cap2 : Nat) :
    Calls Try.prog 20 #[.slice a 0 cap, .slice a2 0 cap2] w fun e w' => e = .returned (.bool true) ∧ w' = w := by
  go_enter Try.func20, Try.ntmps20
  go_wp2
  refine wp_loop_rounds 1 ?_
  rw [rounds_succ]
  go_wp2
  go_ret
  exact ⟨rfl, rfl⟩
theorem samee_any (w : World) (v v2 : Value) (l : List Mm.Ent) (h : EntsAt w v l) (h2 : EntsAt w v2 l) (hlen : l.length ≤ 1000000) :
    Calls Try.prog 20 #[v, v2] w fun e w' => e = .returned (.bool true) ∧ Below w.heap.size w w' := by
  have h' := h
  have h2' := h2
  obtain ⟨⟨a, cap, rfl, hf⟩⟩ := h'
  obtain ⟨⟨a2, cap2, rfl, hf2⟩⟩ := h2'
  by_cases h0 : l = []
  · subst h0
    refine (samee_none w a a2 cap cap2).mono ?_
    rintro e w' ⟨rfl, rfl⟩
    exact ⟨rfl, Below.refl _ _⟩
  · obtain ⟨b, off, rfl, _⟩ := hf h0
    obtain ⟨b2, off2, rfl, _⟩ := hf2 h0
    exact samee_some w b off cap b2 off2 cap2 l h h2 hlen
end Go.Proofs.Ytbdgdigpnfpnhaa.Q.P
