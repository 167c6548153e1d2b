/-
  Kinds: a list of them, whether one is no kind, which kind is asked for, and what Gives answers of any list. .. and what follows from it.
-/
import Derived.Test.YtedamaccflhmfaaGreatDoorXUb
import Derived.Test.YtedamaccflhmfaaGreatDoorXUa
namespace Go.Proofs.YtedamaccflhmfaaGreatDoor
open Go.RowKit
attribute [local go_sem ↓] Go.wp_at_zero Go.wp_at_succ

/-- Where the kinds of a slice lie. -/
def KindsAt (w : World) (b off : Nat) (l : List Int) : Prop := ∀ j (h : j < l.length), w.cell? ⟨b, off + j, none⟩ = some (.int .u8 l[j])
structure KindsIn (w : World) (v : Value) (l : List Int) : Prop where
  form : ∃ a cap, v = .slice a l.length cap ∧ (l ≠ [] → ∃ b off, a = some ⟨b, off, none⟩ ∧ KindsAt w b off l)
  len : l.length ≤ 1099511627776000
theorem KindsAt.later {w w' : World} {b off : Nat} {l : List Int} (h : KindsAt w b off l) (hb : Below w.heap.size w w') : KindsAt w' b off l := fun j hj =>
  (hb.cell (World.block_lt_of_cell? w _ (h j hj))).trans (h j hj)
theorem KindsIn.later {w w' : World} {v : Value} {l : List Int} (h : KindsIn w v l) (hb : Below w.heap.size w w') : KindsIn w' v l := by
  obtain ⟨⟨a, cap, hv, hf⟩, hlen⟩ := h
  exact ⟨⟨a, cap, hv, fun h0 => by obtain ⟨b, off, ha, hat⟩ := hf h0; exact ⟨b, off, ha, hat.later hb⟩⟩, hlen⟩

theorem still {f : FuncId} {args : Array Value} {w : World} {v : Ending} (c : Calls Tryz.prog f args w fun e w' => e = v ∧ w' = w) {K : Ending → World → Prop} (h : K v w) : Calls Tryz.prog f args w K := c.mono (by rintro e w' ⟨rfl, rfl⟩; exact h)

theorem any_take {α : Type} (p : α → Bool) (l : List α) (j : Nat) (h : j < l.length) (h0 : (l.take j).any p = false) : (l.take (j + 1)).any p = p l[j] := by
  rw [List.take_succ_eq_append_getElem h, List.any_append, h0]; simp
theorem any_there {α : Type} (p : α → Bool) (l : List α) (j : Nat) (h : j < l.length) (h1 : p l[j] = true) : l.any p = true := List.any_eq_true.mpr ⟨l[j], List.getElem_mem h, h1⟩

theorem firstK_take (l : List Int) (j : Nat) (h : j < l.length) (h0 : firstK l = firstK (l.drop j)) : (l[j] = 0 → firstK l = firstK (l.drop (j + 1))) ∧ (¬ l[j] = 0 → firstK l = l[j]) := by
  rw [List.drop_eq_getElem_cons h, firstK] at h0
  exact ⟨fun e => by rw [h0, if_pos e], fun e => by rw [h0, if_neg e]⟩

/-- The operations by what they ask for. -/
theorem op_ways (op : Int) : (op = 3 ∨ op = 4 ∨ op = 5 ∨ op = 6 ∨ op = 7 ∨ op = 18) ∨ op = 8 ∨ (op = 15 ∨ op = 16 ∨ op = 17) ∨ ((op == 3) = false ∧ (op == 4) = false ∧ (op == 5) = false ∧ (op == 6) = false ∧ (op == 7) = false ∧ (op == 18) = false ∧ (op == 8) = false ∧ (op == 15) = false ∧ (op == 16) = false ∧ (op == 17) = false) := by
  simp only [beq_eq_false_iff_ne]; omega

theorem oddK_ways (x k : Int) : (k = 0 ∧ oddK x k = false) ∨ ((k != 0) = true ∧ (k != x) = false ∧ oddK x k = false) ∨ ((k != 0) = true ∧ (k != x) = true ∧ oddK x k = true) := by
  by_cases h : k = 0
  · exact .inl ⟨h, by simp [oddK, h]⟩
  · by_cases h2 : k = x
    · exact .inr (.inl ⟨by simpa using h, by simpa using h2, by simp [oddK, h2]⟩)
    · exact .inr (.inr ⟨by simpa using h, by simpa using h2, by simp [oddK, h, h2]⟩)

end Go.Proofs.YtedamaccflhmfaaGreatDoor
namespace Go.Proofs.YtedamaccflhmfaaGreatDoor
open Go.RowKit
attribute [local go_sem ↓] Go.wp_at_zero Go.wp_at_succ

def isN (v : Val) : Bool := v.k == 0

/-- Kinds as cells. -/
def kc (l : List Int) : List Value := l.map fun k => Value.int .u8 k
theorem kc_length (l : List Int) : (kc l).length = l.length := by simp [kc]
theorem kc_one (l : List Int) : ∀ u ∈ kc l, u.oneCell' = true := by
  intro u hu
  simp only [kc, List.mem_map] at hu
  obtain ⟨c, _, rfl⟩ := hu
  rfl
theorem kindInfo : (Tryz.prog.info? 29).map (fun i => (i.zero, i.size, i.bytes)) = some (some (.int .u8 0), 1, 1) := by kernel_rfl

theorem kinds_of_own {w : World} {base : Nat} {v : Value} {l : List Int} (h : w.ownsRow base 29 1 v l.length (kc l)) (hl : l.length ≤ 1099511627776000) : KindsIn w v l := by
  rcases h.2 with ⟨rfl, h0⟩ | ⟨g, cap, cur, hv, _⟩
  · have : l = [] := List.eq_nil_of_length_eq_zero h0
    subst this
    exact ⟨⟨none, 0, rfl, fun h => absurd rfl h⟩, by simp⟩
  · subst hv
    refine ⟨⟨_, cap, rfl, fun _ => ⟨g, 0, rfl, fun j hj => ?_⟩⟩, hl⟩
    have := h.cellAt j (by omega)
    rw [Nat.zero_add, this]
    simp [kc, hj]

/-- A list of kinds that the call owns and lengthens. -/
structure KindsOwn (base : Nat) (w0 w : World) (v : Value) (l : List Int) : Prop where
  own : w.ownsRow base 29 1 v l.length (kc l)
  bel : Below base w0 w

theorem KindsOwn.push {base : Nat} {w0 w w' : World} {v v' : Value} {l : List Int} {k : Int} {n : Nat} (h : KindsOwn base w0 w v l) (hn : n = l.length) (hb : base ≤ w.heap.size) (o : w'.ownsRow base 29 1 v' (n + 1) (kc l ++ [.int .u8 k])) (g : w.grownBy w' v.ownBlock) : KindsOwn base w0 w' v' (l ++ [k]) := by
  subst hn
  refine ⟨?_, ?_⟩
  · have e : (l ++ [k]).length = l.length + 1 := by simp
    rw [e, show kc (l ++ [k]) = kc l ++ [.int .u8 k] from by simp [kc]]
    exact o
  · exact h.bel.trans ((Below.refl base w).grown g hb (fun k hk => (h.own.lt k hk).1))
end Go.Proofs.YtedamaccflhmfaaGreatDoor
