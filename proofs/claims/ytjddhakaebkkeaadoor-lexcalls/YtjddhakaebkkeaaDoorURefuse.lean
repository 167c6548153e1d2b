/-
  Lists of values: whether one of them is Null, whether a value is among them, what decides; and why an operation is refused.
-/
import Derived.Test.YtjddhakaebkkeaaDoorUGives
import Derived.Test.YtjddhakaebkkeaaDoorUCmp
namespace Go.Proofs.YtjddhakaebkkeaaDoor
open Go.RowKit
attribute [local go_sem ↓] Go.wp_at_zero Go.wp_at_succ

def isN (v : Val) : Bool := v.k == 0

/-- Kinds as cells. -/
def kc (l : List Int) : List Value := l.map fun k => Value.int .u8 k
theorem kc_length (l : List Int) : (kc l).length = l.length := by simp [kc]
theorem kc_one (l : List Int) : ∀ u ∈ kc l, u.oneCell' = true := by
  intro u hu
  simp only [kc, List.mem_map] at hu
  obtain ⟨c, _, rfl⟩ := hu
  rfl
theorem kindInfo : (Tryd.prog.info? 62).map (fun i => (i.zero, i.size, i.bytes)) = some (some (.int .u8 0), 1, 1) := by kernel_rfl

theorem kinds_of_own {w : World} {base : Nat} {v : Value} {l : List Int} (h : w.ownsRow base 62 1 v l.length (kc l)) (hl : l.length ≤ 1099511627776000) : KindsIn w v l := by
  rcases h.2 with ⟨rfl, h0⟩ | ⟨g, cap, cur, hv, _⟩
  · have : l = [] := List.eq_nil_of_length_eq_zero h0
    subst this
    exact ⟨⟨none, 0, rfl, fun h => absurd rfl h⟩, by simp⟩
  · subst hv
    refine ⟨⟨_, cap, rfl, fun _ => ⟨g, 0, rfl, fun j hj => ?_⟩⟩, hl⟩
    have := h.cellAt j (by omega)
    rw [Nat.zero_add, this]
    simp [kc, hj]

/-- A list of kinds that the call owns and lengthens. -/
structure KindsOwn (base : Nat) (w0 w : World) (v : Value) (l : List Int) : Prop where
  own : w.ownsRow base 62 1 v l.length (kc l)
  bel : Below base w0 w

theorem KindsOwn.push {base : Nat} {w0 w w' : World} {v v' : Value} {l : List Int} {k : Int} {n : Nat} (h : KindsOwn base w0 w v l) (hn : n = l.length) (hb : base ≤ w.heap.size) (o : w'.ownsRow base 62 1 v' (n + 1) (kc l ++ [.int .u8 k])) (g : w.grownBy w' v.ownBlock) : KindsOwn base w0 w' v' (l ++ [k]) := by
  subst hn
  refine ⟨?_, ?_⟩
  · have e : (l ++ [k]).length = l.length + 1 := by simp
    rw [e, show kc (l ++ [k]) = kc l ++ [.int .u8 k] from by simp [kc]]
    exact o
  · exact h.bel.trans ((Below.refl base w).grown g hb (fun k hk => (h.own.lt k hk).1))
end Go.Proofs.YtjddhakaebkkeaaDoor
