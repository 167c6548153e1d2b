/-
  Lists of values: whether one of them is Null, whether a value is among them, what decides; and why an operation is refused.
-/
import Derived.Test.YtjddhakaebkkeaaGreatDoorUGives
import Derived.Test.YtjddhakaebkkeaaGreatDoorUCmp
namespace Go.Proofs.YtjddhakaebkkeaaGreatDoor
open Go.RowKit
attribute [local go_sem ↓] Go.wp_at_zero Go.wp_at_succ

def isN (v : Val) : Bool := v.k == 0

set_option maxHeartbeats 1600000 in
theorem idxN_any (w : World) (a : Option Addr) (cap : Nat) (l : List Val) (hl : l ≠ [] → ∃ b off, a = some ⟨b, off, none⟩ ∧ ValsAt w b off l) (hn : l.length ≤ 1099511627776000) :
    Calls Tryz.prog 49 #[.slice a l.length cap, .func (.func 23) #[] #[]] w fun e w' => ∃ r : Int, e = .returned (.int .i64 r) ∧ decide (0 ≤ r) = l.any isN ∧ Below w.heap.size w w' := by
  have HL : Hid (l ≠ [] → ∃ b off, a = some ⟨b, off, none⟩ ∧ ValsAt w b off l) := hl
  clear hl
  go_enter Tryz.func49, Tryz.ntmps49
  go_wp2
  go_loopw [5, 8] (fun _ i wr => ∃ j : Nat, j ≤ l.length ∧ i = .int .i64 j ∧ Below w.heap.size w wr ∧ (l.take j).any isN = false) (fun _ i _ => l.length - (intOf i).toNat)
  case atStart => exact ⟨0, Nat.zero_le _, rfl, Below.refl _ _, by simp⟩
  case round =>
    obtain ⟨j, hj, rfl, hbel, hc⟩ := hrel
    have HC : Hid ((l.take j).any isN = false) := hc
    clear hc
    by_cases hlt : j < l.length
    · obtain ⟨b, off, rfl, hv⟩ := HL.out (by intro e; rw [e] at hlt; simp at hlt)
      obtain ⟨c0, c1, c2⟩ := (hv.later hbel) j hlt
      obtain ⟨v, hvj⟩ : ∃ v, v = l[j] := ⟨_, rfl⟩
      rw [← hvj] at c0 c1 c2
      have HK : Hid (v = l[j]) := hvj
      clear hvj hv
      cases hz : v.k == 0
      · have HZ : Hid ((l.take (j + 1)).any isN = false) := by show _ = _; rw [any_take _ _ _ hlt HC.out, ← HK.out]; exact hz
        go_wp2_with (go_at_call 23; refine (isNull_any _ _ _ _).mono ?_; rintro e w2 ⟨rfl, hb2⟩)
        have B := hbel.trans (hb2.mono hbel.size)
        go_roundw
        case rel => exact ⟨j + 1, by omega, by go_num, B, HZ.out⟩
        case measure => simp [intOf]; omega
      · have HZ : Hid (l.any isN = true) := any_there _ _ _ hlt (by rw [← HK.out]; exact hz)
        go_wp2_with (go_at_call 23; refine (isNull_any _ _ _ _).mono ?_; rintro e w2 ⟨rfl, hb2⟩)
        have B := hbel.trans (hb2.mono hbel.size)
        go_ret
        exact ⟨_, rfl, by rw [HZ.out]; simp, B⟩
    · have HZ : Hid (l.any isN = false) := by
        show _ = _
        have h := HC.out
        rwa [List.take_of_length_le (by omega)] at h
      go_wp2
      go_ret
      exact ⟨_, rfl, by rw [HZ.out]; simp, hbel⟩

theorem hasN_any (w : World) (v : Value) (l : List Val) (h : ValsIn w v l) :
    Calls Tryz.prog 25 #[v, .func (.func 23) #[] #[]] w fun e w' => e = .returned (.bool (l.any isN)) ∧ Below w.heap.size w w' := by
  obtain ⟨⟨a, cap, rfl, hf⟩, _, hlen⟩ := h
  have IX := hide (idxN_any w a cap l hf hlen)
  clear hf
  go_enter Tryz.func25, Tryz.ntmps25
  go_wp2_with (go_at_call 49; refine IX.out.mono ?_; rintro e w' ⟨r, rfl, hr, hb⟩; have HR := hide hr; clear hr)
  go_ret
  exact ⟨by rw [← HR.out]; rfl, hb⟩

set_option maxHeartbeats 1600000 in
theorem idxV_any (w : World) (a : Option Addr) (cap : Nat) (l : List Val) (x : Val) (hl : l ≠ [] → ∃ b off, a = some ⟨b, off, none⟩ ∧ ValsAt w b off l) (hn : l.length ≤ 1099511627776000) :
    Calls Tryz.prog 65 #[.slice a l.length cap, .agg #[.int .u8 x.k, .int .i64 x.n, .string x.t]] w fun e w' => ∃ r : Int, e = .returned (.int .i64 r) ∧ decide (0 ≤ r) = l.any (sameV x) ∧ Below w.heap.size w w' := by
  have HL : Hid (l ≠ [] → ∃ b off, a = some ⟨b, off, none⟩ ∧ ValsAt w b off l) := hl
  clear hl
  obtain ⟨xk, xn, xt⟩ := x
  go_enter Tryz.func65, Tryz.ntmps65
  go_wp2
  go_loopw [5, 8] (fun _ i wr => ∃ j : Nat, j ≤ l.length ∧ i = .int .i64 j ∧ Below (w.heap.size + 1) (w.alloc (.cells #[.int .u8 xk, .int .i64 xn, .string xt] 29)) wr ∧ (l.take j).any (sameV ⟨xk, xn, xt⟩) = false) (fun _ i _ => l.length - (intOf i).toNat)
  case atStart => exact ⟨0, Nat.zero_le _, rfl, Below.refl _ _, by simp⟩
  case round =>
    obtain ⟨j, hj, rfl, hbel, hc⟩ := hrel
    have HC := hide hc
    clear hc
    have B0 : Below w.heap.size w wr := ((Below.refl _ _).alloc (Nat.le_refl _) _).trans (hbel.mono (by omega))
    have x0 : wr.cell? ⟨w.heap.size, 0, none⟩ = some (.int .u8 xk) := (hbel.cell (by simp)).trans (by simp [go_sem])
    have x1 : wr.cell? ⟨w.heap.size, 1, none⟩ = some (.int .i64 xn) := (hbel.cell (by simp)).trans (by simp [go_sem])
    have x2 : wr.cell? ⟨w.heap.size, 2, none⟩ = some (.string xt) := (hbel.cell (by simp)).trans (by simp [go_sem])
    by_cases hlt : j < l.length
    · obtain ⟨b, off, rfl, hv⟩ := HL.out (by intro e; rw [e] at hlt; simp at hlt)
      obtain ⟨c0, c1, c2⟩ := (hv.later B0) j hlt
      obtain ⟨v, hvj⟩ : ∃ v, v = l[j] := ⟨_, rfl⟩
      rw [← hvj] at c0 c1 c2
      have HK : Hid (v = l[j]) := hvj
      clear hvj hv
      have EQ := eql_val xk xn xt v.k v.n v.t
      cases hz : sameV ⟨xk, xn, xt⟩ v
      · have HZ : Hid ((l.take (j + 1)).any (sameV ⟨xk, xn, xt⟩) = false) := by show _ = _; rw [any_take _ _ _ hlt HC.out, ← HK.out]; exact hz
        have EQ2 : ∀ W : World, (binOp .eql 29 (.agg #[.int .u8 xk, .int .i64 xn, .string xt]) (.agg #[.int .u8 v.k, .int .i64 v.n, .string v.t])).run Tryz.prog W = .ok (.bool false) W := fun W => by rw [EQ W]; exact congrArg (fun b => Result.ok (Value.bool b) W) hz
        clear hz EQ
        go_wp2
        go_quiet (fail)
        go_wp2
        go_roundw
        case rel => exact ⟨j + 1, by omega, by go_num, below_drewN hbel _, HZ.out⟩
        case measure => simp [intOf]; omega
      · have HZ : Hid (l.any (sameV ⟨xk, xn, xt⟩) = true) := any_there _ _ _ hlt (by rw [← HK.out]; exact hz)
        have EQ2 : ∀ W : World, (binOp .eql 29 (.agg #[.int .u8 xk, .int .i64 xn, .string xt]) (.agg #[.int .u8 v.k, .int .i64 v.n, .string v.t])).run Tryz.prog W = .ok (.bool true) W := fun W => by rw [EQ W]; exact congrArg (fun b => Result.ok (Value.bool b) W) hz
        clear hz EQ
        go_wp2
        go_quiet (fail)
        go_wp2
        go_ret
        exact ⟨_, rfl, by rw [HZ.out]; simp, below_drewN B0 _⟩
    · have HZ : Hid (l.any (sameV ⟨xk, xn, xt⟩) = false) := by
        show _ = _
        have h := HC.out
        rwa [List.take_of_length_le (by omega)] at h
      go_wp2
      go_ret
      exact ⟨_, rfl, by rw [HZ.out]; simp, B0⟩

theorem hasV_any (w : World) (v : Value) (l : List Val) (x : Val) (h : ValsIn w v l) :
    Calls Tryz.prog 48 #[v, .agg #[.int .u8 x.k, .int .i64 x.n, .string x.t]] w fun e w' => e = .returned (.bool (l.any (sameV x))) ∧ Below w.heap.size w w' := by
  obtain ⟨⟨a, cap, rfl, hf⟩, _, hlen⟩ := h
  have IX := hide (fun (wx : World) (hb : Below w.heap.size w wx) => idxV_any wx a cap l x (fun h0 => by obtain ⟨b, off, ha, hat⟩ := hf h0; exact ⟨b, off, ha, hat.later hb⟩) hlen)
  clear hf
  obtain ⟨xk, xn, xt⟩ := x
  have B0 : Below w.heap.size w (w.alloc (.cells #[.int .u8 xk, .int .i64 xn, .string xt] 29)) := (Below.refl _ _).alloc (Nat.le_refl _) _
  go_enter Tryz.func48, Tryz.ntmps48
  go_wp2_with (go_at_call 65; refine (IX.out _ B0).mono ?_; rintro e w' ⟨r, rfl, hr, hb⟩; have HR := hide hr; clear hr)
  go_ret
  exact ⟨by rw [← HR.out]; rfl, B0.trans (hb.mono B0.size)⟩

/-- Kinds as cells. -/
def kc (l : List Int) : List Value := l.map fun k => Value.int .u8 k
theorem kc_length (l : List Int) : (kc l).length = l.length := by simp [kc]
theorem kc_one (l : List Int) : ∀ u ∈ kc l, u.oneCell' = true := by
  intro u hu
  simp only [kc, List.mem_map] at hu
  obtain ⟨c, _, rfl⟩ := hu
  rfl
theorem kindInfo : (Tryz.prog.info? 27).map (fun i => (i.zero, i.size, i.bytes)) = some (some (.int .u8 0), 1, 1) := by kernel_rfl

theorem kinds_of_own {w : World} {base : Nat} {v : Value} {l : List Int} (h : w.ownsRow base 27 1 v l.length (kc l)) (hl : l.length ≤ 1099511627776000) : KindsIn w v l := by
  rcases h.2 with ⟨rfl, h0⟩ | ⟨g, cap, cur, hv, _⟩
  · have : l = [] := List.eq_nil_of_length_eq_zero h0
    subst this
    exact ⟨⟨none, 0, rfl, fun h => absurd rfl h⟩, by simp⟩
  · subst hv
    refine ⟨⟨_, cap, rfl, fun _ => ⟨g, 0, rfl, fun j hj => ?_⟩⟩, hl⟩
    have := h.cellAt j (by omega)
    rw [Nat.zero_add, this]
    simp [kc, hj]

/-- A list of kinds that the call owns and lengthens. -/
structure KindsOwn (base : Nat) (w0 w : World) (v : Value) (l : List Int) : Prop where
  own : w.ownsRow base 27 1 v l.length (kc l)
  bel : Below base w0 w

theorem KindsOwn.push {base : Nat} {w0 w w' : World} {v v' : Value} {l : List Int} {k : Int} {n : Nat} (h : KindsOwn base w0 w v l) (hn : n = l.length) (hb : base ≤ w.heap.size) (o : w'.ownsRow base 27 1 v' (n + 1) (kc l ++ [.int .u8 k])) (g : w.grownBy w' v.ownBlock) : KindsOwn base w0 w' v' (l ++ [k]) := by
  subst hn
  refine ⟨?_, ?_⟩
  · have e : (l ++ [k]).length = l.length + 1 := by simp
    rw [e, show kc (l ++ [k]) = kc l ++ [.int .u8 k] from by simp [kc]]
    exact o
  · exact h.bel.trans ((Below.refl base w).grown g hb (fun k hk => (h.own.lt k hk).1))
end Go.Proofs.YtjddhakaebkkeaaGreatDoor
