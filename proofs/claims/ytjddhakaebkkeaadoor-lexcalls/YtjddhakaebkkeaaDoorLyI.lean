/-
  Package stagepostref13: what a token says, and whether one may be.
-/
import Derived.Test.YtjddhakaebkkeaaDoorLyH
import Derived.Test.YtjddhakaebkkeaaDoorLxO
import Derived.Test.YtjddhakaebkkeaaDoorUQn
import Derived.Test.YtjddhakaebkkeaaDoorUQo
namespace Go.Proofs.YtjddhakaebkkeaaDoor
open Go.RowKit
attribute [local go_sem ↓] Go.wp_at_zero Go.wp_at_succ

def sameTk (k : Int) (t : ByteArray) (n a : Int) (k' : Int) (t' : ByteArray) (n' a' : Int) : Bool := (k == k') && ((t.toList == t'.toList) && ((n == n') && (a == a')))
set_option maxRecDepth 100000 in
/-- Two tokens held against each other. -/
theorem eql_tok (k : Int) (t : ByteArray) (n a : Int) (k' : Int) (t' : ByteArray) (n' a' : Int) (W : World) : (binOp .eql 27 (.agg #[.int .u8 k, .string t, .int .u64 n, .int .i64 a]) (.agg #[.int .u8 k', .string t', .int .u64 n', .int .i64 a'])).run Tryd.prog W = .ok (.bool (sameTk k t n a k' t' n' a')) W := by
  have hu : Tryd.prog.underlying 27 = some (.struct (Tryd.prog.fieldsOf 27)) := by kernel_rfl
  have hp : Tryd.prog.stoodInHeld 27 = false := by kernel_rfl
  rw [run_eql_struct, run_equalIn_agg _ _ _ _ _ hu hp]
  clear hu hp
  unfold sameTk
  cases h1 : (k == k') <;> cases h2 : (t.toList == t'.toList) <;> cases h3 : (n == n') <;> cases h4 : (a == a')
  all_goals
    go_simp

set_option maxRecDepth 20000 in
set_option maxHeartbeats 3200000 in
theorem rsaid_any (w : World) (x : Lx.Tk) (xs : ByteArray) (hxs : xs = ⟨x.t.toArray⟩) (hw : Twf x) (hl : x.t.length ≤ 1000000) : Calls Tryd.prog 21 #[.agg #[.int .u8 x.k, .string xs, .int .u64 x.n, .int .i64 x.at']] w fun e w' => e = .returned (.string ⟨(Lx.saidT x).toArray⟩) ∧ Below w.heap.size w w' := by
  have hsz : xs.size = x.t.length := by rw [hxs]; show x.t.toArray.size = _; simp
  have hd : xs.data.toList = x.t := by rw [hxs]
  have QU := hide (fun wx => rquoted_any wx xs (by omega))
  have DG := hide (rdigits_any x.n hw.n1)
  have B1 : Below w.heap.size w (w.alloc (.cells #[.int .u8 x.k, .string xs, .int .u64 x.n, .int .i64 x.at'] 27)) := (Below.refl _ _).alloc (Nat.le_refl _) _
  by_cases h2 : x.k = 2
  · have e : (⟨(Lx.saidT x).toArray⟩ : ByteArray) = ⟨(Lib.decDigits x.n).toArray⟩ := by unfold Lx.saidT; rw [if_pos h2]
    rw [e]
    clear e hw hxs hsz hd QU hl
    obtain ⟨k, t, n, a⟩ := x
    simp only at h2
    subst h2
    go_enter Tryd.func21, Tryd.ntmps21
    go_wp2_with (go_at_call 41; refine (DG.out _).mono ?_; rintro e w5 ⟨rfl, h5⟩; subst h5)
    go_ret
    exact ⟨rfl, B1⟩
  · by_cases h3 : x.k = 3
    · have e : (⟨(Lx.saidT x).toArray⟩ : ByteArray) = ⟨(39 :: (twiceL xs.data.toList ++ [39])).toArray⟩ := by unfold Lx.saidT; rw [if_neg h2, if_pos h3, hd]; rfl
      rw [e]
      clear e hw hxs hsz hd DG hl h2
      obtain ⟨k, t, n, a⟩ := x
      simp only at h3
      subst h3
      go_enter Tryd.func21, Tryd.ntmps21
      go_wp2_with (go_at_call 42; refine (QU.out _).mono ?_; rintro e w5 ⟨rfl, h5⟩; have B5 := B1.trans (h5.mono B1.size))
      go_ret
      exact ⟨rfl, B5⟩
    · have e : (⟨(Lx.saidT x).toArray⟩ : ByteArray) = xs := by unfold Lx.saidT; rw [if_neg h2, if_neg h3, hxs]
      rw [e]
      clear e hw hxs hsz hd DG QU hl
      obtain ⟨k, t, n, a⟩ := x
      simp only at h2 h3
      go_enter Tryd.func21, Tryd.ntmps21
      go_wp2
      go_ret
      exact ⟨rfl, B1⟩
end Go.Proofs.YtjddhakaebkkeaaDoor
