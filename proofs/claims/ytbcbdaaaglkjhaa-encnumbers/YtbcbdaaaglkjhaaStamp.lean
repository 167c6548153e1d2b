/-
  Stamps as texts: what the calls that make a stamp a text answer, of every stamp; they leave all that was there as it was.
-/
import Derived.Test.YtbcbdaaaglkjhaaTuple
namespace Go.Proofs.Ytbcbdaaaglkjhaa
open Go.RowKit

/-- The stamp may be. -/
def mayS (a b c : Int) : Bool := decide (0 ≤ a) && decide (a ≤ 1099511627776) && decide (0 ≤ b) && decide (b ≤ 1048576) && decide (0 ≤ c) && decide (c ≤ 1048576)

set_option maxHeartbeats 800000 in
theorem mayBe_any (w : World) (a b c : Int) :
    Calls Try.prog 45 #[.agg #[.int .i64 a, .int .i32 b, .int .i32 c]] w fun e w' => e = .returned (.bool (mayS a b c)) ∧ w' = w.alloc (.cells #[.int .i64 a, .int .i32 b, .int .i32 c] 35) := by
  have hI : ∀ x, mayS a b c = x → Hid (mayS a b c = x) := fun b h => h
  by_cases h1 : 0 ≤ a
  · by_cases h2 : a ≤ 1099511627776
    · by_cases h3 : 0 ≤ b
      · by_cases h4 : b ≤ 1048576
        · by_cases h5 : 0 ≤ c
          · by_cases h6 : c ≤ 1048576
            · have HI := hI true (by simp [mayS, h1, h2, h3, h4, h5, h6])
              clear hI
              go_enter Try.func45, Try.ntmps45
              go_wp2
              go_ret
              exact ⟨by rw [HI.out]; rfl, rfl⟩
            · have HI := hI false (by simp [mayS, h6])
              clear hI
              go_enter Try.func45, Try.ntmps45
              go_wp2
              go_ret
              exact ⟨by rw [HI.out]; rfl, rfl⟩
          · have HI := hI false (by simp [mayS, h5])
            clear hI
            go_enter Try.func45, Try.ntmps45
            go_wp2
            go_ret
            exact ⟨by rw [HI.out]; rfl, rfl⟩
        · have HI := hI false (by simp [mayS, h4])
          clear hI
          go_enter Try.func45, Try.ntmps45
          go_wp2
          go_ret
          exact ⟨by rw [HI.out]; rfl, rfl⟩
      · have HI := hI false (by simp [mayS, h3])
        clear hI
        go_enter Try.func45, Try.ntmps45
        go_wp2
        go_ret
        exact ⟨by rw [HI.out]; rfl, rfl⟩
    · have HI := hI false (by simp [mayS, h2])
      clear hI
      go_enter Try.func45, Try.ntmps45
      go_wp2
      go_ret
      exact ⟨by rw [HI.out]; rfl, rfl⟩
  · have HI := hI false (by simp [mayS, h1])
    clear hI
    go_enter Try.func45, Try.ntmps45
    go_wp2
    go_ret
    exact ⟨by rw [HI.out]; rfl, rfl⟩

/-- The bytes of a stamp. -/
def stB (a b c : Int) : List UInt8 := high (9223372036854775807 - a).toNat 8 ++ high (2147483647 - b).toNat 4 ++ high (2147483647 - c).toNat 4
def stS (a b c : Int) : ByteArray := if mayS a b c then ⟨(stB a b c).toArray⟩ else ByteArray.empty
def stE (a b c : Int) : Int := if mayS a b c then 0 else 2

theorem appendHigh_int (w : World) (base : Nat) (v : Value) (l : List UInt8) (X : Int) (k : Nat) (hX : 0 ≤ X) (hk : k ≤ 8)
    (hown : w.ownsRow base 5 1 v l.length (bc l)) (hbase : base ≤ w.heap.size) (hlen : l.length ≤ 1000000) :
    Calls Try.prog 46 #[v, .int .u64 X, .int .i64 k] w fun e w' => ∃ v', e = .returned v' ∧ Ext base w v w' v' (l ++ high X.toNat k) := by
  obtain ⟨x, rfl⟩ := Int.eq_ofNat_of_zero_le hX
  exact appendHigh_any w base v l x k hk hown hbase hlen

theorem far_own {v : Value} {B H : Nat} (h : ∀ k, v.ownBlock = some k → B + 2 ≤ k ∧ k < H) : some B ≠ v.ownBlock := fun e => by have := (h _ e.symm).1; omega

set_option maxHeartbeats 800000 in
theorem stamp_any (w : World) (a b c : Int) :
    Calls Try.prog 11 #[.agg #[.int .i64 a, .int .i32 b, .int .i32 c]] w fun e w' => e = .returned (.tuple #[.string (stS a b c), .int .i64 (stE a b c)]) ∧ Below w.heap.size w w' := by
  cases hm : mayS a b c
  · have HS : Hid (stS a b c = ByteArray.empty) := by show _ = _; unfold stS; rw [hm]; rfl
    have HE : Hid (stE a b c = 2) := by show _ = _; unfold stE; rw [hm]; rfl
    go_enter Try.func11, Try.ntmps11
    go_wp2_with (go_at_call 45; refine (mayBe_any _ _ _ _).mono ?_; rintro e w' ⟨rfl, rfl⟩)
    go_ret2
    exact ⟨by rw [HS.out, HE.out]; rfl, ((Below.refl _ _).alloc (Nat.le_refl _) _).alloc (by simp) _⟩
  · have HS : Hid (stS a b c = ⟨(stB a b c).toArray⟩) := by show _ = _; unfold stS; rw [hm]; rfl
    have HE : Hid (stE a b c = 0) := by show _ = _; unfold stE; rw [hm]; rfl
    have hmm := hm
    simp only [mayS, Bool.and_eq_true, decide_eq_true_eq] at hmm
    obtain ⟨⟨⟨⟨⟨h1, h2⟩, h3⟩, h4⟩, h5⟩, h6⟩ := hmm
    have p1 : 0 ≤ 9223372036854775807 - a := by omega
    have p2 : 0 ≤ 2147483647 - b := by omega
    have p3 : 0 ≤ 2147483647 - c := by omega
    have P1 : Hid (0 ≤ 9223372036854775807 - a) := p1
    have P2 : Hid (0 ≤ 2147483647 - b) := p2
    have P3 : Hid (0 ≤ 2147483647 - c) := p3
    clear p1 p2 p3
    have hbW : w.heap.size + 2 ≤ ((w.alloc (.cells #[.int .i64 a, .int .i32 b, .int .i32 c] 35)).alloc (.cells #[.int .i64 a, .int .i32 b, .int .i32 c] 35)).heap.size := by simp
    go_enter Try.func11, Try.ntmps11
    go_wp2_with (first
      | (go_at_call 45; refine (mayBe_any _ _ _ _).mono ?_; rintro e w' ⟨rfl, rfl⟩)
      | (go_at_call 46; refine (appendHigh_int _ (w.heap.size + 2) _ (([] ++ high (9223372036854775807 - a).toNat 8) ++ high (2147483647 - b).toNat 4) _ 4 P3.out (by decide) hx2.own hz2 hl2).mono ?_; rintro e w3 ⟨v3, rfl, hx3⟩; have hcv := hx3.str)
      | (go_at_call 46; refine (appendHigh_int _ (w.heap.size + 2) _ ([] ++ high (9223372036854775807 - a).toNat 8) _ 4 P2.out (by decide) hx1.own hz1 hl1).mono ?_; rintro e w2 ⟨v2, rfl, hx2⟩; have d2 := hx2.keeps d1 (far_own hx1.own.lt); have hz2 := Nat.le_trans hz1 hx2.size; have hl2 : ((([] : List UInt8) ++ high (9223372036854775807 - a).toNat 8) ++ high (2147483647 - b).toNat 4).length ≤ 1000000 := by simp [high_length])
      | (go_at_call 46; refine (appendHigh_int _ (w.heap.size + 2) _ [] _ 8 P1.out (by decide) (World.ownsRow_nil _ _ _ _) hbW (by decide)).mono ?_; rintro e w1 ⟨v1, rfl, hx1⟩; have c1 : w1.cell? ⟨w.heap.size, 1, none⟩ = some (.int .i32 b) := hx1.keeps (by simp [go_sem, World.cell?_alloc_past]) (by simp [Value.ownBlock]); have d1 : w1.cell? ⟨w.heap.size, 2, none⟩ = some (.int .i32 c) := hx1.keeps (by simp [go_sem, World.cell?_alloc_past]) (by simp [Value.ownBlock]); have hz1 : w.heap.size + 2 ≤ w1.heap.size := Nat.le_trans hbW hx1.size; have hl1 : (([] : List UInt8) ++ high (9223372036854775807 - a).toNat 8).length ≤ 1000000 := by simp [high_length]))
    have F := (hx1.trans hx2).trans hx3
    go_ret2
    refine ⟨by rw [HS.out, HE.out]; rfl, ?_⟩
    exact (((Below.refl _ _).alloc (Nat.le_refl _) _).alloc (by simp) _).grown F.grown (by simp; omega) (by simp [Value.ownBlock])
end Go.Proofs.Ytbcbdaaaglkjhaa
