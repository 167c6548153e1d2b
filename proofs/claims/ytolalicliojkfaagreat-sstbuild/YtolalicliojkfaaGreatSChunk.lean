/-
  A list of entries cut into pieces: what the library's iterator keeps, and what it hands over, one by one.
-/
import Derived.Test.YtolalicliojkfaaGreatSM
import Derived.Test.YtolalicliojkfaaGreatSH
import Derived.Shelf.Abstract
import Derived.Shelf.RegionOpen
import Derived.WalkKit
import Derived.OwnWalkIn
import Derived.TacticsInMore
import Derived.LoopNIn
import Derived.LoopIn
namespace Go.Proofs.YtolalicliojkfaaGreat
open Go.RowKit Go.Shelf

theorem chunk_any (w : World) (a0 : Option Addr) (L c0 p : Nat) (hp : 1 ≤ p) (hp2 : p ≤ 64) :
    Calls Tryz.prog 21 #[.slice a0 L c0, .int .i64 (p : Int)] w fun e w' => e = .returned (.func (.func 54) #[] #[.pointer (some ⟨w.heap.size, 0, none⟩), .pointer (some ⟨w.heap.size + 1, 0, none⟩)]) ∧ w' = (w.alloc (.cells #[.slice a0 L c0] 22)).alloc (.cells #[.int .i64 (p : Int)] 3) := by
  have hp' : ¬ (p : Int) < 1 := by omega
  have hmf : ∀ (fn : Fn) (first cap : Array Value) (w : World), (Instr.makeFunc fn first cap).run Tryz.prog w = .ok (.func fn first cap) w := fun _ _ _ _ => rfl
  go_enter Tryz.func21, Tryz.ntmps21
  go_wp2_with (fail)
  go_ret
  exact ⟨rfl, rfl⟩

/-- The k-th piece of L entries from a place on. -/
def chunkAt (b off L p k : Nat) : Array Value := #[.slice (some ⟨b, off + k * p * 4, none⟩) (min p (L - k * p)) (min p (L - k * p))]

theorem chunk_lt {L p k : Nat} (hp : 1 ≤ p) (h : k * p < L) : k < (L + p - 1) / p := by
  rw [Nat.lt_iff_add_one_le, Nat.le_div_iff_mul_le (by omega), Nat.succ_mul]
  omega
theorem chunk_end {L p k : Nat} (hp : 1 ≤ p) (hk : k ≤ (L + p - 1) / p) (h : ¬ k * p < L) : k = (L + p - 1) / p := by
  have : (L + p - 1) / p < k + 1 := by
    rw [Nat.div_lt_iff_lt_mul (by omega), Nat.succ_mul]
    omega
  omega
theorem yield_deepK {m m' : Nat} {L : Nat} {args : Array Value} {A : World} {R : Ending → World → Prop} (h : YieldAt Fence.wide m Tryz.prog L args A R) : YieldAt Fence.wide m' Tryz.prog L args A R := by
  obtain ⟨fn, tmps, assign, body, hy, hR⟩ := h
  exact ⟨fn, tmps, assign, body, hy, hR.1, fun c cs _ => hR.2 c cs (fun d hd => by cases hd)⟩

theorem then_K {K : Act → World → Prop} {Q : Exit → Act → World → Prop} {a : Act} {w : World} (h : K a w) : Exit.then K Q .normal a w := h

attribute [local go_sem] Oper.semAt_some

set_option maxRecDepth 100000 in
set_option maxHeartbeats 4000000 in
theorem chunk_hands (n B1 B2 : Nat) (w0 : World) (bb off L c p : Nat) (hp : 1 ≤ p) (hp2 : p ≤ 64) (Kp : World → World → Prop) (hKt : ∀ {A B C : World}, Kp A B → Kp B C → Kp A C) (hKd : ∀ A : World, Kp A A.drew)
    (hB1 : ∀ A, Kp w0 A → A.cell? ⟨B1, 0, none⟩ = some (.slice (some ⟨bb, off, none⟩) L c)) (hB2 : ∀ A, Kp w0 A → A.cell? ⟨B2, 0, none⟩ = some (.int .i64 (p : Int))) (hc : L ≤ c) (hl : L ≤ 1000000000) :
    HandsK Fence.wide n Tryz.prog 54 #[.pointer (some ⟨B1, 0, none⟩), .pointer (some ⟨B2, 0, none⟩)] ((L + p - 1) / p) Kp (chunkAt bb off L p) w0 := by
  intro l J Jx W hW hJ hJx hY h0
  have HB1 : Hid (∀ A, Kp w0 A → A.cell? ⟨B1, 0, none⟩ = some (.slice (some ⟨bb, off, none⟩) L c)) := hB1
  have HB2 : Hid (∀ A, Kp w0 A → A.cell? ⟨B2, 0, none⟩ = some (.int .i64 (p : Int))) := hB2
  have HY : Hid (∀ k A, k < (L + p - 1) / p → J k A → Kp w0 A → YieldAt Fence.wide (n - 1) Tryz.prog l (chunkAt bb off L p k) A fun e B => (e = .returned (.bool true) ∧ J (k + 1) B ∧ Kp A B) ∨ (e = .returned (.bool false) ∧ Jx (k + 1) B)) := hY
  have HJ : Hid (∀ k A B, J k A → A.grownBy B none → J k B) := hJ
  clear hB1 hB2 hY hJ hJx
  refine callsIn_of_wp Tryz.func54 rfl trivial ?_ rfl
  simp only [Tryz.ntmps54, List.size_toArray, List.length_cons, List.length_nil, Nat.reduceAdd, Nat.reduceSub, Array.replicate_succ, Array.replicate_zero, List.push_toArray, List.append_toArray, List.nil_append, List.cons_append]
  gi_wp2_with (fail)
  gi_loopw [4] (fun i wr => ∃ k : Nat, k ≤ (L + p - 1) / p ∧ i = .int .i64 ((k * p : Nat) : Int) ∧ J k wr ∧ Kp w0 wr) (fun i _ => L + p - (intOf i).toNat)
  case atStart => exact ⟨0, Nat.zero_le _, by rw [Nat.zero_mul]; rfl, h0, hW⟩
  case round =>
    obtain ⟨k, hk, rfl, hj, hw2⟩ := hrel
    clear h0 hW
    have c1 := HB1.out wr hw2
    have c2 := HB2.out wr hw2
    obtain ⟨I, hI⟩ : ∃ I, I = k * p := ⟨_, rfl⟩
    rw [← hI]
    by_cases hlt : I < L
    · have hkN : k < (L + p - 1) / p := by rw [hI] at hlt; exact chunk_lt hp hlt
      obtain ⟨E, hE⟩ : ∃ E, E = min p (L - I) := ⟨_, rfl⟩
      have YY := HY.out k wr.drew hkN (HJ.out k wr wr.drew hj ⟨rfl, rfl, rfl, Nat.le_refl _, fun _ _ _ => rfl⟩) (hKt hw2 (hKd wr))
      have c1' : wr.drew.cell? ⟨B1, 0, none⟩ = some (.slice (some ⟨bb, off, none⟩) L c) := c1
      have c2' : wr.drew.cell? ⟨B2, 0, none⟩ = some (.int .i64 (p : Int)) := c2
      unfold chunkAt at YY
      rw [← hI, ← hE] at YY
      have HE : Hid (I + p = (k + 1) * p) := by show _ = _; rw [hI, Nat.succ_mul]
      have e1 : 0 < E := by omega
      have e2 : I + E ≤ L := by omega
      have eM : min (p : Int) ((L - I : Nat) : Int) = (E : Int) := by omega
      have k5 : ¬ (c = I) := by omega
      have k6 : (I : Int) ≤ (c : Int) := by omega
      have k7 : (I : Int) ≤ (L : Int) := by omega
      have HK : Hid (k < (L + p - 1) / p) := hkN
      have KD : Hid (Kp w0 wr.drew) := hKt hw2 (hKd wr)
      have k8 : (I : Int) ≤ (I : Int) + (E : Int) := by omega
      have k9 : (I : Int) + (E : Int) ≤ (c : Int) := by omega
      clear hI hE hkN hk HY HB1 HJ
      rw [wpIn_wide]
      go_wp2_with (fail)
      go_region
      clear eM c1 c2
      refine then_K ?_
      apply_assumption
      rw [← wpIn_wide (n := n)]
      obtain ⟨yf, yt, ya, yb, hy, hR⟩ := YY
      gi_wp2_with (fail)
      refine ⟨(fun h => by cases h), hR.mono ?_⟩
      rintro e W3 (⟨rfl, hJ3, hk3⟩ | ⟨rfl, hJx3⟩)
      · have c3 := HB2.out W3 (hKt KD.out hk3)
        gi_wp2_with (fail)
        go_wp2_with (fail)
        exact ⟨⟨k + 1, HK.out, by rw [← HE.out]; go_num, hJ3, hKt KD.out hk3⟩, by simp [intOf]; omega⟩
      · gi_wp2_with (fail)
        go_wp2_with (fail)
        (try simp only [Exit.inBlock, Exit.then])
        refine bodyPost_ret (results_none rfl _ _ _) rfl ?_
        exact ⟨⟨_, rfl⟩, .inr ⟨k + 1, HK.out, hJx3⟩⟩
    · have HE : Hid (k = (L + p - 1) / p) := by show _ = _; rw [hI] at hlt; exact chunk_end hp hk hlt
      clear hI hk HY HB1 HB2 HJ
      gi_wp2_with (fail)
      go_wp2_with (fail)
      go_end0
      rw [HE.out] at hj
      exact ⟨⟨_, rfl⟩, .inl hj⟩

end Go.Proofs.YtolalicliojkfaaGreat
