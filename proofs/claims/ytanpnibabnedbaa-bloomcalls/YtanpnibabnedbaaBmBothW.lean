/-
  Two filters together have what either has: the walk.
-/
import Derived.Test.YtanpnibabnedbaaBmLives
import Derived.Test.YtanpnibabnedbaaBmBoth
namespace Go.Proofs.Ytanpnibabnedbaa.bloomBoth
open Go.RowKit
open Go.Proofs.Ytanpnibabnedbaa

theorem texts_take {w : World} {a : Option Addr} {cap : Nat} {l : List ByteArray} (h : TextsIn w (.slice a l.length cap) l) (n : Nat) (hn : n ≤ l.length) : TextsIn w (.slice a n cap) (l.take n) := by
  obtain ⟨a', cap', e, h1, h2, h3, hf⟩ := h
  simp only [Value.slice.injEq, true_and] at e
  obtain ⟨rfl, rfl⟩ := e
  have hl : (l.take n).length = n := by rw [List.length_take]; omega
  refine ⟨a, cap, by rw [hl], by omega, h2, h3, fun h0 => ?_⟩
  have hl0 : l ≠ [] := by intro e; rw [e] at h0; simp at h0
  obtain ⟨b, off, ha, hat⟩ := hf hl0
  refine ⟨b, off, ha, fun j hj => ?_⟩
  rw [hat j (by omega), List.getElem_take]
theorem TextsIn.cap_of {w : World} {a : Option Addr} {cap n : Nat} {l : List ByteArray} (h : TextsIn w (.slice a n cap) l) : l.length ≤ cap ∧ n = l.length ∧ (a = none → cap = 0) := by
  obtain ⟨a', cap', e, h1, h2, h3, hf⟩ := h
  simp only [Value.slice.injEq] at e
  obtain ⟨rfl, rfl, rfl⟩ := e
  exact ⟨h1, rfl, h3⟩

theorem both_ok_is (c : UInt8) (a b : List UInt8) (h : a.length = b.length) (hk : Bm.ok (c :: a) = true) : Bm.ok (Bm.both (c :: a) (c :: b)) = true := by
  rw [ok_iff] at hk ⊢
  have e : Bm.both (c :: a) (c :: b) = c :: Bm.both a b := by unfold Bm.both; rw [List.zipWith_cons_cons, UInt8.or_self]
  rw [e]
  simpa [Bm.both_length a b h] using hk

set_option maxHeartbeats 1600000 in
/-- What is no question: lists that are too long, or a key. -/
theorem walk_big (w : World) (a0 b0 : Option Addr) (ca cb : Nat) (la lb : List ByteArray) (d : Int) (key : ByteArray) (ha : TextsIn w (.slice a0 la.length ca) la) (hb : TextsIn w (.slice b0 lb.length cb) lb) (hbig : smallB la = false ∨ smallB lb = false ∨ 600 < key.size) :
    Calls Try.prog 6 #[.slice a0 la.length ca, .slice b0 lb.length cb, .int .i64 d, .string key] w fun e w' => e = .returned (.bool true) ∧ Below w.heap.size w w' := by
  have LV : Hid (Calls Try.prog 9 #[] w fun e w' => e = .returned (.bool true) ∧ Below w.heap.size w w') := lives_any w
  have SA : Hid (∀ wx, Below w.heap.size w wx → Calls Try.prog 12 #[.slice a0 la.length ca] wx fun e w' => e = .returned (.bool (smallB la)) ∧ w' = wx) := fun wx hw => small_any wx _ la (ha.later hw)
  have SB : Hid (∀ wx, Below w.heap.size w wx → Calls Try.prog 12 #[.slice b0 lb.length cb] wx fun e w' => e = .returned (.bool (smallB lb)) ∧ w' = wx) := fun wx hw => small_any wx _ lb (hb.later hw)
  clear ha hb
  cases h1 : smallB la
  · rw [h1] at SA
    clear SB hbig h1
    go_enter Try.func6, Try.ntmps6
    go_wp2_with (first
      | (go_at_call 9; refine LV.out.mono ?_; rintro e w1 ⟨rfl, b1⟩; clear LV)
      | (go_at_call 12; refine (SA.out _ b1).mono ?_; rintro e w2 ⟨rfl, rfl⟩; clear SA))
    all_goals go_ret
    all_goals exact ⟨rfl, b1⟩
  · rw [h1] at SA hbig
    clear h1
    cases h2 : smallB lb
    · rw [h2] at SB
      clear hbig h2
      go_enter Try.func6, Try.ntmps6
      go_wp2_with (first
        | (go_at_call 9; refine LV.out.mono ?_; rintro e w1 ⟨rfl, b1⟩; clear LV)
        | (have gate := SA; go_at_call 12; refine (gate.out _ b1).mono ?_; rintro e w2 ⟨rfl, rfl⟩; clear SA gate)
        | (have gate := SB; go_at_call 12; refine (gate.out _ b1).mono ?_; rintro e w2 ⟨rfl, rfl⟩; clear SB gate))
      all_goals go_ret
      all_goals exact ⟨rfl, b1⟩
    · rw [h2] at SB hbig
      have i6 : (key.size : Int) > 600 := by
        rcases hbig with h | h | h
        · cases h
        · cases h
        · omega
      clear hbig h2
      go_enter Try.func6, Try.ntmps6
      go_wp2_with (first
        | (go_at_call 9; refine LV.out.mono ?_; rintro e w1 ⟨rfl, b1⟩; clear LV)
        | (have gate := SA; go_at_call 12; refine (gate.out _ b1).mono ?_; rintro e w2 ⟨rfl, rfl⟩; clear SA gate)
        | (have gate := SB; go_at_call 12; refine (gate.out _ b1).mono ?_; rintro e w2 ⟨rfl, rfl⟩; clear SB gate))
      all_goals go_ret
      all_goals exact ⟨rfl, b1⟩

set_option maxHeartbeats 3200000 in
/-- A number of bits that is none. -/
theorem walk_bad (w : World) (a0 b0 : Option Addr) (ca cb : Nat) (la lb : List ByteArray) (d : Int) (key : ByteArray) (ha : TextsIn w (.slice a0 la.length ca) la) (hb : TextsIn w (.slice b0 lb.length cb) lb) (h1 : smallB la = true) (h2 : smallB lb = true) (h3 : key.size ≤ 600) (hd : d < 1 ∨ 16 < d) :
    Calls Try.prog 6 #[.slice a0 la.length ca, .slice b0 lb.length cb, .int .i64 d, .string key] w fun e w' => e = .returned (.bool true) ∧ Below w.heap.size w w' := by
  have LV : Hid (Calls Try.prog 9 #[] w fun e w' => e = .returned (.bool true) ∧ Below w.heap.size w w') := lives_any w
  have SA : Hid (∀ wx, Below w.heap.size w wx → Calls Try.prog 12 #[.slice a0 la.length ca] wx fun e w' => e = .returned (.bool true) ∧ w' = wx) := fun wx hw => by rw [← h1]; exact small_any wx _ la (ha.later hw)
  have SB : Hid (∀ wx, Below w.heap.size w wx → Calls Try.prog 12 #[.slice b0 lb.length cb] wx fun e w' => e = .returned (.bool true) ∧ w' = wx) := fun wx hw => by rw [← h2]; exact small_any wx _ lb (hb.later hw)
  have OF : Hid (∀ wx a n cap, n ≤ 200 → Calls Try.prog 7 #[.slice a n cap, .int .i64 d] wx fun e w' => e = .returned (.tuple #[.slice none 0 0, .int .i64 2]) ∧ w' = wx) := fun wx a n cap hn => of_bad wx a n cap d (by omega) hd
  have sa := ((smallB_iff la).mp h1).1
  have sb := ((smallB_iff lb).mp h2).1
  have pa := (TextsIn.cap_of ha).1
  have pb := (TextsIn.cap_of hb).1
  obtain ⟨La, hLa⟩ : ∃ x, x = la.length := ⟨_, rfl⟩
  obtain ⟨Lb, hLb⟩ : ∃ x, x = lb.length := ⟨_, rfl⟩
  rw [← hLa] at SA sa pa ⊢
  rw [← hLb] at SB sb pb ⊢
  have i6 : ¬ (key.size : Int) > 600 := by omega
  have pa' : (La : Int) ≤ (ca : Int) := by omega
  have pb' : (Lb : Int) ≤ (cb : Int) := by omega
  clear ha hb h1 h2 hLa hLb hd
  by_cases hm : Lb < La
  · have hm' : (Lb : Int) < (La : Int) := by omega
    have pc' : (Lb : Int) ≤ (ca : Int) := by omega
    go_enter Try.func6, Try.ntmps6
    go_wp2_with (first
      | (go_at_call 9; refine LV.out.mono ?_; rintro e w1 ⟨rfl, b1⟩; clear LV)
      | (have gate := SA; go_at_call 12; refine (gate.out _ b1).mono ?_; rintro e w2 ⟨rfl, rfl⟩; clear SA gate)
      | (have gate := SB; go_at_call 12; refine (gate.out _ b1).mono ?_; rintro e w2 ⟨rfl, rfl⟩; clear SB gate)
      | (go_at_call 7; refine (OF.out _ _ _ _ sb).mono ?_; rintro e w3 ⟨rfl, rfl⟩))
    go_ret
    exact ⟨rfl, b1⟩
  · have hm' : ¬ (Lb : Int) < (La : Int) := by omega
    have hm2 : (La : Int) ≤ (Lb : Int) := by omega
    have pc' : (La : Int) ≤ (cb : Int) := by omega
    go_enter Try.func6, Try.ntmps6
    go_wp2_with (first
      | (go_at_call 9; refine LV.out.mono ?_; rintro e w1 ⟨rfl, b1⟩; clear LV)
      | (have gate := SA; go_at_call 12; refine (gate.out _ b1).mono ?_; rintro e w2 ⟨rfl, rfl⟩; clear SA gate)
      | (have gate := SB; go_at_call 12; refine (gate.out _ b1).mono ?_; rintro e w2 ⟨rfl, rfl⟩; clear SB gate)
      | (go_at_call 7; refine (OF.out _ _ _ _ sa).mono ?_; rintro e w3 ⟨rfl, rfl⟩))
    go_ret
    exact ⟨rfl, b1⟩
end Go.Proofs.Ytanpnibabnedbaa.bloomBoth
