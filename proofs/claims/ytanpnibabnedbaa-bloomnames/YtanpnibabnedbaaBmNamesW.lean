/-
  The chapter's examples: the walk.
-/
import Derived.Test.YtanpnibabnedbaaBmLives
import Derived.Test.YtanpnibabnedbaaKMake
namespace Go.Proofs.Ytanpnibabnedbaa.bloomNames
open Go.RowKit
open Go.Proofs.Ytanpnibabnedbaa

theorem hide {p : Prop} (h : p) : Hid p := h
theorem filt_a : Bm.filt (keysOf [⟨#[97]⟩]) 1 = [1, 16] := by decide +kernel
theorem has_all : Bm.has [7, 255] [120] = true := by decide +kernel
theorem has_no : Bm.has [7, 0] [120] = false := by decide +kernel
theorem hash_nil : Bm.hash [] = 14695981039346656037 := rfl

theorem texts_one (w : World) (t : TypeId) (fr : Nat × Nat) (s : ByteArray) : TextsIn (w.alloc (.cells #[.string s] t fr)) (.slice (some ⟨w.heap.size, 0, none⟩) 1 1) [s] := by
  refine ⟨_, 1, rfl, Nat.le_refl _, by decide, (fun e => by cases e), fun _ => ⟨w.heap.size, 0, rfl, fun j hj => ?_⟩⟩
  obtain rfl : j = 0 := by simp at hj; omega
  rw [cell_of_row _ w.heap.size (0 + 0) _ _ _ (heap_alloc_new w _)]
  rfl

theorem of_a (w : World) (B : Nat) (h : TextsIn w (.slice (some ⟨B, 0, none⟩) 1 1) [⟨#[97]⟩]) : Calls Try.prog 7 #[.slice (some ⟨B, 0, none⟩) 1 1, .int .i64 1] w fun e w' => ∃ g, e = .returned (.tuple #[.slice (some ⟨g, 0, none⟩) 2 2, .int .i64 0]) ∧ Below w.heap.size w w' ∧ BytesIn w' (.slice (some ⟨g, 0, none⟩) 2 2) [1, 16] := by
  refine (of_ok w _ [⟨#[97]⟩] 1 h (by decide) (fun s hs => by rw [List.mem_singleton.mp hs]; decide) (by decide) (by decide)).mono ?_
  rintro e w' ⟨n, rfl, hn, x⟩
  rw [filt_a] at hn x
  obtain rfl : n = 2 := hn
  exact ⟨_, rfl, x.below (Nat.le_refl _) (by simp [Value.ownBlock]), bytes_of_own x.own (by decide)⟩
theorem has_x (w : World) (B : Nat) (c : UInt8) (R : Bool) (h : BytesIn w (.slice (some ⟨B, 0, none⟩) 2 2) [7, c]) (hR : Bm.has [7, c] [120] = R) : Calls Try.prog 8 #[.slice (some ⟨B, 0, none⟩) 2 2, .string ⟨#[120]⟩] w fun e w' => e = .returned (.tuple #[.bool R, .int .i64 0]) ∧ Below w.heap.size w w' := by
  have := has_any w (some ⟨B, 0, none⟩) 2 [7, c] ⟨#[120]⟩ h (by decide : 2 ≤ 2) (by decide)
  have ok : Bm.ok [7, c] = true := by rw [ok_iff]; simp
  rw [okE_ok ok, ok, show (⟨#[120]⟩ : ByteArray).data.toList = [120] from rfl, hR, Bool.true_and] at this
  exact this
theorem check_bad (w : World) (B n c : Nat) (f : List UInt8) (hn : n = f.length) (h : BytesIn w (.slice (some ⟨B, 0, none⟩) n c) f) (hb : Bm.ok f = false) : Calls Try.prog 11 #[.slice (some ⟨B, 0, none⟩) n c] w fun e w' => e = .returned (.int .i64 5) ∧ w' = w := by
  subst hn
  have := check_any w (some ⟨B, 0, none⟩) c f h
  rwa [okE_bad hb] at this

theorem check_lit (W : World) (f : List UInt8) (n c B : Nat) (hn : n = f.length) (hB : B = W.heap.size) (cs : Array Value) (hcs : cs.toList = bc f) (t : TypeId) (fr : Nat × Nat) (hl : f.length ≤ 1000) (hb : Bm.ok f = false) :
    Calls Try.prog 11 #[.slice (some ⟨B, 0, none⟩) n c] (W.alloc (.cells cs t fr)) fun e w' => e = .returned (.int .i64 5) ∧ w' = W.alloc (.cells cs t fr) :=
  check_bad _ B n c f hn (const_bytes W f n c B hn hB cs hcs t fr (by omega)) hb

set_option maxHeartbeats 3200000 in
theorem names_walk (w : World) : Calls Try.prog 3 #[] w fun e w' => e = .returned (.bool true) ∧ Below w.heap.size w w' := by
  have B0 : ∀ o, Below w.heap.size w (w.alloc o) := fun o => (Below.refl _ _).alloc (Nat.le_refl _) o
  have OA := hide of_a
  have HX := hide has_x
  have OB : Hid (∀ wx, Calls Try.prog 7 #[.slice none 0 0, .int .i64 17] wx fun e w' => e = .returned (.tuple #[.slice none 0 0, .int .i64 2]) ∧ w' = wx) := fun wx => of_bad wx none 0 0 17 (by decide) (.inr (by decide))
  have HA : Hid (∀ wx, Calls Try.prog 10 #[.string ⟨#[]⟩] wx fun e w' => e = .returned (.int .u64 14695981039346656037) ∧ w' = wx) := fun wx => hash_any wx ⟨#[]⟩ (by decide)
  go_enter Try.func3, Try.ntmps3
  go_wp2_with (first
    | (go_at_call 7; refine (OA.out _ _ (texts_one w _ _ _)).mono ?_; rintro e w1 ⟨g1, rfl, b1, x1⟩; have z1 := b1.size; have B1 := (B0 _).trans (b1.mono (by simp)); clear OA b1)
    | (have gate := x1; go_at_call 8; refine (HX.out _ _ 255 true (const_bytes w1 [7, 255] 2 2 _ rfl rfl _ rfl _ _ (by decide)) has_all).mono ?_; rintro e w2 ⟨rfl, b2⟩; have x2 := (x1.later ((Below.refl _ _).alloc (Nat.le_refl _) _)).later b2; have B2 := (B1.alloc B1.size _).trans (b2.mono (by simp; have := B1.size; omega)); clear gate b2 x1 B1 z1)
    | (have gate := x2; go_at_call 8; refine (HX.out _ _ 0 false (const_bytes w2 [7, 0] 2 2 _ rfl rfl _ rfl _ _ (by decide)) has_no).mono ?_; rintro e w3 ⟨rfl, b3⟩; have x3 := (x2.later ((Below.refl _ _).alloc (Nat.le_refl _) _)).later b3; have B3 := (B2.alloc B2.size _).trans (b3.mono (by simp; have := B2.size; omega)); clear gate b3 x2 B2))
  obtain ⟨q, o, e, d0⟩ := BytesIn.spot (l := [1, 16]) x3 0 (by decide)
  obtain ⟨rfl, rfl⟩ : g1 = q ∧ 0 = o := by simpa using e
  obtain ⟨q, o, e', d1⟩ := BytesIn.spot (l := [1, 16]) x3 1 (by decide)
  obtain ⟨rfl, rfl⟩ : g1 = q ∧ 0 = o := by simpa using e'
  have c0 : w3.cell? ⟨g1, 0, none⟩ = some (.int .u8 1) := d0
  have c1 : w3.cell? ⟨g1, 1, none⟩ = some (.int .u8 16) := d1
  clear e e' d0 d1 x3
  go_loopw [7, 8] (fun x i wr => ∃ j : Nat, j ≤ 8 ∧ i = .int .i64 j ∧ x = .int .i64 (if 4 < j then 1 else 0) ∧ wr = w3) (fun _ i _ => 8 - (intOf i).toNat)
  case atStart => exact ⟨0, by omega, rfl, rfl, rfl⟩
  case round =>
    obtain ⟨j, hj, rfl, rfl, rfl⟩ := hrel
    by_cases h8 : j < 8
    · rcases (by omega : j = 0 ∨ j = 1 ∨ j = 2 ∨ j = 3 ∨ j = 4 ∨ j = 5 ∨ j = 6 ∨ j = 7) with rfl | rfl | rfl | rfl | rfl | rfl | rfl | rfl
      all_goals
        clear hj h8
        go_wp2_with (fail)
        refine ⟨⟨_, ?_, rfl, congrArg (Value.int .i64) ?_, trivial⟩, by decide⟩
        all_goals decide +kernel
    · obtain rfl : j = 8 := by omega
      clear hj h8
      go_wp2_with (first
        | (go_at_call 7; refine (OB.out _).mono ?_; rintro e w4 ⟨rfl, rfl⟩; clear OB)
        | (go_at_call 9; refine (lives_any _).mono ?_; rintro e w5 ⟨rfl, b5⟩; have d0 := keepC b5 c0; have B5 := B3.trans (b5.mono B3.size); clear c0 c1 B3 b5)
        | (go_at_call 10; refine (HA.out _).mono ?_; rintro e w6 ⟨rfl, rfl⟩; have B6 := B5; have t1 := B5.size; clear HA)
        | (have gate := t1; go_at_call 11; refine (check_lit w6 [0, 1] 2 2 _ rfl rfl _ rfl _ _ (by decide) (by decide)).mono ?_; rintro e w7 ⟨rfl, rfl⟩; have t2 := t1; clear t1 gate)
        | (have gate := t2; go_at_call 11; refine (check_lit (w6.alloc _) [13, 1] 2 2 _ rfl (by simp) _ rfl _ _ (by decide) (by decide)).mono ?_; rintro e w8 ⟨rfl, rfl⟩; have t3 := t2; clear t2 gate)
        | (have gate := t3; go_at_call 11; refine (check_lit ((w6.alloc _).alloc _) [5] 1 1 _ rfl (by simp) _ rfl _ _ (by decide) (by decide)).mono ?_; rintro e w9 ⟨rfl, rfl⟩; have t4 := t3; clear t3 gate))
      go_ret
      exact ⟨rfl, ((B6.alloc B6.size _).alloc (by simp; have := B6.size; omega) _).alloc (by simp; have := B6.size; omega) _⟩
end Go.Proofs.Ytanpnibabnedbaa.bloomNames
