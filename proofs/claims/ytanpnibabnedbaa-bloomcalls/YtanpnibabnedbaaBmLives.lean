/-
  The statements' own first question: the example that it asks holds, so it answers true; it leaves all that was there as it was.
-/
import Derived.Test.YtanpnibabnedbaaBmOf
import Derived.Test.YtanpnibabnedbaaKSame
namespace Go.Proofs.Ytanpnibabnedbaa
open Go.RowKit

theorem filt_none : Bm.filt (keysOf []) 10 = [7, 0] := by decide +kernel
theorem hash_a : Bm.hash [97] = 12638187200555641996 := by decide +kernel

theorem const_bytes (W : World) (l : List UInt8) (n c B : Nat) (hn : n = l.length) (hB : B = W.heap.size) (cs : Array Value) (hcs : cs.toList = bc l) (t : TypeId) (fr : Nat × Nat) (hl : l.length ≤ 140737488355328) :
    BytesIn (W.alloc (.cells cs t fr)) (.slice (some ⟨B, 0, none⟩) n c) l := by
  subst hB
  refine BytesIn.block (cs := cs) (t := t) (fr := fr) (heap_alloc_new W _) _ hl ?_ c _ hn
  intro j hj
  rw [← Array.getElem?_toList, hcs, bc_get l j hj]

theorem texts_nil (w : World) : TextsIn w (.slice none 0 0) [] := ⟨none, 0, rfl, Nat.le_refl _, by decide, fun _ => rfl, fun h => absurd rfl h⟩

set_option maxHeartbeats 800000 in
theorem lives_any (w : World) : Calls Try.prog 9 #[] w fun e w' => e = .returned (.bool true) ∧ Below w.heap.size w w' := by
  have OF : Hid (Calls Try.prog 7 #[.slice none 0 0, .int .i64 10] w fun e w' => e = .returned (.tuple #[.slice (some ⟨w.heap.size, 0, none⟩) 2 2, .int .i64 0]) ∧ Below w.heap.size w w' ∧ BytesIn w' (.slice (some ⟨w.heap.size, 0, none⟩) 2 2) [7, 0]) := by
    refine (of_ok w _ [] 10 (texts_nil w) (by decide) (fun s h => by cases h) (by decide) (by decide)).mono ?_
    rintro e w' ⟨n, rfl, hn, x⟩
    rw [filt_none] at hn x
    obtain rfl : n = 2 := hn
    exact ⟨rfl, x.below (Nat.le_refl _) (by simp [Value.ownBlock]), bytes_of_own x.own (by decide)⟩
  have SB : Hid (∀ wx v u, BytesIn wx v [7, 0] → BytesIn wx u [7, 0] → Calls Try.prog 19 #[v, u] wx fun e w' => e = .returned (.bool true) ∧ Below wx.heap.size wx w') := fun wx v u hv hu => by
    have := same_any wx v u _ _ hv hu
    rwa [decide_eq_true rfl] at this
  have HA : Hid (∀ wx, Calls Try.prog 10 #[.string ⟨#[97]⟩] wx fun e w' => e = .returned (.int .u64 12638187200555641996) ∧ w' = wx) := fun wx => by
    have := hash_any wx ⟨#[97]⟩ (by decide)
    rw [show (⟨#[97]⟩ : ByteArray).data.toList = [97] from rfl, hash_a] at this
    exact this
  go_enter Try.func9, Try.ntmps9
  go_wp2_with (first
    | (go_at_call 7; refine OF.out.mono ?_; rintro e w1 ⟨rfl, b1, v1⟩; have z1 := b1.size; clear OF)
    | (go_at_call 19; refine (SB.out _ _ _ (v1.later ((Below.refl _ _).alloc (Nat.le_refl _) _)) (const_bytes w1 [7, 0] 2 2 _ rfl rfl _ rfl _ _ (by decide))).mono ?_; rintro e w2 ⟨rfl, b2⟩; have B2 := (b1.alloc z1 _).trans (b2.mono (by simp; omega)); clear SB b1 v1)
    | (go_at_call 10; refine (HA.out _).mono ?_; rintro e w3 ⟨rfl, rfl⟩; clear HA))
  go_ret
  exact ⟨rfl, B2⟩
end Go.Proofs.Ytanpnibabnedbaa
