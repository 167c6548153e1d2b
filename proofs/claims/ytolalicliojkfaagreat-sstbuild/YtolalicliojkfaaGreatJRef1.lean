/-
  The document's own numbers as bytes: what its calls answer. (Written by wip/gen/jref.py out of stage 1's texts.)
-/
import Derived.Test.YtolalicliojkfaaGreatSD
import Derived.Test.YtolalicliojkfaaGreatSI
namespace Go.Proofs.YtolalicliojkfaaGreat
namespace Enc
open Go.RowKit

set_option maxHeartbeats 800000 in
theorem refBytes_any (k : Nat) : ∀ (x : Nat) (w : World), x ≤ k → x < 18446744073709551616 →
    Calls Tryz.prog 35 #[.int .u64 (x : Int)] w fun e w' => ∃ v', e = .returned v' ∧ Ext w.heap.size w (.slice none 0 0) w' v' (leb x) := by
  induction k with
  | zero =>
    intro x w hk hx
    have e : x = 0 := by omega
    subst e
    go_enter Tryz.func35, Tryz.ntmps35
    go_wp2_with (fail)
    go_ret
    exact ⟨_, rfl, Ext.lit0 w.heap.size w _ (leb 0) 1 (Nat.le_refl _) rfl rfl (by decide)⟩
  | succ k ih =>
    intro x w hk hx
    by_cases hs : x < 128
    · have hi : (x : Int) < 128 := by omega
      go_enter Tryz.func35, Tryz.ntmps35
      go_wp2_with (fail)
      go_ret
      refine ⟨_, rfl, Ext.lit0 w.heap.size w _ (leb x) 1 (Nat.le_refl _) ?_ (by rw [leb_small x hs]; rfl) (by decide)⟩
      rw [leb_small x hs]
      simp [bc]
      try omega
    · have hi : ¬ (x : Int) < 128 := by omega
      have IH : Hid (∀ wx : World, Calls Tryz.prog 35 #[.int .u64 ((x : Int) / 128)] wx fun e w' => ∃ v', e = .returned v' ∧ Ext wx.heap.size wx (.slice none 0 0) w' v' (leb (x / 128))) := fun wx => by
        have := ih (x / 128) wx (by omega) (by omega)
        rwa [show ((x / 128 : Nat) : Int) = (x : Int) / 128 from by omega] at this
      have HL : Hid (leb x = UInt8.ofNat (x % 128 + 128) :: leb (x / 128)) := leb_great x hs
      have hp := leb_pos (x / 128)
      have hm := leb_len64 (x / 128) (by omega)
      obtain ⟨c, hc⟩ : ∃ c : UInt8, c = UInt8.ofNat (x % 128 + 128) := ⟨_, rfl⟩
      have LC : Hid ((#[.int .u8 ((x : Int) % 128 + 128)] : Array Value).toList = bc [c]) := by
        show _ = _
        have : (c.toNat : Int) = (x : Int) % 128 + 128 := by rw [hc, more_toNat]; omega
        simp [bc, this]
      have L0 := Ext.lit0 w.heap.size w #[.int .u8 ((x : Int) % 128 + 128)] [c] 1 (Nat.le_refl _) LC.out rfl (by decide)
      have hne : leb (x / 128) ≠ [] := by intro e; rw [e] at hp; simp at hp
      have rm : [c].length + (leb (x / 128)).length ≤ 140737488355328 := by rw [List.length_singleton]; omega
      rw [HL.out, ← hc]
      clear ih hc HL
      go_enter Tryz.func35, Tryz.ntmps35
      go_wp2_with (first
        | (go_at_call 35; refine (IH.out _).mono ?_; rintro e w1 ⟨v1, rfl, hx1⟩; obtain ⟨g1, cap1, rfl⟩ := hx1.some hne; have R0 := L0.beside hx1; have nw := own_cells hx1.own; have hb1 : w.heap.size ≤ w1.heap.size := R0.size; clear L0)
        | (at_builtin; refine wpList_append_bytes _ rfl _ _ rfl w.heap.size _ [c] (leb (x / 128)) rfl R0.own ⟨g1, 0, none⟩ _ cap1 rfl rfl nw hp rm hb1 ?_; intro g2 cap2 L2 w2 HL2 hx2 hl2; have R := R0.trans hx2; clear R0 hx1 hx2 nw))
      go_ret
      exact ⟨_, rfl, R⟩

set_option maxHeartbeats 800000 in
theorem refAppend_any (w : World) (a0 : Option Addr) (c0 : Nat) (l : List UInt8) (x : Nat) (h : BytesIn w (.slice a0 l.length c0) l) (hn : a0 = none → c0 = 0) (hx : x < 18446744073709551616) (hlen : l.length ≤ 140737488351232) :
    Calls Tryz.prog 33 #[.slice a0 l.length c0, .int .u64 (x : Int)] w fun e w' => ∃ v', e = .returned v' ∧ Ext w.heap.size w (.slice none 0 0) w' v' (l ++ leb x) := by
  have L0 := Ext.lit0 w.heap.size w #[] [] 0 (Nat.le_refl _) rfl rfl (by decide)
  have K0 : Below w.heap.size w (w.alloc (.cells #[] 5)) := (Below.refl _ _).alloc (Nat.le_refl _) _
  have V0 := h.later K0
  have hl := h.len
  have hp := leb_pos x
  have hm := leb_len64 x hx
  have hne : leb x ≠ [] := by intro e; rw [e] at hp; simp at hp
  have rm : l.length + (leb x).length ≤ 140737488355328 := by omega
  have BY : Hid (∀ wx : World, Calls Tryz.prog 35 #[.int .u64 (x : Int)] wx fun e w' => ∃ v', e = .returned v' ∧ Ext wx.heap.size wx (.slice none 0 0) w' v' (leb x)) := fun wx => refBytes_any x x wx (Nat.le_refl _) hx
  clear h
  go_enter Tryz.func33, Tryz.ntmps33
  go_wp2_with (first
    | (at_builtin; refine wpList_copy_bytes _ rfl _ _ rfl w.heap.size w.heap.size l l.length c0 rfl rfl L0.own a0 rfl V0 hn hl K0.size ?_; intro g1 cap1 L1 w1 HL1 hx1; have R := L0.trans hx1; clear L0 hx1 V0 K0)
    | (go_at_call 35; refine (BY.out _).mono ?_; rintro e w2 ⟨v2, rfl, hx2⟩; obtain ⟨g2, cap2, rfl⟩ := hx2.some hne; have R2 := R.beside hx2; have nw := own_cells hx2.own; have hb2 : w.heap.size ≤ w2.heap.size := R2.size; clear R)
    | (at_builtin; refine wpList_append_bytes _ rfl _ _ rfl w.heap.size _ l (leb x) rfl R2.own ⟨g2, 0, none⟩ _ cap2 rfl rfl nw hp rm hb2 ?_; intro g3 cap3 L3 w3 HL3 hx3 hl3; have R3 := R2.trans hx3; clear R2 hx2 hx3 nw))
  go_ret
  exact ⟨_, rfl, R3⟩

theorem num_leb : ∀ (k x : Nat), x ≤ k → num (leb x) = x := by
  intro k
  induction k with
  | zero =>
    intro x h
    have e : x = 0 := by omega
    subst e
    rfl
  | succ k ih =>
    intro x h
    by_cases hs : x < 128
    · rw [leb_small x hs, num, num, low_toNat x hs]; omega
    · rw [leb_great x hs, num, more_toNat, ih (x / 128) (by omega)]; omega

theorem rd_zero (l : List UInt8) (h : (rd l).2.2 = 5) : rd l = (0, 0, 5) := by
  have key : ∀ (k j : Nat), (rdFrom l j k).2.2 = 5 → rdFrom l j k = (0, 0, 5) := by
    intro k
    induction k with
    | zero => intro j _; rfl
    | succ k ih =>
      intro j h
      rw [rdFrom] at h ⊢
      split
      · rename_i hj
        rw [dif_pos hj] at h
        split
        · rename_i h1
          rw [if_pos h1] at h
          exact ih _ h
        · rename_i h1
          rw [if_neg h1] at h
          split
          · rename_i h2
            rw [if_pos h2] at h
            simp at h
          · rfl
      · rfl
  exact key 10 0 h

/-- The number that the first n bytes bear. -/
def numN (l : List UInt8) (n : Nat) : Nat := num (l.take n) % 18446744073709551616

theorem rd_first (l : List UInt8) (n X : Nat) (hX : X < 18446744073709551616) (hn : n ≤ l.length) (h : leb X = l.take n) : rd l = (X, n, 0) := by
  have e : l = leb X ++ l.drop n := by rw [h, List.take_append_drop]
  have hl : (leb X).length = n := by rw [h, List.length_take]; omega
  rw [e, rd_back X _ hX, hl]

theorem rd_never (l : List UInt8) (h : ∀ n, 1 ≤ n → n ≤ l.length → n ≤ 10 → leb (numN l n) ≠ l.take n) : rd l = (0, 0, 5) := by
  rcases rd_err l with h0 | h0
  · obtain ⟨h1, h2⟩ := rd_made l h0
    have hl : (leb (rd l).1).length = (rd l).2.1 := by rw [← h1, List.length_take]; omega
    have hlt := rd_lt l
    have hp := leb_pos (rd l).1
    have hm := leb_len64 (rd l).1 hlt
    refine absurd ?_ (h (rd l).2.1 (by omega) h2 (by omega))
    have e : numN l (rd l).2.1 = (rd l).1 := by
      unfold numN; rw [h1, num_leb _ _ (Nat.le_refl _)]; omega
    rw [e, h1]
  · exact rd_zero l h0

theorem numN_step (l : List UInt8) (n j : Nat) (hj : j < n) (hn : n ≤ l.length) :
    num ((l.take n).drop j) = (l[j]).toNat % 128 + 128 * num ((l.take n).drop (j + 1)) := by
  have hl : j < (l.take n).length := by rw [List.length_take]; omega
  rw [List.drop_eq_getElem_cons hl, num, List.getElem_take]

end Enc
end Go.Proofs.YtolalicliojkfaaGreat
