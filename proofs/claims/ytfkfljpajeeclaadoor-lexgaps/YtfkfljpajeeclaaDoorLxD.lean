/-
  Package lexer: whether a word may be; whether a text is a sign.
-/
import Derived.Test.YtfkfljpajeeclaaDoorLxC
namespace Go.Proofs.YtfkfljpajeeclaaDoor
open Go.RowKit
attribute [local go_sem ↓] Go.wp_at_zero Go.wp_at_succ

theorem nil_of (s : ByteArray) (h : s.size = 0) : s = ⟨#[]⟩ := by
  apply ByteArray.ext
  exact Array.eq_empty_of_size_eq_zero h
theorem wdA_go (s : ByteArray) (pos : Nat) (f : Bool) (h : pos < s.size) (hc : (Lx.sm (s[pos]'h) || (!f && Lx.dg (s[pos]'h))) = true) : Lx.wdA f (s.data.toList.drop pos) = Lx.wdA false (s.data.toList.drop (pos + 1)) := by
  rw [Lx.drop_at s pos h, Lx.wdA, hc, Bool.true_and]
theorem wdA_no (s : ByteArray) (pos : Nat) (f : Bool) (h : pos < s.size) (hc : (Lx.sm (s[pos]'h) || (!f && Lx.dg (s[pos]'h))) = false) : Lx.wdA f (s.data.toList.drop pos) = false := by
  rw [Lx.drop_at s pos h, Lx.wdA, hc, Bool.false_and]
theorem wdA_end (s : ByteArray) (pos : Nat) (f : Bool) (h : ¬ pos < s.size) : Lx.wdA f (s.data.toList.drop pos) = true := by
  rw [List.drop_eq_nil_of_le (by rw [Array.length_toList]; show s.size ≤ pos; omega)]; rfl

set_option maxHeartbeats 3200000 in
theorem isWord_any (w : World) (s : ByteArray) (hs : s.size ≤ maxLen) : Calls Tryd.prog 40 #[.string s] w fun e w' => e = .returned (.bool (Lx.isWd s.data.toList)) ∧ Below w.heap.size w w' := by
  unfold maxLen at hs
  obtain ⟨N, hN⟩ : ∃ N, N = Lx.isWd s.data.toList := ⟨_, rfl⟩
  rw [← hN]
  have HN : Hid (N = (Lx.wdA true s.data.toList && (!s.data.toList.isEmpty && decide (s.data.toList.length ≤ 32)))) := by show _ = _; rw [hN]; exact Lx.isWd_is _
  clear hN
  obtain ⟨B, hB⟩ : ∃ B, B = Lx.wdA true s.data.toList := ⟨_, rfl⟩
  have HB : Hid (B = Lx.wdA true s.data.toList) := hB
  rw [← hB, l_size] at HN
  clear hB
  have S := hide (fun wx r => isSmall_any wx r)
  have D := hide (fun wx r => isDigit_any wx r)
  go_enter Tryd.func40, Tryd.ntmps40
  go_wp2
  go_loopw [] (fun wr => ∃ (pos : Nat), pos ≤ s.size ∧ wr.heap[w.heap.size]? = some (.stringIter s pos) ∧ Below w.heap.size w wr ∧ Hid (B = Lx.wdA (decide (pos = 0)) (s.data.toList.drop pos))) (fun wr => s.size - wr.iterPos w.heap.size)
  case atStart => exact ⟨0, Nat.zero_le _, World.iter_heap w s 0, (Below.refl _ _).alloc (Nat.le_refl _) _, HB⟩
  case round =>
    obtain ⟨pos, hp, hit, hb, HW⟩ := hrel
    clear HB
    have hpos0 := iterPos_at hit
    by_cases hlt : pos < s.size
    · have hnx : ∀ ty, (Instr.next (.pointer (some ⟨w.heap.size, 0, none⟩)) true ty).run Tryd.prog wr = _ := fun ty => Lib.run_next_any_at wr w.heap.size s pos ty hit hlt
      have hit2 := Lib.iterAt_heap wr w.heap.size s pos (pos + (Utf8.decode s pos).2) hit
      have hb2 := Lib.below_iterAt hb (k := w.heap.size) (Nat.le_refl _) s (pos + (Utf8.decode s pos).2)
      have hin := Lx.decode_in s pos hlt
      have hps := Lx.decode_pos s pos hlt
      obtain ⟨W1, hW1⟩ : ∃ W1, W1 = wr.iterAt w.heap.size s (pos + (Utf8.decode s pos).2) := ⟨_, rfl⟩
      rw [← hW1] at hnx hit2 hb2
      clear hW1 hb hit
      have hsm := hide (Lx.rune_pred Lx.smR_c Lx.smR_hi s pos hlt)
      have hdg := hide (Lx.rune_pred Lx.dgR_c Lx.dgR_hi s pos hlt)
      obtain ⟨d, hd⟩ : ∃ d, d = (Utf8.decode s pos).2 := ⟨_, rfl⟩
      rw [← hd] at hit2 hin hps
      obtain ⟨r, hr⟩ : ∃ r : Int, r = ((Utf8.decode s pos).1 : Nat) := ⟨_, rfl⟩
      rw [← hr] at hnx hsm hdg
      clear hr
      cases h1 : Lx.sm (s[pos]'hlt)
      · have P1 : Hid (Lx.smR r = false) := hsm.out.trans h1
        by_cases h0 : pos = 0
        · have HE := hide (HW.out.trans (wdA_no s pos _ hlt (by rw [h1]; simp [h0])))
          subst h0
          clear HW hsm hdg h1 hd
          go_wp2_with (go_at_call 60; refine (S.out _ _).mono ?_; rintro e w' ⟨rfl, rfl⟩; rw [P1.out])
          go_ret
          exact ⟨by rw [HN.out, HE.out]; rfl, hb2⟩
        · cases h2 : Lx.dg (s[pos]'hlt)
          · have P2 : Hid (Lx.dgR r = false) := hdg.out.trans h2
            have HE := hide (HW.out.trans (wdA_no s pos _ hlt (by rw [h1, h2]; simp)))
            have h0i : ¬ (pos : Int) = 0 := by omega
            clear HW hsm hdg h1 hd h2 h0
            go_wp2_with (first | (go_at_call 60; refine (S.out _ _).mono ?_; rintro e w' ⟨rfl, rfl⟩; rw [P1.out]) | (go_at_call 36; refine (D.out _ _).mono ?_; rintro e w' ⟨rfl, rfl⟩; rw [P2.out]))
            go_ret
            exact ⟨by rw [HN.out, HE.out]; rfl, hb2⟩
          · have P2 : Hid (Lx.dgR r = true) := hdg.out.trans h2
            have hd1 : d = 1 := hd.trans (Lx.small_one Lx.dg_lo s pos hlt h2)
            subst hd1
            have HE := hide (HW.out.trans (wdA_go s pos _ hlt (by rw [h1, h2]; simp [h0])))
            have h0i : ¬ (pos : Int) = 0 := by omega
            clear HW hsm hdg h1 hd h2 h0
            go_wp2_with (first | (go_at_call 60; refine (S.out _ _).mono ?_; rintro e w' ⟨rfl, rfl⟩; rw [P1.out]) | (go_at_call 36; refine (D.out _ _).mono ?_; rintro e w' ⟨rfl, rfl⟩; rw [P2.out]))
            go_roundw
            case rel => exact ⟨pos + 1, hin, hit2, hb2, HE⟩
            case measure => rw [iterPos_at hit2, hpos0]; omega
      · have P1 : Hid (Lx.smR r = true) := hsm.out.trans h1
        have hd1 : d = 1 := hd.trans (Lx.small_one Lx.sm_lo s pos hlt h1)
        subst hd1
        have HE := hide (HW.out.trans (wdA_go s pos _ hlt (by rw [h1]; rfl)))
        clear HW hsm hdg h1 hd
        go_wp2_with (go_at_call 60; refine (S.out _ _).mono ?_; rintro e w' ⟨rfl, rfl⟩; rw [P1.out])
        go_roundw
        case rel => exact ⟨pos + 1, hin, hit2, hb2, HE⟩
        case measure => rw [iterPos_at hit2, hpos0]; omega
    · have hnx : ∀ ty, (Instr.next (.pointer (some ⟨w.heap.size, 0, none⟩)) true ty).run Tryd.prog wr = _ := fun ty => Lib.run_next_end_at wr w.heap.size s pos ty hit hlt
      have HE := hide (HW.out.trans (wdA_end s pos _ hlt))
      clear HW
      by_cases h0 : s.size = 0
      · obtain rfl := nil_of s h0
        have hrr : Hid (N = false) := by show _ = _; rw [HN.out, HE.out]; rfl
        clear h0 HN
        go_wp2
        go_ret
        exact ⟨by rw [hrr.out]; rfl, hb⟩
      · have hne : s.toList.isEmpty = false := by
          rw [ByteArray.toList_eq]
          cases hl : s.data.toList with
          | nil => have := l_size s; rw [hl] at this; exact absurd this.symm h0
          | cons c r => rfl
        have hem : s.data.toList.isEmpty = false := by
          cases hl : s.data.toList with
          | nil => have := l_size s; rw [hl] at this; exact absurd this.symm h0
          | cons c r => rfl
        rw [hem, HE.out] at HN
        by_cases h32 : s.size ≤ 32
        · have hrr : Hid (N = true) := by show _ = _; rw [HN.out]; simp [h32]
          have h32b : (s.size : Int) ≤ 32 := by omega
          clear HN hem
          go_wp2
          go_ret
          exact ⟨by rw [hrr.out]; rfl, hb⟩
        · have hrr : Hid (N = false) := by show _ = _; rw [HN.out]; simp [h32]
          have h32b : ¬ (s.size : Int) ≤ 32 := by omega
          clear HN hem
          go_wp2
          go_ret
          exact ⟨by rw [hrr.out]; rfl, hb⟩
end Go.Proofs.YtfkfljpajeeclaaDoor
