/-
  Package lexer: how many bytes of a text belong to its first word, number, text.
-/
import Derived.Test.YtfkfljpajeeclaaDoorLxA
namespace Go.Proofs.YtfkfljpajeeclaaDoor
open Go.RowKit
attribute [local go_sem ↓] Go.wp_at_zero Go.wp_at_succ

theorem iterPos_at {w : World} {k : Nat} {s : ByteArray} {p : Nat} (h : w.heap[k]? = some (.stringIter s p)) : w.iterPos k = p := by simp [World.iterPos, h]
theorem l_size (s : ByteArray) : s.data.toList.length = s.size := by rw [Array.length_toList]; rfl

set_option maxHeartbeats 1600000 in
theorem widthWord_any (w : World) (s : ByteArray) (_hs : s.size ≤ maxLen) : Calls Tryd.prog 62 #[.string s, .func (.func 63) #[] #[]] w fun e w' => e = .returned (.int .i64 (Lx.wordW s.data.toList)) ∧ Below w.heap.size w w' := by
  unfold maxLen at _hs
  have PR := hide (fun wx r => isInWord_any wx r)
  obtain ⟨N, hN⟩ : ∃ N, N = Lx.wordW s.data.toList := ⟨_, rfl⟩
  rw [← hN]
  have HN : Hid (N = (s.data.toList.takeWhile Lx.inw).length) := hN
  clear hN
  go_enter Tryd.func62, Tryd.ntmps62
  go_wp2
  go_loopw [] (fun wr => ∃ pos : Nat, pos ≤ s.size ∧ wr.heap[w.heap.size]? = some (.stringIter s pos) ∧ Below w.heap.size w wr ∧ Hid ((s.data.toList.takeWhile Lx.inw).length = pos + ((s.data.toList.drop pos).takeWhile Lx.inw).length)) (fun wr => s.size - wr.iterPos w.heap.size)
  case atStart => exact ⟨0, Nat.zero_le _, World.iter_heap w s 0, (Below.refl _ _).alloc (Nat.le_refl _) _, by show _ = _; simp⟩
  case round =>
    obtain ⟨pos, hp, hit, hb, HW⟩ := hrel
    have hpos0 := iterPos_at hit
    by_cases hlt : pos < s.size
    · have hnx : ∀ ty, (Instr.next (.pointer (some ⟨w.heap.size, 0, none⟩)) true ty).run Tryd.prog wr = _ := fun ty => Lib.run_next_any_at wr w.heap.size s pos ty hit hlt
      have hit2 := Lib.iterAt_heap wr w.heap.size s pos (pos + (Utf8.decode s pos).2) hit
      have hb2 := Lib.below_iterAt hb (k := w.heap.size) (Nat.le_refl _) s (pos + (Utf8.decode s pos).2)
      have hin := Lx.decode_in s pos hlt
      have hps := Lx.decode_pos s pos hlt
      have hpr := hide (Lx.rune_pred Lx.inwR_c Lx.inwR_hi s pos hlt)
      obtain ⟨W1, hW1⟩ : ∃ W1, W1 = wr.iterAt w.heap.size s (pos + (Utf8.decode s pos).2) := ⟨_, rfl⟩
      rw [← hW1] at hnx hit2 hb2
      clear hW1 hb hit
      obtain ⟨d, hd⟩ : ∃ d, d = (Utf8.decode s pos).2 := ⟨_, rfl⟩
      rw [← hd] at hit2 hin hps
      obtain ⟨r, hr⟩ : ∃ r : Int, r = ((Utf8.decode s pos).1 : Nat) := ⟨_, rfl⟩
      rw [← hr] at hnx hpr
      cases hB : Lx.inw (s[pos]'hlt)
      · have PF : Hid (Lx.inwR r = false) := hpr.out.trans hB
        have HE : Hid (N = pos) := HN.out.trans (Lx.tw_stop Lx.inw s pos hlt hB HW.out)
        clear hpr hB hd hr HN HW
        go_wp2_with (go_at_call 63; refine (PR.out _ _).mono ?_; rintro e w' ⟨rfl, rfl⟩; rw [PF.out])
        go_ret
        exact ⟨by rw [HE.out]; rfl, hb2⟩
      · have PF : Hid (Lx.inwR r = true) := hpr.out.trans hB
        have hd1 : d = 1 := hd.trans (Lx.small_one Lx.inw_lo s pos hlt hB)
        subst hd1
        have HW2 := hide (Lx.tw_go Lx.inw s pos hlt hB HW.out)
        clear hpr hB hd hr HN HW
        go_wp2_with (go_at_call 63; refine (PR.out _ _).mono ?_; rintro e w' ⟨rfl, rfl⟩; rw [PF.out])
        go_roundw
        case rel => exact ⟨pos + 1, hin, hit2, hb2, HW2⟩
        case measure => rw [iterPos_at hit2, hpos0]; omega
    · have hnx : ∀ ty, (Instr.next (.pointer (some ⟨w.heap.size, 0, none⟩)) true ty).run Tryd.prog wr = _ := fun ty => Lib.run_next_end_at wr w.heap.size s pos ty hit hlt
      have HE : Hid (N = s.size) := HN.out.trans (Lx.tw_end Lx.inw s pos hlt hp HW.out)
      clear HN HW
      go_wp2
      go_ret
      exact ⟨by rw [HE.out]; rfl, hb⟩

set_option maxHeartbeats 1600000 in
theorem widthNum_any (w : World) (s : ByteArray) (_hs : s.size ≤ maxLen) : Calls Tryd.prog 62 #[.string s, .func (.func 36) #[] #[]] w fun e w' => e = .returned (.int .i64 (Lx.numW s.data.toList)) ∧ Below w.heap.size w w' := by
  unfold maxLen at _hs
  have PR := hide (fun wx r => isDigit_any wx r)
  obtain ⟨N, hN⟩ : ∃ N, N = Lx.numW s.data.toList := ⟨_, rfl⟩
  rw [← hN]
  have HN : Hid (N = (s.data.toList.takeWhile Lx.dg).length) := hN
  clear hN
  go_enter Tryd.func62, Tryd.ntmps62
  go_wp2
  go_loopw [] (fun wr => ∃ pos : Nat, pos ≤ s.size ∧ wr.heap[w.heap.size]? = some (.stringIter s pos) ∧ Below w.heap.size w wr ∧ Hid ((s.data.toList.takeWhile Lx.dg).length = pos + ((s.data.toList.drop pos).takeWhile Lx.dg).length)) (fun wr => s.size - wr.iterPos w.heap.size)
  case atStart => exact ⟨0, Nat.zero_le _, World.iter_heap w s 0, (Below.refl _ _).alloc (Nat.le_refl _) _, by show _ = _; simp⟩
  case round =>
    obtain ⟨pos, hp, hit, hb, HW⟩ := hrel
    have hpos0 := iterPos_at hit
    by_cases hlt : pos < s.size
    · have hnx : ∀ ty, (Instr.next (.pointer (some ⟨w.heap.size, 0, none⟩)) true ty).run Tryd.prog wr = _ := fun ty => Lib.run_next_any_at wr w.heap.size s pos ty hit hlt
      have hit2 := Lib.iterAt_heap wr w.heap.size s pos (pos + (Utf8.decode s pos).2) hit
      have hb2 := Lib.below_iterAt hb (k := w.heap.size) (Nat.le_refl _) s (pos + (Utf8.decode s pos).2)
      have hin := Lx.decode_in s pos hlt
      have hps := Lx.decode_pos s pos hlt
      have hpr := hide (Lx.rune_pred Lx.dgR_c Lx.dgR_hi s pos hlt)
      obtain ⟨W1, hW1⟩ : ∃ W1, W1 = wr.iterAt w.heap.size s (pos + (Utf8.decode s pos).2) := ⟨_, rfl⟩
      rw [← hW1] at hnx hit2 hb2
      clear hW1 hb hit
      obtain ⟨d, hd⟩ : ∃ d, d = (Utf8.decode s pos).2 := ⟨_, rfl⟩
      rw [← hd] at hit2 hin hps
      obtain ⟨r, hr⟩ : ∃ r : Int, r = ((Utf8.decode s pos).1 : Nat) := ⟨_, rfl⟩
      rw [← hr] at hnx hpr
      cases hB : Lx.dg (s[pos]'hlt)
      · have PF : Hid (Lx.dgR r = false) := hpr.out.trans hB
        have HE : Hid (N = pos) := HN.out.trans (Lx.tw_stop Lx.dg s pos hlt hB HW.out)
        clear hpr hB hd hr HN HW
        go_wp2_with (go_at_call 36; refine (PR.out _ _).mono ?_; rintro e w' ⟨rfl, rfl⟩; rw [PF.out])
        go_ret
        exact ⟨by rw [HE.out]; rfl, hb2⟩
      · have PF : Hid (Lx.dgR r = true) := hpr.out.trans hB
        have hd1 : d = 1 := hd.trans (Lx.small_one Lx.dg_lo s pos hlt hB)
        subst hd1
        have HW2 := hide (Lx.tw_go Lx.dg s pos hlt hB HW.out)
        clear hpr hB hd hr HN HW
        go_wp2_with (go_at_call 36; refine (PR.out _ _).mono ?_; rintro e w' ⟨rfl, rfl⟩; rw [PF.out])
        go_roundw
        case rel => exact ⟨pos + 1, hin, hit2, hb2, HW2⟩
        case measure => rw [iterPos_at hit2, hpos0]; omega
    · have hnx : ∀ ty, (Instr.next (.pointer (some ⟨w.heap.size, 0, none⟩)) true ty).run Tryd.prog wr = _ := fun ty => Lib.run_next_end_at wr w.heap.size s pos ty hit hlt
      have HE : Hid (N = s.size) := HN.out.trans (Lx.tw_end Lx.dg s pos hlt hp HW.out)
      clear HN HW
      go_wp2
      go_ret
      exact ⟨by rw [HE.out]; rfl, hb⟩
end Go.Proofs.YtfkfljpajeeclaaDoor
