/-
  Package lexer: what a rune is; how many bytes belong. .. and what follows from it.
-/
import Derived.Test.YtedamaccflhmfaaGreatDoorUBase
import Derived.Test.YtedamaccflhmfaaGreatDoorXA
import Derived.Lib.OthersKept
namespace Go.Proofs.YtedamaccflhmfaaGreatDoor
open Go.RowKit
attribute [local go_sem ↓] Go.wp_at_zero Go.wp_at_succ

theorem isSmall_any (w : World) (r : Int) : Calls Tryz.prog 96 #[.int .i32 r] w fun e w' => e = .returned (.bool (Lx.smR r)) ∧ w' = w := by
  by_cases h1 : 97 ≤ r <;> by_cases h2 : r ≤ 122 <;> by_cases h3 : r = 95
  all_goals
    go_enter Tryz.func96, Tryz.ntmps96
    go_wp2
    go_ret
    exact ⟨by simp [Lx.smR, *], rfl⟩
theorem isCapital_any (w : World) (r : Int) : Calls Tryz.prog 97 #[.int .i32 r] w fun e w' => e = .returned (.bool (Lx.capR r)) ∧ w' = w := by
  by_cases h1 : 65 ≤ r <;> by_cases h2 : r ≤ 90
  all_goals
    go_enter Tryz.func97, Tryz.ntmps97
    go_wp2
    go_ret
    exact ⟨by simp [Lx.capR, *], rfl⟩
theorem isDigit_any (w : World) (r : Int) : Calls Tryz.prog 58 #[.int .i32 r] w fun e w' => e = .returned (.bool (Lx.dgR r)) ∧ w' = w := by
  by_cases h1 : 48 ≤ r <;> by_cases h2 : r ≤ 57
  all_goals
    go_enter Tryz.func58, Tryz.ntmps58
    go_wp2
    go_ret
    exact ⟨by simp [Lx.dgR, *], rfl⟩
theorem isBlank_any (w : World) (r : Int) : Calls Tryz.prog 27 #[.int .i32 r] w fun e w' => e = .returned (.bool (Lx.blR r)) ∧ w' = w := by
  by_cases h1 : r = 9 <;> by_cases h2 : r = 10 <;> by_cases h3 : r = 13 <;> by_cases h4 : r = 32
  all_goals
    go_enter Tryz.func27, Tryz.ntmps27
    go_wp2
    go_ret
    exact ⟨by simp [Lx.blR, *], rfl⟩
theorem isLetter_any (w : World) (r : Int) : Calls Tryz.prog 56 #[.int .i32 r] w fun e w' => e = .returned (.bool (Lx.ltR r)) ∧ w' = w := by
  cases h1 : Lx.smR r <;> cases h2 : Lx.capR r
  all_goals
    have S := hide (fun wx => isSmall_any wx r)
    have C := hide (fun wx => isCapital_any wx r)
    have HL : Hid (Lx.ltR r = (Lx.smR r || Lx.capR r)) := rfl
    rw [h1, h2] at HL
    rw [h1] at S
    rw [h2] at C
    clear h1 h2
    go_enter Tryz.func56, Tryz.ntmps56
    go_wp2_with (first
      | (go_at_call 96; refine (S.out _).mono ?_; rintro e w' ⟨rfl, rfl⟩)
      | (go_at_call 97; refine (C.out _).mono ?_; rintro e w' ⟨rfl, rfl⟩))
    go_ret
    exact ⟨by rw [HL.out]; rfl, rfl⟩
theorem isInWord_any (w : World) (r : Int) : Calls Tryz.prog 99 #[.int .i32 r] w fun e w' => e = .returned (.bool (Lx.inwR r)) ∧ w' = w := by
  cases h1 : Lx.ltR r <;> cases h2 : Lx.dgR r
  all_goals
    have S := hide (fun wx => isLetter_any wx r)
    have C := hide (fun wx => isDigit_any wx r)
    have HL : Hid (Lx.inwR r = (Lx.ltR r || Lx.dgR r)) := rfl
    rw [h1, h2] at HL
    rw [h1] at S
    rw [h2] at C
    clear h1 h2
    go_enter Tryz.func99, Tryz.ntmps99
    go_wp2_with (first
      | (go_at_call 56; refine (S.out _).mono ?_; rintro e w' ⟨rfl, rfl⟩)
      | (go_at_call 58; refine (C.out _).mono ?_; rintro e w' ⟨rfl, rfl⟩))
    go_ret
    exact ⟨by rw [HL.out]; rfl, rfl⟩
end Go.Proofs.YtedamaccflhmfaaGreatDoor
namespace Go.Proofs.YtedamaccflhmfaaGreatDoor
open Go.RowKit
attribute [local go_sem ↓] Go.wp_at_zero Go.wp_at_succ

theorem iterPos_at {w : World} {k : Nat} {s : ByteArray} {p : Nat} (h : w.heap[k]? = some (.stringIter s p)) : w.iterPos k = p := by simp [World.iterPos, h]
theorem l_size (s : ByteArray) : s.data.toList.length = s.size := by rw [Array.length_toList]; rfl

set_option maxHeartbeats 1600000 in
theorem widthWord_any (w : World) (s : ByteArray) (_hs : s.size ≤ maxLen) : Calls Tryz.prog 98 #[.string s, .func (.func 99) #[] #[]] w fun e w' => e = .returned (.int .i64 (Lx.wordW s.data.toList)) ∧ Below w.heap.size w w' := by
  unfold maxLen at _hs
  have PR := hide (fun wx r => isInWord_any wx r)
  obtain ⟨N, hN⟩ : ∃ N, N = Lx.wordW s.data.toList := ⟨_, rfl⟩
  rw [← hN]
  have HN : Hid (N = (s.data.toList.takeWhile Lx.inw).length) := hN
  clear hN
  go_enter Tryz.func98, Tryz.ntmps98
  go_wp2
  go_loopw [] (fun wr => ∃ pos : Nat, pos ≤ s.size ∧ wr.heap[w.heap.size]? = some (.stringIter s pos) ∧ Below w.heap.size w wr ∧ Hid ((s.data.toList.takeWhile Lx.inw).length = pos + ((s.data.toList.drop pos).takeWhile Lx.inw).length)) (fun wr => s.size - wr.iterPos w.heap.size)
  case atStart => exact ⟨0, Nat.zero_le _, World.iter_heap w s 0, (Below.refl _ _).alloc (Nat.le_refl _) _, by show _ = _; simp⟩
  case round =>
    obtain ⟨pos, hp, hit, hb, HW⟩ := hrel
    have hpos0 := iterPos_at hit
    by_cases hlt : pos < s.size
    · have hnx : ∀ ty, (Instr.next (.pointer (some ⟨w.heap.size, 0, none⟩)) true ty).run Tryz.prog wr = _ := fun ty => Lib.run_next_any_at wr w.heap.size s pos ty hit hlt
      have hit2 := Lib.iterAt_heap wr w.heap.size s pos (pos + (Utf8.decode s pos).2) hit
      have hb2 := Lib.below_iterAt hb (k := w.heap.size) (Nat.le_refl _) s (pos + (Utf8.decode s pos).2)
      have hin := Lx.decode_in s pos hlt
      have hps := Lx.decode_pos s pos hlt
      have hpr := hide (Lx.rune_pred Lx.inwR_c Lx.inwR_hi s pos hlt)
      obtain ⟨W1, hW1⟩ : ∃ W1, W1 = wr.iterAt w.heap.size s (pos + (Utf8.decode s pos).2) := ⟨_, rfl⟩
      rw [← hW1] at hnx hit2 hb2
      clear hW1 hb hit
      obtain ⟨d, hd⟩ : ∃ d, d = (Utf8.decode s pos).2 := ⟨_, rfl⟩
      rw [← hd] at hit2 hin hps
      obtain ⟨r, hr⟩ : ∃ r : Int, r = ((Utf8.decode s pos).1 : Nat) := ⟨_, rfl⟩
      rw [← hr] at hnx hpr
      cases hB : Lx.inw (s[pos]'hlt)
      · have PF : Hid (Lx.inwR r = false) := hpr.out.trans hB
        have HE : Hid (N = pos) := HN.out.trans (Lx.tw_stop Lx.inw s pos hlt hB HW.out)
        clear hpr hB hd hr HN HW
        go_wp2_with (go_at_call 99; refine (PR.out _ _).mono ?_; rintro e w' ⟨rfl, rfl⟩; rw [PF.out])
        go_ret
        exact ⟨by rw [HE.out]; rfl, hb2⟩
      · have PF : Hid (Lx.inwR r = true) := hpr.out.trans hB
        have hd1 : d = 1 := hd.trans (Lx.small_one Lx.inw_lo s pos hlt hB)
        subst hd1
        have HW2 := hide (Lx.tw_go Lx.inw s pos hlt hB HW.out)
        clear hpr hB hd hr HN HW
        go_wp2_with (go_at_call 99; refine (PR.out _ _).mono ?_; rintro e w' ⟨rfl, rfl⟩; rw [PF.out])
        go_roundw
        case rel => exact ⟨pos + 1, hin, hit2, hb2, HW2⟩
        case measure => rw [iterPos_at hit2, hpos0]; omega
    · have hnx : ∀ ty, (Instr.next (.pointer (some ⟨w.heap.size, 0, none⟩)) true ty).run Tryz.prog wr = _ := fun ty => Lib.run_next_end_at wr w.heap.size s pos ty hit hlt
      have HE : Hid (N = s.size) := HN.out.trans (Lx.tw_end Lx.inw s pos hlt hp HW.out)
      clear HN HW
      go_wp2
      go_ret
      exact ⟨by rw [HE.out]; rfl, hb⟩

set_option maxHeartbeats 1600000 in
theorem widthNum_any (w : World) (s : ByteArray) (_hs : s.size ≤ maxLen) : Calls Tryz.prog 98 #[.string s, .func (.func 58) #[] #[]] w fun e w' => e = .returned (.int .i64 (Lx.numW s.data.toList)) ∧ Below w.heap.size w w' := by
  unfold maxLen at _hs
  have PR := hide (fun wx r => isDigit_any wx r)
  obtain ⟨N, hN⟩ : ∃ N, N = Lx.numW s.data.toList := ⟨_, rfl⟩
  rw [← hN]
  have HN : Hid (N = (s.data.toList.takeWhile Lx.dg).length) := hN
  clear hN
  go_enter Tryz.func98, Tryz.ntmps98
  go_wp2
  go_loopw [] (fun wr => ∃ pos : Nat, pos ≤ s.size ∧ wr.heap[w.heap.size]? = some (.stringIter s pos) ∧ Below w.heap.size w wr ∧ Hid ((s.data.toList.takeWhile Lx.dg).length = pos + ((s.data.toList.drop pos).takeWhile Lx.dg).length)) (fun wr => s.size - wr.iterPos w.heap.size)
  case atStart => exact ⟨0, Nat.zero_le _, World.iter_heap w s 0, (Below.refl _ _).alloc (Nat.le_refl _) _, by show _ = _; simp⟩
  case round =>
    obtain ⟨pos, hp, hit, hb, HW⟩ := hrel
    have hpos0 := iterPos_at hit
    by_cases hlt : pos < s.size
    · have hnx : ∀ ty, (Instr.next (.pointer (some ⟨w.heap.size, 0, none⟩)) true ty).run Tryz.prog wr = _ := fun ty => Lib.run_next_any_at wr w.heap.size s pos ty hit hlt
      have hit2 := Lib.iterAt_heap wr w.heap.size s pos (pos + (Utf8.decode s pos).2) hit
      have hb2 := Lib.below_iterAt hb (k := w.heap.size) (Nat.le_refl _) s (pos + (Utf8.decode s pos).2)
      have hin := Lx.decode_in s pos hlt
      have hps := Lx.decode_pos s pos hlt
      have hpr := hide (Lx.rune_pred Lx.dgR_c Lx.dgR_hi s pos hlt)
      obtain ⟨W1, hW1⟩ : ∃ W1, W1 = wr.iterAt w.heap.size s (pos + (Utf8.decode s pos).2) := ⟨_, rfl⟩
      rw [← hW1] at hnx hit2 hb2
      clear hW1 hb hit
      obtain ⟨d, hd⟩ : ∃ d, d = (Utf8.decode s pos).2 := ⟨_, rfl⟩
      rw [← hd] at hit2 hin hps
      obtain ⟨r, hr⟩ : ∃ r : Int, r = ((Utf8.decode s pos).1 : Nat) := ⟨_, rfl⟩
      rw [← hr] at hnx hpr
      cases hB : Lx.dg (s[pos]'hlt)
      · have PF : Hid (Lx.dgR r = false) := hpr.out.trans hB
        have HE : Hid (N = pos) := HN.out.trans (Lx.tw_stop Lx.dg s pos hlt hB HW.out)
        clear hpr hB hd hr HN HW
        go_wp2_with (go_at_call 58; refine (PR.out _ _).mono ?_; rintro e w' ⟨rfl, rfl⟩; rw [PF.out])
        go_ret
        exact ⟨by rw [HE.out]; rfl, hb2⟩
      · have PF : Hid (Lx.dgR r = true) := hpr.out.trans hB
        have hd1 : d = 1 := hd.trans (Lx.small_one Lx.dg_lo s pos hlt hB)
        subst hd1
        have HW2 := hide (Lx.tw_go Lx.dg s pos hlt hB HW.out)
        clear hpr hB hd hr HN HW
        go_wp2_with (go_at_call 58; refine (PR.out _ _).mono ?_; rintro e w' ⟨rfl, rfl⟩; rw [PF.out])
        go_roundw
        case rel => exact ⟨pos + 1, hin, hit2, hb2, HW2⟩
        case measure => rw [iterPos_at hit2, hpos0]; omega
    · have hnx : ∀ ty, (Instr.next (.pointer (some ⟨w.heap.size, 0, none⟩)) true ty).run Tryz.prog wr = _ := fun ty => Lib.run_next_end_at wr w.heap.size s pos ty hit hlt
      have HE : Hid (N = s.size) := HN.out.trans (Lx.tw_end Lx.dg s pos hlt hp HW.out)
      clear HN HW
      go_wp2
      go_ret
      exact ⟨by rw [HE.out]; rfl, hb⟩
end Go.Proofs.YtedamaccflhmfaaGreatDoor
namespace Go.Proofs.YtedamaccflhmfaaGreatDoor
open Go.RowKit
attribute [local go_sem ↓] Go.wp_at_zero Go.wp_at_succ

set_option maxHeartbeats 1600000 in
theorem widthText_any (w : World) (s : ByteArray) (_hs : s.size ≤ maxLen) : Calls Tryz.prog 102 #[.string s] w fun e w' => e = .returned (.int .i64 (Lx.wt false s.data.toList 0)) ∧ Below w.heap.size w w' := by
  unfold maxLen at _hs
  obtain ⟨N, hN⟩ : ∃ N, N = Lx.wt false s.data.toList 0 := ⟨_, rfl⟩
  rw [← hN]
  have HN : Hid (N = Lx.wt false s.data.toList 0) := hN
  clear hN
  go_enter Tryz.func102, Tryz.ntmps102
  go_wp2
  go_loopw [3] (fun o wr => ∃ (pos : Nat) (op : Bool), o = .bool op ∧ pos ≤ s.size ∧ wr.heap[w.heap.size]? = some (.stringIter s pos) ∧ Below w.heap.size w wr ∧ Hid (N = Lx.wt op (s.data.toList.drop pos) pos)) (fun _ wr => s.size - wr.iterPos w.heap.size)
  case atStart => exact ⟨0, false, rfl, Nat.zero_le _, World.iter_heap w s 0, (Below.refl _ _).alloc (Nat.le_refl _) _, HN⟩
  case round =>
    obtain ⟨pos, op, rfl, hp, hit, hb, HW⟩ := hrel
    clear HN
    have hpos0 := iterPos_at hit
    by_cases hlt : pos < s.size
    · have hnx : ∀ ty, (Instr.next (.pointer (some ⟨w.heap.size, 0, none⟩)) true ty).run Tryz.prog wr = _ := fun ty => Lib.run_next_any_at wr w.heap.size s pos ty hit hlt
      have hit2 := Lib.iterAt_heap wr w.heap.size s pos (pos + (Utf8.decode s pos).2) hit
      have hb2 := Lib.below_iterAt hb (k := w.heap.size) (Nat.le_refl _) s (pos + (Utf8.decode s pos).2)
      have hin := Lx.decode_in s pos hlt
      have hps := Lx.decode_pos s pos hlt
      obtain ⟨W1, hW1⟩ : ∃ W1, W1 = wr.iterAt w.heap.size s (pos + (Utf8.decode s pos).2) := ⟨_, rfl⟩
      rw [← hW1] at hnx hit2 hb2
      clear hW1 hb hit
      by_cases h39 : (Utf8.decode s pos).1 = 39
      · have hr1 : ((Utf8.decode s pos).1 : Int) = 39 := by rw [h39]; rfl
        have HW2 := hide (HW.out.trans (Lx.wt_rune39 s pos op hlt h39))
        obtain ⟨d, hd⟩ : ∃ d, d = (Utf8.decode s pos).2 := ⟨_, rfl⟩
        rw [← hd] at hit2 hin hps HW2
        rw [hr1] at hnx
        clear hr1 h39 HW hd
        cases op
        all_goals
          go_wp2
          go_roundw
          case rel => exact ⟨pos + d, _, rfl, hin, hit2, hb2, HW2⟩
          case measure => rw [iterPos_at hit2, hpos0]; omega
      · cases op
        · have HE := hide (HW.out.trans (Lx.wt_out s pos hlt h39))
          have hr1 : ¬ ((Utf8.decode s pos).1 : Int) = 39 := by omega
          obtain ⟨r, hr⟩ : ∃ r : Int, r = ((Utf8.decode s pos).1 : Nat) := ⟨_, rfl⟩
          rw [← hr] at hnx hr1
          clear HW h39 hr hit2 hin hps
          go_wp2
          go_ret
          exact ⟨by rw [HE.out]; rfl, hb2⟩
        · have HW2 := hide (HW.out.trans (Lx.wt_rune s pos hlt h39))
          have hr1 : ¬ ((Utf8.decode s pos).1 : Int) = 39 := by omega
          obtain ⟨r, hr⟩ : ∃ r : Int, r = ((Utf8.decode s pos).1 : Nat) := ⟨_, rfl⟩
          rw [← hr] at hnx hr1
          obtain ⟨d, hd⟩ : ∃ d, d = (Utf8.decode s pos).2 := ⟨_, rfl⟩
          rw [← hd] at hit2 hin hps HW2
          clear h39 HW hd hr
          go_wp2
          go_roundw
          case rel => exact ⟨pos + d, _, rfl, hin, hit2, hb2, HW2⟩
          case measure => rw [iterPos_at hit2, hpos0]; omega
    · have hnx : ∀ ty, (Instr.next (.pointer (some ⟨w.heap.size, 0, none⟩)) true ty).run Tryz.prog wr = _ := fun ty => Lib.run_next_end_at wr w.heap.size s pos ty hit hlt
      have HE := hide (HW.out.trans (Lx.wt_nil s pos op hlt))
      have hpe : pos = s.size := by omega
      rw [hpe] at HE
      clear HW hpe
      cases op
      all_goals
        go_wp2
        go_ret
        exact ⟨by rw [HE.out]; rfl, hb⟩

/-- What the digits are: the number, and the error. -/
def digV (l : List UInt8) : Nat := (Lx.numG l 0).getD 0
def digE (l : List UInt8) : Int := if (Lx.numG l 0).isSome then 0 else 233

set_option maxHeartbeats 1600000 in
theorem numberOf_any (w : World) (s : ByteArray) (_hs : s.size ≤ maxLen) (hd : ∀ c ∈ s.data.toList, Lx.dg c = true) : Calls Tryz.prog 101 #[.string s] w fun e w' => e = .returned (.tuple #[.int .u64 (digV s.data.toList), .int .i64 (digE s.data.toList)]) ∧ Below w.heap.size w w' := by
  unfold maxLen at _hs
  obtain ⟨V, hV⟩ : ∃ V, V = digV s.data.toList := ⟨_, rfl⟩
  obtain ⟨E, hE⟩ : ∃ E, E = digE s.data.toList := ⟨_, rfl⟩
  rw [← hV, ← hE]
  obtain ⟨N, hN⟩ : ∃ N, N = Lx.numG s.data.toList 0 := ⟨_, rfl⟩
  have HV : Hid (V = N.getD 0) := by rw [hN]; exact hV
  have HEE : Hid (E = if N.isSome then 0 else 233) := by rw [hN]; exact hE
  have HN : Hid (N = Lx.numG s.data.toList 0) := hN
  have HD := hide hd
  clear hN hd hV hE
  go_enter Tryz.func101, Tryz.ntmps101
  go_wp2
  go_loopw [4] (fun o wr => ∃ (pos m : Nat), o = .int .u64 m ∧ m ≤ 9223372036854775808 ∧ pos ≤ s.size ∧ wr.heap[w.heap.size]? = some (.stringIter s pos) ∧ Below w.heap.size w wr ∧ Hid (N = Lx.numG (s.data.toList.drop pos) m)) (fun _ wr => s.size - wr.iterPos w.heap.size)
  case atStart => exact ⟨0, 0, rfl, by omega, Nat.zero_le _, World.iter_heap w s 0, (Below.refl _ _).alloc (Nat.le_refl _) _, HN⟩
  case round =>
    obtain ⟨pos, m, rfl, hm, hp, hit, hb, HW⟩ := hrel
    clear HN
    have hpos0 := iterPos_at hit
    by_cases hlt : pos < s.size
    · have hnx : ∀ ty, (Instr.next (.pointer (some ⟨w.heap.size, 0, none⟩)) true ty).run Tryz.prog wr = _ := fun ty => Lib.run_next_any_at wr w.heap.size s pos ty hit hlt
      have hit2 := Lib.iterAt_heap wr w.heap.size s pos (pos + (Utf8.decode s pos).2) hit
      have hb2 := Lib.below_iterAt hb (k := w.heap.size) (Nat.le_refl _) s (pos + (Utf8.decode s pos).2)
      have hin := Lx.decode_in s pos hlt
      have hps := Lx.decode_pos s pos hlt
      obtain ⟨W1, hW1⟩ : ∃ W1, W1 = wr.iterAt w.heap.size s (pos + (Utf8.decode s pos).2) := ⟨_, rfl⟩
      rw [← hW1] at hnx hit2 hb2
      clear hW1 hb hit
      have hc : Lx.dg (s[pos]'hlt) = true := HD.out _ (by rw [show s[pos]'hlt = s.data.toList[pos]'(by rw [l_size]; exact hlt) from rfl]; exact List.getElem_mem _)
      obtain ⟨e1, h48, h57, HG⟩ := Lx.num_at s pos m hlt hc
      have HG := hide (HW.out.trans HG)
      rw [e1] at hnx hit2 hin
      simp only at hnx hit2 hin
      obtain ⟨c, hcc⟩ : ∃ c, c = (s[pos]'hlt).toNat := ⟨_, rfl⟩
      rw [← hcc] at hnx h48 h57 HG
      obtain ⟨d, rfl⟩ : ∃ d, c = d + 48 := ⟨c - 48, by omega⟩
      rw [show d + 48 - 48 = d from by omega] at HG
      clear e1 hc hcc HW HD
      have hd9 : d ≤ 9 := by omega
      have hw1 : ((d + 48 : Nat) : Int) - 48 = (d : Int) := by omega
      by_cases hq : (9223372036854775808 - d) / 10 < m
      · have HX := hide (HG.out.trans (if_pos hq))
        have hq1 : (9223372036854775808 - (d : Int)) / 10 < (m : Int) := by omega
        clear hq HG hit2 hin
        go_wp2
        go_ret2
        exact ⟨by rw [HV.out, HEE.out, HX.out]; rfl, hb2⟩
      · have HX := hide (HG.out.trans (if_neg hq))
        have hq1 : ¬ (9223372036854775808 - (d : Int)) / 10 < (m : Int) := by omega
        have hm2 : 10 * m + d ≤ 9223372036854775808 := by omega
        clear hq HG
        go_wp2
        go_roundw
        case rel => exact ⟨pos + 1, 10 * m + d, by go_num, hm2, hin, hit2, hb2, HX⟩
        case measure => rw [iterPos_at hit2, hpos0]; omega
    · have hnx : ∀ ty, (Instr.next (.pointer (some ⟨w.heap.size, 0, none⟩)) true ty).run Tryz.prog wr = _ := fun ty => Lib.run_next_end_at wr w.heap.size s pos ty hit hlt
      have HE := hide (HW.out.trans (Lx.num_end s pos m hlt))
      clear HW
      go_wp2
      go_ret2
      exact ⟨by rw [HV.out, HEE.out, HE.out]; rfl, hb⟩
end Go.Proofs.YtedamaccflhmfaaGreatDoor
namespace Go.Proofs.YtedamaccflhmfaaGreatDoor
open Go.RowKit
attribute [local go_sem ↓] Go.wp_at_zero Go.wp_at_succ

theorem nil_of (s : ByteArray) (h : s.size = 0) : s = ⟨#[]⟩ := by
  apply ByteArray.ext
  exact Array.eq_empty_of_size_eq_zero h
theorem wdA_go (s : ByteArray) (pos : Nat) (f : Bool) (h : pos < s.size) (hc : (Lx.sm (s[pos]'h) || (!f && Lx.dg (s[pos]'h))) = true) : Lx.wdA f (s.data.toList.drop pos) = Lx.wdA false (s.data.toList.drop (pos + 1)) := by
  rw [Lx.drop_at s pos h, Lx.wdA, hc, Bool.true_and]
theorem wdA_no (s : ByteArray) (pos : Nat) (f : Bool) (h : pos < s.size) (hc : (Lx.sm (s[pos]'h) || (!f && Lx.dg (s[pos]'h))) = false) : Lx.wdA f (s.data.toList.drop pos) = false := by
  rw [Lx.drop_at s pos h, Lx.wdA, hc, Bool.false_and]
theorem wdA_end (s : ByteArray) (pos : Nat) (f : Bool) (h : ¬ pos < s.size) : Lx.wdA f (s.data.toList.drop pos) = true := by
  rw [List.drop_eq_nil_of_le (by rw [Array.length_toList]; show s.size ≤ pos; omega)]; rfl

set_option maxHeartbeats 3200000 in
theorem isWord_any (w : World) (s : ByteArray) (hs : s.size ≤ maxLen) : Calls Tryz.prog 117 #[.string s] w fun e w' => e = .returned (.bool (Lx.isWd s.data.toList)) ∧ Below w.heap.size w w' := by
  unfold maxLen at hs
  obtain ⟨N, hN⟩ : ∃ N, N = Lx.isWd s.data.toList := ⟨_, rfl⟩
  rw [← hN]
  have HN : Hid (N = (Lx.wdA true s.data.toList && (!s.data.toList.isEmpty && decide (s.data.toList.length ≤ 32)))) := by show _ = _; rw [hN]; exact Lx.isWd_is _
  clear hN
  obtain ⟨B, hB⟩ : ∃ B, B = Lx.wdA true s.data.toList := ⟨_, rfl⟩
  have HB : Hid (B = Lx.wdA true s.data.toList) := hB
  rw [← hB, l_size] at HN
  clear hB
  have S := hide (fun wx r => isSmall_any wx r)
  have D := hide (fun wx r => isDigit_any wx r)
  go_enter Tryz.func117, Tryz.ntmps117
  go_wp2
  go_loopw [] (fun wr => ∃ (pos : Nat), pos ≤ s.size ∧ wr.heap[w.heap.size]? = some (.stringIter s pos) ∧ Below w.heap.size w wr ∧ Hid (B = Lx.wdA (decide (pos = 0)) (s.data.toList.drop pos))) (fun wr => s.size - wr.iterPos w.heap.size)
  case atStart => exact ⟨0, Nat.zero_le _, World.iter_heap w s 0, (Below.refl _ _).alloc (Nat.le_refl _) _, HB⟩
  case round =>
    obtain ⟨pos, hp, hit, hb, HW⟩ := hrel
    clear HB
    have hpos0 := iterPos_at hit
    by_cases hlt : pos < s.size
    · have hnx : ∀ ty, (Instr.next (.pointer (some ⟨w.heap.size, 0, none⟩)) true ty).run Tryz.prog wr = _ := fun ty => Lib.run_next_any_at wr w.heap.size s pos ty hit hlt
      have hit2 := Lib.iterAt_heap wr w.heap.size s pos (pos + (Utf8.decode s pos).2) hit
      have hb2 := Lib.below_iterAt hb (k := w.heap.size) (Nat.le_refl _) s (pos + (Utf8.decode s pos).2)
      have hin := Lx.decode_in s pos hlt
      have hps := Lx.decode_pos s pos hlt
      obtain ⟨W1, hW1⟩ : ∃ W1, W1 = wr.iterAt w.heap.size s (pos + (Utf8.decode s pos).2) := ⟨_, rfl⟩
      rw [← hW1] at hnx hit2 hb2
      clear hW1 hb hit
      have hsm := hide (Lx.rune_pred Lx.smR_c Lx.smR_hi s pos hlt)
      have hdg := hide (Lx.rune_pred Lx.dgR_c Lx.dgR_hi s pos hlt)
      obtain ⟨d, hd⟩ : ∃ d, d = (Utf8.decode s pos).2 := ⟨_, rfl⟩
      rw [← hd] at hit2 hin hps
      obtain ⟨r, hr⟩ : ∃ r : Int, r = ((Utf8.decode s pos).1 : Nat) := ⟨_, rfl⟩
      rw [← hr] at hnx hsm hdg
      clear hr
      cases h1 : Lx.sm (s[pos]'hlt)
      · have P1 : Hid (Lx.smR r = false) := hsm.out.trans h1
        by_cases h0 : pos = 0
        · have HE := hide (HW.out.trans (wdA_no s pos _ hlt (by rw [h1]; simp [h0])))
          subst h0
          clear HW hsm hdg h1 hd
          go_wp2_with (go_at_call 96; refine (S.out _ _).mono ?_; rintro e w' ⟨rfl, rfl⟩; rw [P1.out])
          go_ret
          exact ⟨by rw [HN.out, HE.out]; rfl, hb2⟩
        · cases h2 : Lx.dg (s[pos]'hlt)
          · have P2 : Hid (Lx.dgR r = false) := hdg.out.trans h2
            have HE := hide (HW.out.trans (wdA_no s pos _ hlt (by rw [h1, h2]; simp)))
            have h0i : ¬ (pos : Int) = 0 := by omega
            clear HW hsm hdg h1 hd h2 h0
            go_wp2_with (first | (go_at_call 96; refine (S.out _ _).mono ?_; rintro e w' ⟨rfl, rfl⟩; rw [P1.out]) | (go_at_call 58; refine (D.out _ _).mono ?_; rintro e w' ⟨rfl, rfl⟩; rw [P2.out]))
            go_ret
            exact ⟨by rw [HN.out, HE.out]; rfl, hb2⟩
          · have P2 : Hid (Lx.dgR r = true) := hdg.out.trans h2
            have hd1 : d = 1 := hd.trans (Lx.small_one Lx.dg_lo s pos hlt h2)
            subst hd1
            have HE := hide (HW.out.trans (wdA_go s pos _ hlt (by rw [h1, h2]; simp [h0])))
            have h0i : ¬ (pos : Int) = 0 := by omega
            clear HW hsm hdg h1 hd h2 h0
            go_wp2_with (first | (go_at_call 96; refine (S.out _ _).mono ?_; rintro e w' ⟨rfl, rfl⟩; rw [P1.out]) | (go_at_call 58; refine (D.out _ _).mono ?_; rintro e w' ⟨rfl, rfl⟩; rw [P2.out]))
            go_roundw
            case rel => exact ⟨pos + 1, hin, hit2, hb2, HE⟩
            case measure => rw [iterPos_at hit2, hpos0]; omega
      · have P1 : Hid (Lx.smR r = true) := hsm.out.trans h1
        have hd1 : d = 1 := hd.trans (Lx.small_one Lx.sm_lo s pos hlt h1)
        subst hd1
        have HE := hide (HW.out.trans (wdA_go s pos _ hlt (by rw [h1]; rfl)))
        clear HW hsm hdg h1 hd
        go_wp2_with (go_at_call 96; refine (S.out _ _).mono ?_; rintro e w' ⟨rfl, rfl⟩; rw [P1.out])
        go_roundw
        case rel => exact ⟨pos + 1, hin, hit2, hb2, HE⟩
        case measure => rw [iterPos_at hit2, hpos0]; omega
    · have hnx : ∀ ty, (Instr.next (.pointer (some ⟨w.heap.size, 0, none⟩)) true ty).run Tryz.prog wr = _ := fun ty => Lib.run_next_end_at wr w.heap.size s pos ty hit hlt
      have HE := hide (HW.out.trans (wdA_end s pos _ hlt))
      clear HW
      by_cases h0 : s.size = 0
      · obtain rfl := nil_of s h0
        have hrr : Hid (N = false) := by show _ = _; rw [HN.out, HE.out]; rfl
        clear h0 HN
        go_wp2
        go_ret
        exact ⟨by rw [hrr.out]; rfl, hb⟩
      · have hne : s.toList.isEmpty = false := by
          rw [ByteArray.toList_eq]
          cases hl : s.data.toList with
          | nil => have := l_size s; rw [hl] at this; exact absurd this.symm h0
          | cons c r => rfl
        have hem : s.data.toList.isEmpty = false := by
          cases hl : s.data.toList with
          | nil => have := l_size s; rw [hl] at this; exact absurd this.symm h0
          | cons c r => rfl
        rw [hem, HE.out] at HN
        by_cases h32 : s.size ≤ 32
        · have hrr : Hid (N = true) := by show _ = _; rw [HN.out]; simp [h32]
          have h32b : (s.size : Int) ≤ 32 := by omega
          clear HN hem
          go_wp2
          go_ret
          exact ⟨by rw [hrr.out]; rfl, hb⟩
        · have hrr : Hid (N = false) := by show _ = _; rw [HN.out]; simp [h32]
          have h32b : ¬ (s.size : Int) ≤ 32 := by omega
          clear HN hem
          go_wp2
          go_ret
          exact ⟨by rw [hrr.out]; rfl, hb⟩
end Go.Proofs.YtedamaccflhmfaaGreatDoor
namespace Go.Proofs.YtedamaccflhmfaaGreatDoor
open Go.RowKit
attribute [local go_sem ↓] Go.wp_at_zero Go.wp_at_succ

theorem b_both {b : Bool} (h1 : b = true) (h2 : b = false) : False := by rw [h1] at h2; cases h2
theorem elem_no {l : List UInt8} {x : List UInt8} {r : List (List UInt8)} (h : (l == x) = false) : (x :: r).contains l = r.contains l := by
  rw [List.contains_cons, h, Bool.false_or]
theorem elem_nil (l : List UInt8) : ([] : List (List UInt8)).contains l = false := rfl

set_option maxHeartbeats 3200000 in
theorem isSign_any (w : World) (s : ByteArray) : Calls Tryz.prog 106 #[.string s] w fun e w' => e = .returned (.bool (Lx.isS s.data.toList)) ∧ w' = w := by
  obtain ⟨N, hN⟩ : ∃ N, N = Lx.isS s.data.toList := ⟨_, rfl⟩
  rw [← hN]
  have HN : Hid (N = Lx.signs.contains s.toList) := by rw [ByteArray.toList_eq]; exact hN
  clear hN
  go_enter Tryz.func106, Tryz.ntmps106
  go_wp2
  all_goals go_ret
  all_goals refine ⟨?_, rfl⟩
  all_goals first
    | (rename_i a b; exact (b_both a b).elim)
    | (rename_i a b; rw [HN.out, eq_of_beq b]; rfl)
    | (rw [HN.out, Lx.signs]; simp only [elem_no, elem_nil, *]; rfl)

/-- The reserved words. -/
def resL : List (List UInt8) := [[97,110,100], [97,115], [97,115,99], [98,101,103,105,110], [98,111,111,108], [98,121], [99,111,109,109,105,116], [99,111,117,110,116], [99,114,101,97,116,101], [100,101,108,101,116,101], [100,101,115,99], [102,97,108,115,101], [102,114,111,109], [103,114,111,117,112], [105,110,100,101,120], [105,110,115,101,114,116], [105,110,116], [105,110,116,111], [105,115], [106,111,105,110], [107,101,121], [108,105,109,105,116], [109,97,120], [109,105,110], [110,111,116], [110,117,108,108], [111,110], [111,114], [111,114,100,101,114], [112,114,105,109,97,114,121], [114,111,108,108,98,97,99,107], [115,97,118,101,112,111,105,110,116], [115,101,108,101,99,116], [115,101,116], [115,117,109], [116,97,98,108,101], [116,101,120,116], [116,111], [116,114,117,101], [117,110,105,113,117,101], [117,112,100,97,116,101], [118,97,108,117,101,115], [119,104,101,114,101]]

set_option maxRecDepth 10000 in
set_option maxHeartbeats 16000000 in
theorem reserved_any (w : World) (s : ByteArray) : Calls Tryz.prog 136 #[.string s] w fun e w' => e = .returned (.bool (resL.contains s.data.toList)) ∧ w' = w := by
  obtain ⟨N, hN⟩ : ∃ N, N = resL.contains s.data.toList := ⟨_, rfl⟩
  rw [← hN]
  have HN : Hid (N = resL.contains s.toList) := by rw [ByteArray.toList_eq]; exact hN
  clear hN
  go_enter Tryz.func136, Tryz.ntmps136
  go_wp2
  all_goals go_ret
  all_goals refine ⟨?_, rfl⟩
  all_goals first
    | (rename_i a b; exact (b_both a b).elim)
    | (rename_i a b; rw [HN.out, eq_of_beq b]; rfl)
    | (rw [HN.out, resL]; simp only [elem_no, elem_nil, *]; rfl)
end Go.Proofs.YtedamaccflhmfaaGreatDoor
