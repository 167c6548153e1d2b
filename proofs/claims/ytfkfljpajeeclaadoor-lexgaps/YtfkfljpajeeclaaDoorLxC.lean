/-
  Package lexer: where a text ends; the number that digits are; whether a word may be.
-/
import Derived.Test.YtfkfljpajeeclaaDoorLxB
namespace Go.Proofs.YtfkfljpajeeclaaDoor
open Go.RowKit
attribute [local go_sem ↓] Go.wp_at_zero Go.wp_at_succ

set_option maxHeartbeats 1600000 in
theorem widthText_any (w : World) (s : ByteArray) (_hs : s.size ≤ maxLen) : Calls Tryd.prog 66 #[.string s] w fun e w' => e = .returned (.int .i64 (Lx.wt false s.data.toList 0)) ∧ Below w.heap.size w w' := by
  unfold maxLen at _hs
  obtain ⟨N, hN⟩ : ∃ N, N = Lx.wt false s.data.toList 0 := ⟨_, rfl⟩
  rw [← hN]
  have HN : Hid (N = Lx.wt false s.data.toList 0) := hN
  clear hN
  go_enter Tryd.func66, Tryd.ntmps66
  go_wp2
  go_loopw [3] (fun o wr => ∃ (pos : Nat) (op : Bool), o = .bool op ∧ pos ≤ s.size ∧ wr.heap[w.heap.size]? = some (.stringIter s pos) ∧ Below w.heap.size w wr ∧ Hid (N = Lx.wt op (s.data.toList.drop pos) pos)) (fun _ wr => s.size - wr.iterPos w.heap.size)
  case atStart => exact ⟨0, false, rfl, Nat.zero_le _, World.iter_heap w s 0, (Below.refl _ _).alloc (Nat.le_refl _) _, HN⟩
  case round =>
    obtain ⟨pos, op, rfl, hp, hit, hb, HW⟩ := hrel
    clear HN
    have hpos0 := iterPos_at hit
    by_cases hlt : pos < s.size
    · have hnx : ∀ ty, (Instr.next (.pointer (some ⟨w.heap.size, 0, none⟩)) true ty).run Tryd.prog wr = _ := fun ty => Lib.run_next_any_at wr w.heap.size s pos ty hit hlt
      have hit2 := Lib.iterAt_heap wr w.heap.size s pos (pos + (Utf8.decode s pos).2) hit
      have hb2 := Lib.below_iterAt hb (k := w.heap.size) (Nat.le_refl _) s (pos + (Utf8.decode s pos).2)
      have hin := Lx.decode_in s pos hlt
      have hps := Lx.decode_pos s pos hlt
      obtain ⟨W1, hW1⟩ : ∃ W1, W1 = wr.iterAt w.heap.size s (pos + (Utf8.decode s pos).2) := ⟨_, rfl⟩
      rw [← hW1] at hnx hit2 hb2
      clear hW1 hb hit
      by_cases h39 : (Utf8.decode s pos).1 = 39
      · have hr1 : ((Utf8.decode s pos).1 : Int) = 39 := by rw [h39]; rfl
        have HW2 := hide (HW.out.trans (Lx.wt_rune39 s pos op hlt h39))
        obtain ⟨d, hd⟩ : ∃ d, d = (Utf8.decode s pos).2 := ⟨_, rfl⟩
        rw [← hd] at hit2 hin hps HW2
        rw [hr1] at hnx
        clear hr1 h39 HW hd
        cases op
        all_goals
          go_wp2
          go_roundw
          case rel => exact ⟨pos + d, _, rfl, hin, hit2, hb2, HW2⟩
          case measure => rw [iterPos_at hit2, hpos0]; omega
      · cases op
        · have HE := hide (HW.out.trans (Lx.wt_out s pos hlt h39))
          have hr1 : ¬ ((Utf8.decode s pos).1 : Int) = 39 := by omega
          obtain ⟨r, hr⟩ : ∃ r : Int, r = ((Utf8.decode s pos).1 : Nat) := ⟨_, rfl⟩
          rw [← hr] at hnx hr1
          clear HW h39 hr hit2 hin hps
          go_wp2
          go_ret
          exact ⟨by rw [HE.out]; rfl, hb2⟩
        · have HW2 := hide (HW.out.trans (Lx.wt_rune s pos hlt h39))
          have hr1 : ¬ ((Utf8.decode s pos).1 : Int) = 39 := by omega
          obtain ⟨r, hr⟩ : ∃ r : Int, r = ((Utf8.decode s pos).1 : Nat) := ⟨_, rfl⟩
          rw [← hr] at hnx hr1
          obtain ⟨d, hd⟩ : ∃ d, d = (Utf8.decode s pos).2 := ⟨_, rfl⟩
          rw [← hd] at hit2 hin hps HW2
          clear h39 HW hd hr
          go_wp2
          go_roundw
          case rel => exact ⟨pos + d, _, rfl, hin, hit2, hb2, HW2⟩
          case measure => rw [iterPos_at hit2, hpos0]; omega
    · have hnx : ∀ ty, (Instr.next (.pointer (some ⟨w.heap.size, 0, none⟩)) true ty).run Tryd.prog wr = _ := fun ty => Lib.run_next_end_at wr w.heap.size s pos ty hit hlt
      have HE := hide (HW.out.trans (Lx.wt_nil s pos op hlt))
      have hpe : pos = s.size := by omega
      rw [hpe] at HE
      clear HW hpe
      cases op
      all_goals
        go_wp2
        go_ret
        exact ⟨by rw [HE.out]; rfl, hb⟩

/-- What the digits are: the number, and the error. -/
def digV (l : List UInt8) : Nat := (Lx.numG l 0).getD 0
def digE (l : List UInt8) : Int := if (Lx.numG l 0).isSome then 0 else 233

set_option maxHeartbeats 1600000 in
theorem numberOf_any (w : World) (s : ByteArray) (_hs : s.size ≤ maxLen) (hd : ∀ c ∈ s.data.toList, Lx.dg c = true) : Calls Tryd.prog 65 #[.string s] w fun e w' => e = .returned (.tuple #[.int .u64 (digV s.data.toList), .int .i64 (digE s.data.toList)]) ∧ Below w.heap.size w w' := by
  unfold maxLen at _hs
  obtain ⟨V, hV⟩ : ∃ V, V = digV s.data.toList := ⟨_, rfl⟩
  obtain ⟨E, hE⟩ : ∃ E, E = digE s.data.toList := ⟨_, rfl⟩
  rw [← hV, ← hE]
  obtain ⟨N, hN⟩ : ∃ N, N = Lx.numG s.data.toList 0 := ⟨_, rfl⟩
  have HV : Hid (V = N.getD 0) := by rw [hN]; exact hV
  have HEE : Hid (E = if N.isSome then 0 else 233) := by rw [hN]; exact hE
  have HN : Hid (N = Lx.numG s.data.toList 0) := hN
  have HD := hide hd
  clear hN hd hV hE
  go_enter Tryd.func65, Tryd.ntmps65
  go_wp2
  go_loopw [4] (fun o wr => ∃ (pos m : Nat), o = .int .u64 m ∧ m ≤ 9223372036854775808 ∧ pos ≤ s.size ∧ wr.heap[w.heap.size]? = some (.stringIter s pos) ∧ Below w.heap.size w wr ∧ Hid (N = Lx.numG (s.data.toList.drop pos) m)) (fun _ wr => s.size - wr.iterPos w.heap.size)
  case atStart => exact ⟨0, 0, rfl, by omega, Nat.zero_le _, World.iter_heap w s 0, (Below.refl _ _).alloc (Nat.le_refl _) _, HN⟩
  case round =>
    obtain ⟨pos, m, rfl, hm, hp, hit, hb, HW⟩ := hrel
    clear HN
    have hpos0 := iterPos_at hit
    by_cases hlt : pos < s.size
    · have hnx : ∀ ty, (Instr.next (.pointer (some ⟨w.heap.size, 0, none⟩)) true ty).run Tryd.prog wr = _ := fun ty => Lib.run_next_any_at wr w.heap.size s pos ty hit hlt
      have hit2 := Lib.iterAt_heap wr w.heap.size s pos (pos + (Utf8.decode s pos).2) hit
      have hb2 := Lib.below_iterAt hb (k := w.heap.size) (Nat.le_refl _) s (pos + (Utf8.decode s pos).2)
      have hin := Lx.decode_in s pos hlt
      have hps := Lx.decode_pos s pos hlt
      obtain ⟨W1, hW1⟩ : ∃ W1, W1 = wr.iterAt w.heap.size s (pos + (Utf8.decode s pos).2) := ⟨_, rfl⟩
      rw [← hW1] at hnx hit2 hb2
      clear hW1 hb hit
      have hc : Lx.dg (s[pos]'hlt) = true := HD.out _ (by rw [show s[pos]'hlt = s.data.toList[pos]'(by rw [l_size]; exact hlt) from rfl]; exact List.getElem_mem _)
      obtain ⟨e1, h48, h57, HG⟩ := Lx.num_at s pos m hlt hc
      have HG := hide (HW.out.trans HG)
      rw [e1] at hnx hit2 hin
      simp only at hnx hit2 hin
      obtain ⟨c, hcc⟩ : ∃ c, c = (s[pos]'hlt).toNat := ⟨_, rfl⟩
      rw [← hcc] at hnx h48 h57 HG
      obtain ⟨d, rfl⟩ : ∃ d, c = d + 48 := ⟨c - 48, by omega⟩
      rw [show d + 48 - 48 = d from by omega] at HG
      clear e1 hc hcc HW HD
      have hd9 : d ≤ 9 := by omega
      have hw1 : ((d + 48 : Nat) : Int) - 48 = (d : Int) := by omega
      by_cases hq : (9223372036854775808 - d) / 10 < m
      · have HX := hide (HG.out.trans (if_pos hq))
        have hq1 : (9223372036854775808 - (d : Int)) / 10 < (m : Int) := by omega
        clear hq HG hit2 hin
        go_wp2
        go_ret2
        exact ⟨by rw [HV.out, HEE.out, HX.out]; rfl, hb2⟩
      · have HX := hide (HG.out.trans (if_neg hq))
        have hq1 : ¬ (9223372036854775808 - (d : Int)) / 10 < (m : Int) := by omega
        have hm2 : 10 * m + d ≤ 9223372036854775808 := by omega
        clear hq HG
        go_wp2
        go_roundw
        case rel => exact ⟨pos + 1, 10 * m + d, by go_num, hm2, hin, hit2, hb2, HX⟩
        case measure => rw [iterPos_at hit2, hpos0]; omega
    · have hnx : ∀ ty, (Instr.next (.pointer (some ⟨w.heap.size, 0, none⟩)) true ty).run Tryd.prog wr = _ := fun ty => Lib.run_next_end_at wr w.heap.size s pos ty hit hlt
      have HE := hide (HW.out.trans (Lx.num_end s pos m hlt))
      clear HW
      go_wp2
      go_ret2
      exact ⟨by rw [HV.out, HEE.out, HE.out]; rfl, hb⟩
end Go.Proofs.YtfkfljpajeeclaaDoor
