/-
  The inner function that puts a text's bytes, a 255 behind each 0, and the end 0 1 behind a list of bytes: what it does to a list that the call owns.
-/
import Derived.Test.YtbcbdaaaglkjhaaHigh
namespace Go.Proofs.Ytbcbdaaaglkjhaa
open Go.RowKit

/-- A text's bytes, a 255 behind each 0. -/
def esc (s : List UInt8) : List UInt8 := s.flatMap fun c => if c = 0 then [0, 255] else [c]
theorem esc_append (s t : List UInt8) : esc (s ++ t) = esc s ++ esc t := by simp [esc]
theorem esc_zero : esc [0] = [0, 255] := rfl
theorem esc_one (c : UInt8) (h : c ≠ 0) : esc [c] = [c] := by simp [esc, h]
theorem esc_length (s : List UInt8) : (esc s).length ≤ 2 * s.length := by
  induction s with
  | nil => simp [esc]
  | cons c s ih =>
    have : esc (c :: s) = esc [c] ++ esc s := esc_append [c] s
    rw [this, List.length_append]
    by_cases h : c = 0
    · subst h; simp [esc_zero]; omega
    · rw [esc_one c h]; simp; omega
theorem take_snoc (s : ByteArray) (k : Nat) (h : k < s.size) : s.data.toList.take (k + 1) = s.data.toList.take k ++ [s[k]] := by
  rw [List.take_succ_eq_append_getElem (by simpa using h)]; rfl

set_option maxHeartbeats 800000 in
theorem appendText_any (w : World) (base : Nat) (v : Value) (l : List UInt8) (s : ByteArray)
    (hown : w.ownsRow base 5 1 v l.length (bc l)) (hbase : base ≤ w.heap.size) (hlen : l.length ≤ 1000000) (hsz : s.size ≤ 1000) :
    Calls Try.prog 63 #[v, .string s] w fun e w' => ∃ v', e = .returned v' ∧ Ext base w v w' v' (l ++ esc s.data.toList ++ [0, 1]) := by
  obtain ⟨i0, hi, hz0, hz1, hz2⟩ := info_parts Try.info5
  have hst := Ext.start hown
  clear hown
  go_enter Try.func63, Try.ntmps63
  go_wp2
  go_loopw [0, 8] (fun b i wr => ∃ (j : Nat) (m : List UInt8), j ≤ s.size ∧ i = .int .i64 j ∧ Ext base w v wr b m ∧ m = l ++ esc (s.data.toList.take j)) (fun _ i _ => s.size - (intOf i).toNat)
  case atStart => exact ⟨0, l, Nat.zero_le _, rfl, hst, by simp [esc]⟩
  case round =>
    obtain ⟨j, m, hj, rfl, hext, hm⟩ := hrel
    have hl : m.length ≤ 1002000 := by
      have h1 := esc_length (s.data.toList.take j)
      have h2 : (s.data.toList.take j).length ≤ j := List.length_take_le _ _
      rw [hm]; simp only [List.length_append]; omega
    have HM : Hid (m = l ++ esc (s.data.toList.take j)) := hm
    clear hm
    have hs := hext.size
    by_cases hlt : j < s.size
    · have hts : Hid (s.data.toList.take (j + 1) = s.data.toList.take j ++ [s[j]]) := take_snoc s j hlt
      by_cases hzz : s[j] = 0
      · have hb : ((s[j].toNat : Int) == 0) = true := by rw [hzz]; rfl
        have HZ : Hid (s[j] = 0) := hzz
        clear hzz
        go_wp2_with (at_builtin; refine wpList_append_lies _ rfl (.tmp 11) (.tmp 15) 22 rfl base 5 i0 (.int .u8 0) 1 1 Try.underlying22 hi hz0 hz1 hz2 rfl (by decide) _ _ _ rfl (hext.own.alloc _) ⟨wr.heap.size, 0, none⟩ 1 1 (bc [s[j]]) rfl rfl (cell_one_new _ _ _) (bc_one _) (by decide) ?c3 ?c4 ?c5 _ rfl ?_)
        case c3 => unfold maxLen; omega
        case c4 => omega
        case c5 => simp; omega
        · intro g cap w1 hown1 hgrow1 hat1 hlt1
          have R := hext.push (m := [s[j]]) rfl rfl hown1 hgrow1 (by simpa using hat1)
          have hs1 := R.size
          clear hown1 hgrow1 hat1 hlt1 hext hst hs
          have hown2 : w1.ownsRow base 5 1 (.slice (some ⟨g, 0, none⟩) (m.length + 1) cap) (m.length + 1) (bc (m ++ [s[j]])) := by simpa using R.own
          go_wp2_with (at_builtin; refine wpList_append_lies _ rfl (.tmp 21) (.tmp 22) 22 rfl base 5 i0 (.int .u8 0) 1 1 Try.underlying22 hi hz0 hz1 hz2 rfl (by decide) _ _ _ rfl (hown2.alloc _) ⟨w1.heap.size, 0, none⟩ 1 1 (bc [255]) rfl rfl (cell_one_new _ _ _) (bc_one _) (by decide) ?d3 ?d4 ?d5 _ rfl ?_)
          case d3 => unfold maxLen; omega
          case d4 => omega
          case d5 => simp; omega
          · intro g2 cap2 w2 hown3 hgrow3 hat3 hlt3
            have R3 := R.push (m := [255]) (n := m.length + 1 + 1) rfl (by simp) hown3 hgrow3 (by simpa using hat3)
            have HR : Hid (m ++ [s[j]] ++ [255] = l ++ esc (s.data.toList.take (j + 1))) := by
              show _ = _
              rw [HM.out, hts.out, esc_append, HZ.out, esc_zero]; simp
            clear hown3 hgrow3 hat3 hlt3 R hs1 hown2
            go_wp2
            go_roundw
            case rel => exact ⟨j + 1, _, by omega, by go_num, R3, HR.out⟩
            case measure => simp [intOf]; omega
      · have hb : ((s[j].toNat : Int) == 0) = false := by
          rw [beq_eq_false_iff_ne]; intro h; apply hzz; apply UInt8.toNat_inj.mp; simpa using h
        have HZ : Hid (¬ s[j] = 0) := hzz
        clear hzz
        go_wp2_with (at_builtin; refine wpList_append_lies _ rfl (.tmp 11) (.tmp 15) 22 rfl base 5 i0 (.int .u8 0) 1 1 Try.underlying22 hi hz0 hz1 hz2 rfl (by decide) _ _ _ rfl (hext.own.alloc _) ⟨wr.heap.size, 0, none⟩ 1 1 (bc [s[j]]) rfl rfl (cell_one_new _ _ _) (bc_one _) (by decide) ?e3 ?e4 ?e5 _ rfl ?_)
        case e3 => unfold maxLen; omega
        case e4 => omega
        case e5 => simp; omega
        · intro g cap w1 hown1 hgrow1 hat1 hlt1
          have R := hext.push (m := [s[j]]) rfl rfl hown1 hgrow1 (by simpa using hat1)
          have HR : Hid (m ++ [s[j]] = l ++ esc (s.data.toList.take (j + 1))) := by
            show _ = _
            rw [HM.out, hts.out, esc_append, esc_one _ HZ.out]; simp
          clear hown1 hgrow1 hat1 hlt1 hext hst hs
          go_wp2
          go_roundw
          case rel => exact ⟨j + 1, _, by omega, by go_num, R, HR.out⟩
          case measure => simp [intOf]; omega
    · go_wp2_with (at_builtin; refine wpList_append_lies _ rfl (.tmp 25) (.tmp 26) 22 rfl base 5 i0 (.int .u8 0) 1 1 Try.underlying22 hi hz0 hz1 hz2 rfl (by decide) _ _ _ rfl (hext.own.alloc _) ⟨wr.heap.size, 0, none⟩ 2 2 (bc [0, 1]) rfl rfl ?f2 (bc_one _) (by decide) ?f3 ?f4 ?f5 _ rfl ?_)
      case f2 => exact World.news_of_block (cs := #[.int .u8 0, .int .u8 1]) (heap_alloc_new _ _)
      case f3 => unfold maxLen; omega
      case f4 => omega
      case f5 => simp; omega
      · intro g cap w1 hown1 hgrow1 hat1 hlt1
        have R := hext.push (m := [0, 1]) rfl rfl hown1 hgrow1 (by simpa using hat1)
        have e : j = s.size := by omega
        have HR : Hid (m ++ [0, 1] = l ++ esc s.data.toList ++ [0, 1]) := by
          show _ = _
          rw [HM.out, List.take_of_length_le (by simp; omega)]
        rw [HR.out] at R
        clear hown1 hgrow1 hat1 hlt1 hext hst hs
        go_wp2
        go_ret
        exact ⟨_, rfl, R⟩
end Go.Proofs.Ytbcbdaaaglkjhaa
