/-
  The inner function that puts the lowest bytes of a number, the highest first, behind a list of bytes: what it does to a list that the call owns.
-/
import Derived.Test.YtbcbdaaaglkjhaaProg
import Derived.Test.YtbcbdaaaglkjhaaBase
namespace Go.Proofs.Ytbcbdaaaglkjhaa
open Go.RowKit

theorem Try.info5 : (Try.prog.info? 5).map (fun i => (i.zero, i.size, i.bytes)) = some (some (.int .u8 0), 1, 1) := by kernel_rfl

set_option maxHeartbeats 400000 in
theorem appendHigh_any (w : World) (base : Nat) (v : Value) (l : List UInt8) (x k : Nat) (hk : k ≤ 8)
    (hown : w.ownsRow base 5 1 v l.length (bc l)) (hbase : base ≤ w.heap.size) (hlen : l.length ≤ 1000000) :
    Calls Try.prog 46 #[v, .int .u64 (x : Int), .int .i64 k] w fun e w' => ∃ v', e = .returned v' ∧ Ext base w v w' v' (l ++ high x k) := by
  obtain ⟨i0, hi, hz0, hz1, hz2⟩ := info_parts Try.info5
  have hst := Ext.start hown
  clear hown
  go_enter Try.func46, Try.ntmps46
  go_wp2
  go_loopw [0, 9] (fun b i wr => ∃ (j : Nat) (m : List UInt8), j ≤ k ∧ i = .int .i64 j ∧ Ext base w v wr b m ∧ m = l ++ (high x k).take j) (fun _ i _ => k - (intOf i).toNat)
  case atStart => exact ⟨0, l, Nat.zero_le _, rfl, hst, by simp⟩
  case round =>
    obtain ⟨j, m, hj, rfl, hext, hm⟩ := hrel
    have hl : m.length ≤ 1000008 := by have := List.length_take_le j (high x k); rw [hm]; simp only [List.length_append]; omega
    have HM : Hid (m = l ++ (high x k).take j) := hm
    clear hm
    by_cases hlt : j < k
    · have hs := hext.size
      go_wp2_with (at_builtin; refine wpList_append_lies _ rfl (.tmp 12) (.tmp 21) 22 rfl base 5 i0 (.int .u8 0) 1 1 Try.underlying22 hi hz0 hz1 hz2 rfl (by decide) _ _ _ rfl (hext.own.alloc _) ⟨wr.heap.size, 0, none⟩ 1 1 [.int .u8 ((x : Int) / 2 ^ (8 * (k - 1 - j)) % 256)] rfl rfl (cell_one_new _ _ _) ?c2 (by decide) ?c3 ?c4 ?c5 _ rfl ?_)
      case c2 => intro u hu; simp at hu; subst hu; rfl
      case c3 => unfold maxLen; omega
      case c4 => omega
      case c5 => simp; omega
      · intro g cap w1 hown1 hgrow1 hat1 hlt1
        have R := hext.push (m := [UInt8.ofNat (x / 2 ^ (8 * (k - 1 - j)))]) rfl rfl (by simp only [bc, List.map_cons, List.map_nil, ofNat_cell_div]; exact hown1) hgrow1 (by simpa using hat1)
        have R2 : m ++ [UInt8.ofNat (x / 2 ^ (8 * (k - 1 - j)))] = l ++ (high x k).take (j + 1) := by rw [HM.out, high_take_succ x k j hlt, ← List.append_assoc]
        have HR2 : Hid (m ++ [UInt8.ofNat (x / 2 ^ (8 * (k - 1 - j)))] = l ++ (high x k).take (j + 1)) := R2
        clear hown1 hgrow1 hat1 hlt1 hext hst hs R2
        go_wp2
        go_roundw
        case rel => exact ⟨j + 1, _, by omega, by go_num, R, HR2.out⟩
        case measure => simp [intOf]; omega
    · go_wp2
      go_ret
      have e : j = k := by omega
      have hm := HM.out
      subst e
      rw [List.take_of_length_le (by rw [high_length]; exact Nat.le_refl _)] at hm
      subst hm
      exact ⟨_, rfl, hext⟩
end Go.Proofs.Ytbcbdaaaglkjhaa
