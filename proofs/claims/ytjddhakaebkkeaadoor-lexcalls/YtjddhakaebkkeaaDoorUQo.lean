/-
  Package stagepostref12: a text between apostrophes.
-/
import Derived.Test.YtjddhakaebkkeaaDoorByB
import Derived.Test.YtjddhakaebkkeaaDoorURep
import Derived.Lib.SmallJoins
namespace Go.Proofs.YtjddhakaebkkeaaDoor
open Go.RowKit
attribute [local go_sem ↓] Go.wp_at_zero Go.wp_at_succ

theorem twice_app (a b : List UInt8) : twiceL (a ++ b) = twiceL a ++ twiceL b := by simp [twiceL]
theorem twice_next (l : List UInt8) (j : Nat) (h : j < l.length) : twiceL (l.take (j + 1)) = twiceL (l.take j) ++ (if l[j] = 39 then [39, 39] else [l[j]]) := by
  rw [List.take_succ_eq_append_getElem h, twice_app]
  simp [twiceL]
theorem new_cell (w : World) (x : Value) (t : TypeId) : (w.alloc (.cells #[x] t)).cell? ⟨w.heap.size, 0, none⟩ = some x := by
  rw [Joins.cell_of_block (heap_alloc_new w _) 0]; rfl

set_option maxRecDepth 10000 in
set_option maxHeartbeats 3200000 in
theorem rquoted_any (w : World) (s : ByteArray) (hs : s.size ≤ 1000000) : Calls Tryd.prog 42 #[.string s] w fun e w' => e = .returned (.string ⟨(39 :: (twiceL s.data.toList ++ [39])).toArray⟩) ∧ Below w.heap.size w w' := by
  have hls : s.data.toList.length = s.size := by rw [Array.length_toList]; rfl
  have B0 : Bys w.heap.size w (w.alloc (.cells #[.int .u8 39] 5)) (.slice (some ⟨w.heap.size, 0, none⟩) 1 1) [39] := Bys.lit (Below.refl _ _) (Nat.le_refl _) _ [39] 1 rfl rfl (by decide)
  go_enter Tryd.func42, Tryd.ntmps42
  go_wp2
  go_loopw [3, 4] (fun v i wr => ∃ j : Nat, i = .int .i64 j ∧ j ≤ s.size ∧ Hid (Bys w.heap.size w wr v (39 :: twiceL (s.data.toList.take j)))) (fun _ i _ => s.size - (intOf i).toNat)
  case atStart => exact ⟨0, rfl, Nat.zero_le _, hide (by simpa [twiceL] using B0)⟩
  case round =>
    clear B0
    obtain ⟨j, rfl, hj, BO⟩ := hrel
    have hln : (39 :: twiceL (s.data.toList.take j)).length ≤ 2 * j + 1 := by
      have := twiceL_length (s.data.toList.take j)
      rw [List.length_take] at this
      simp only [List.length_cons]; omega
    obtain ⟨q, hq⟩ : ∃ q, q = 39 :: twiceL (s.data.toList.take j) := ⟨_, rfl⟩
    by_cases hlt : j < s.size
    · have hlt2 : j < s.data.toList.length := by rw [hls]; exact hlt
      have hlti : (j : Int) < s.size := by omega
      have HN := hide (twice_next s.data.toList j hlt2)
      have hget : s.data.toList[j]'hlt2 = s[j]'hlt := rfl
      rw [hget] at HN
      rw [← hq] at BO hln
      have HQ := hide hq
      clear hq
      by_cases h39 : s[j]'hlt = 39
      · have hc : ((s[j]'hlt).toNat : Int) = 39 := by rw [h39]; rfl
        have HN2 : Hid (q ++ [39] ++ [39] = 39 :: twiceL (s.data.toList.take (j + 1))) := by
          show _ = _
          rw [HN.out, if_pos h39, HQ.out]; simp
        have hr1 : q.length + 1 ≤ 140737488355328 := by omega
        clear HN HQ h39 hget hls
        have hr2 : (q ++ [39]).length + 1 ≤ 140737488355328 := by rw [List.length_append]; simp only [List.length_cons, List.length_nil]; omega
        clear hln
        go_wp2_with (first
          | (at_builtin; refine wpList_byte _ rfl (.tmp 12) (.tmp 16) rfl w.heap.size w _ q rfl (BO.out.alloc _) ⟨wr.heap.size, 0, none⟩ 1 1 rfl rfl 39 39 rfl (new_cell _ _ _) rfl hr1 ?_; intro v2 w2 b2; have B2 := hide b2; clear b2)
          | (at_builtin; refine wpList_byte _ rfl (.tmp 22) (.tmp 23) rfl w.heap.size w _ (q ++ [39]) rfl (B2.out.alloc _) ⟨w2.heap.size, 0, none⟩ 1 1 rfl rfl 39 39 rfl (new_cell _ _ _) rfl hr2 ?_; intro v3 w3 b3; rw [HN2.out] at b3; have B3 := hide b3; clear b3))
        go_roundw
        case rel => exact ⟨j + 1, by go_num, by omega, B3⟩
        case measure => simp [intOf]; omega
      · obtain ⟨c, hcc⟩ : ∃ c, c = s[j]'hlt := ⟨_, rfl⟩
        have hcn : ¬ (c.toNat : Int) = 39 := by
          rw [hcc]; intro h; exact h39 (UInt8.toNat_inj.mp (by show _ = 39; omega))
        have HN2 : Hid (q ++ [c] = 39 :: twiceL (s.data.toList.take (j + 1))) := by
          show _ = _
          rw [HN.out, if_neg h39, HQ.out, hcc]; simp
        have hsj : s[j]'hlt = c := hcc.symm
        clear HN HQ h39 hget hcc hls
        have hr1 : q.length + 1 ≤ 140737488355328 := by omega
        clear hln
        go_wp2_with (at_builtin; refine wpList_byte _ rfl (.tmp 12) (.tmp 16) rfl w.heap.size w _ q rfl (BO.out.alloc _) ⟨wr.heap.size, 0, none⟩ 1 1 rfl rfl c c.toNat rfl (new_cell _ _ _) rfl hr1 ?_; intro v2 w2 b2; rw [HN2.out] at b2; have B2 := hide b2; clear b2)
        go_roundw
        case rel => exact ⟨j + 1, by go_num, by omega, B2⟩
        case measure => simp [intOf]; omega
    · have hje : j = s.size := by omega
      have hlti : ¬ (j : Int) < s.size := by omega
      have HQ : Hid (q ++ [39] = 39 :: (twiceL s.data.toList ++ [39])) := by
        show _ = _
        rw [hq, hje, ← hls, List.take_length]; simp
      rw [← hq] at BO hln
      have hr1 : q.length + 1 ≤ 140737488355328 := by omega
      clear hje hln hq hls hlt
      go_wp2_with (at_builtin; refine wpList_byte _ rfl (.tmp 25) (.tmp 26) rfl w.heap.size w _ q rfl (BO.out.alloc _) ⟨wr.heap.size, 0, none⟩ 1 1 rfl rfl 39 39 rfl (new_cell _ _ _) rfl hr1 ?_; intro v2 w2 b2; rw [HQ.out] at b2; have B2 := hide b2; have CV := b2.str; clear b2)
      go_ret
      exact ⟨rfl, B2.out.bel⟩
end Go.Proofs.YtjddhakaebkkeaaDoor
