/-
  Package stagepostref13: the reserved words.
-/
import Derived.Test.YtjddhakaebkkeaaDoorXD
import Derived.Test.YtjddhakaebkkeaaDoorLxO
namespace Go.Proofs.YtjddhakaebkkeaaDoor
open Go.RowKit
attribute [local go_sem ↓] Go.wp_at_zero Go.wp_at_succ

/-- The reserved words, as texts. -/
def resB : List ByteArray := [⟨#[97, 110, 100]⟩, ⟨#[97, 115]⟩, ⟨#[97, 115, 99]⟩, ⟨#[98, 101, 103, 105, 110]⟩, ⟨#[98, 111, 111, 108]⟩, ⟨#[98, 121]⟩, ⟨#[99, 111, 109, 109, 105, 116]⟩, ⟨#[99, 111, 117, 110, 116]⟩, ⟨#[99, 114, 101, 97, 116, 101]⟩, ⟨#[100, 101, 108, 101, 116, 101]⟩, ⟨#[100, 101, 115, 99]⟩, ⟨#[102, 97, 108, 115, 101]⟩, ⟨#[102, 114, 111, 109]⟩, ⟨#[103, 114, 111, 117, 112]⟩, ⟨#[105, 110, 100, 101, 120]⟩, ⟨#[105, 110, 115, 101, 114, 116]⟩, ⟨#[105, 110, 116]⟩, ⟨#[105, 110, 116, 111]⟩, ⟨#[105, 115]⟩, ⟨#[106, 111, 105, 110]⟩, ⟨#[107, 101, 121]⟩, ⟨#[108, 105, 109, 105, 116]⟩, ⟨#[109, 97, 120]⟩, ⟨#[109, 105, 110]⟩, ⟨#[110, 111, 116]⟩, ⟨#[110, 117, 108, 108]⟩, ⟨#[111, 110]⟩, ⟨#[111, 114]⟩, ⟨#[111, 114, 100, 101, 114]⟩, ⟨#[112, 114, 105, 109, 97, 114, 121]⟩, ⟨#[114, 111, 108, 108, 98, 97, 99, 107]⟩, ⟨#[115, 97, 118, 101, 112, 111, 105, 110, 116]⟩, ⟨#[115, 101, 108, 101, 99, 116]⟩, ⟨#[115, 101, 116]⟩, ⟨#[115, 117, 109]⟩, ⟨#[116, 97, 98, 108, 101]⟩, ⟨#[116, 101, 120, 116]⟩, ⟨#[116, 111]⟩, ⟨#[116, 114, 117, 101]⟩, ⟨#[117, 110, 105, 113, 117, 101]⟩, ⟨#[117, 112, 100, 97, 116, 101]⟩, ⟨#[118, 97, 108, 117, 101, 115]⟩, ⟨#[119, 104, 101, 114, 101]⟩]
theorem resB_len : resB.length = 43 := rfl
theorem resB_L : resB.map (fun b => b.data.toList) = resL := rfl
set_option maxRecDepth 10000 in
theorem words_any (w : World) : Calls Tryd.prog 22 #[] w fun e w' => e = .returned (.slice (some ⟨w.heap.size, 0, none⟩) 43 43) ∧ w' = w.alloc (.cells (resB.map Value.string).toArray 9) := by
  go_enter Tryd.func22, Tryd.ntmps22
  go_wp2
  go_ret
  exact ⟨rfl, rfl⟩
theorem word_cell (w : World) (k : Nat) (x : ByteArray) (h : resB[k]? = some x) : (w.alloc (.cells (resB.map Value.string).toArray 9)).cell? ⟨w.heap.size, k, none⟩ = some (.string x) := by
  rw [Joins.cell_of_block (heap_alloc_new w _) _]
  simp [h]
theorem bytes_inj {x s : ByteArray} (e : x.data.toList = s.data.toList) : x = s := by
  obtain ⟨⟨x⟩⟩ := x
  obtain ⟨⟨s⟩⟩ := s
  simp only at e
  rw [e]
theorem same_bytes {x s : ByteArray} (e : (x.toList == s.toList) = true) : x = s := bytes_inj (by
  have h := eq_of_beq e
  rw [ByteArray.toList_eq, ByteArray.toList_eq] at h
  exact h)
theorem res_in {k : Nat} {s : ByteArray} (h : resB[k]? = some s) : resL.contains s.data.toList = true := by
  rw [← resB_L, List.contains_iff_mem, List.mem_map]
  exact ⟨s, List.mem_of_getElem? h, rfl⟩
theorem res_no {s : ByteArray} (hno : ∀ j, j < 43 → resB[j]? ≠ some s) : resL.contains s.data.toList = false := by
  rw [← Bool.not_eq_true, ← resB_L, List.contains_iff_mem, List.mem_map]
  rintro ⟨x, hx, e⟩
  obtain ⟨j, hj, e2⟩ := List.getElem_of_mem hx
  exact hno j (by rw [← resB_len]; exact hj) (by rw [List.getElem?_eq_getElem hj, e2, bytes_inj e])
set_option maxHeartbeats 3200000 in
theorem refReserved_any (w : World) (s : ByteArray) : Calls Tryd.prog 11 #[.string s] w fun e w' => e = .returned (.bool (resL.contains s.data.toList)) ∧ Below w.heap.size w w' := by
  have WD := hide (words_any w)
  obtain ⟨N, hN⟩ : ∃ N, N = resL.contains s.data.toList := ⟨_, rfl⟩
  rw [← hN]
  have HN := hide hN
  clear hN
  have WC := hide (word_cell w)
  have BW : Hid (Below w.heap.size w (w.alloc (.cells (resB.map Value.string).toArray 9))) := (Below.refl _ _).alloc (Nat.le_refl _) _
  obtain ⟨G, hG⟩ : ∃ G, G = w.heap.size := ⟨_, rfl⟩
  rw [← hG] at WD WC BW ⊢
  obtain ⟨W1, hW1⟩ : ∃ W1, W1 = w.alloc (.cells (resB.map Value.string).toArray 9) := ⟨_, rfl⟩
  rw [← hW1] at WC BW WD
  clear hW1 hG
  go_enter Tryd.func11, Tryd.ntmps11
  go_wp2_with (go_at_call 22; refine WD.out.mono ?_; rintro e w1 ⟨rfl, rfl⟩)
  go_loopw [4] (fun v wr => ∃ k : Nat, v = .int .i64 k ∧ k ≤ 43 ∧ wr = w1 ∧ ∀ j, j < k → resB[j]? ≠ some s) (fun v _ => 43 - (intOf v).toNat)
  case atStart => exact ⟨0, rfl, Nat.zero_le _, rfl, fun j hj => by omega⟩
  case round =>
    obtain ⟨k, rfl, hk, hw, hno⟩ := hrel
    have hw2 := hw.symm
    subst hw2
    clear hw
    have HNO := hide hno
    clear hno
    by_cases hlt : k < 43
    · have hki : (k : Int) < 43 := by omega
      obtain ⟨x, hx⟩ : ∃ x, resB[k]? = some x := ⟨resB[k]'(by rw [resB_len]; exact hlt), List.getElem?_eq_getElem _⟩
      have c0 := WC.out k x hx
      have HX := hide hx
      clear hx
      go_wp2
      · rename_i hh
        go_ret
        obtain rfl := same_bytes hh
        exact ⟨by rw [HN.out, res_in HX.out]; rfl, BW.out⟩
      · rename_i hh
        refine ⟨⟨k + 1, by go_num, by omega, trivial, fun j hj2 => ?_⟩, by simp [intOf]; omega⟩
        by_cases hj3 : j < k
        · exact HNO.out j hj3
        · obtain rfl : j = k := by omega
          intro e
          rw [HX.out] at e
          obtain rfl : x = s := by simpa using e
          simp at hh
    · have hki : ¬ (k : Int) < 43 := by omega
      go_wp2
      go_ret
      exact ⟨by rw [HN.out, res_no fun j hj => HNO.out j (by omega)]; rfl, BW.out⟩
end Go.Proofs.YtjddhakaebkkeaaDoor
