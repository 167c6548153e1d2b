/-
  How many bytes a record has, as four bytes, the lowest first, and back.
-/
import Derived.Test.YtmhehohiodggcaaCSeal
import Derived.Test.YtmhehohiodggcaaCSealed
namespace Go.Proofs.Ytmhehohiodggcaa
open Go.RowKit

set_option maxHeartbeats 1600000 in
theorem number_some (w : World) (b off cap : Nat) (c0 c1 c2 c3 : UInt8) (h : BytesAt w b off [c0, c1, c2, c3]) :
    Calls Try.prog 30 #[.slice (some ⟨b, off, none⟩) 4 cap] w fun e w' => e = .returned (.int .u32 ((num4 [c0, c1, c2, c3] : Nat) : Int)) ∧ w' = w := by
  have d0 : w.cell? ⟨b, off, none⟩ = some (.int .u8 (c0.toNat : Int)) := h 0 (by simp)
  have d1 : w.cell? ⟨b, off + 1, none⟩ = some (.int .u8 (c1.toNat : Int)) := h 1 (by simp)
  have d2 : w.cell? ⟨b, off + 2, none⟩ = some (.int .u8 (c2.toNat : Int)) := h 2 (by simp)
  have d3 : w.cell? ⟨b, off + 3, none⟩ = some (.int .u8 (c3.toNat : Int)) := h 3 (by simp)
  have l0 := UInt8.toNat_lt c0
  have l1 := UInt8.toNat_lt c1
  have l2 := UInt8.toNat_lt c2
  have l3 := UInt8.toNat_lt c3
  obtain ⟨n0, e0⟩ : ∃ n, n = c0.toNat := ⟨_, rfl⟩
  obtain ⟨n1, e1⟩ : ∃ n, n = c1.toNat := ⟨_, rfl⟩
  obtain ⟨n2, e2⟩ : ∃ n, n = c2.toNat := ⟨_, rfl⟩
  obtain ⟨n3, e3⟩ : ∃ n, n = c3.toNat := ⟨_, rfl⟩
  have HN : Hid (n0 + 256 * n1 + 65536 * n2 + 16777216 * n3 = num4 [c0, c1, c2, c3]) := by show _ = _; rw [e0, e1, e2, e3]; rfl
  rw [← e0] at d0 l0
  rw [← e1] at d1 l1
  rw [← e2] at d2 l2
  rw [← e3] at d3 l3
  clear e0 e1 e2 e3 h
  go_enter Try.func30, Try.ntmps30
  go_wp2_with (fail)
  go_loopw [3, 8] (fun x i wr => ∃ (j r : Nat), j ≤ 4 ∧ i = .int .i64 j ∧ x = .int .u32 r ∧ Hid (r = if j = 0 then 0 else if j = 1 then n0 else if j = 2 then n0 + 256 * n1 else if j = 3 then n0 + 256 * n1 + 65536 * n2 else n0 + 256 * n1 + 65536 * n2 + 16777216 * n3) ∧ wr = w) (fun _ i _ => 4 - (intOf i).toNat)
  case atStart => exact ⟨0, 0, by omega, rfl, rfl, rfl, rfl⟩
  case round =>
    obtain ⟨j, r, hj, rfl, rfl, HR, rfl⟩ := hrel
    by_cases hlt : j < 4
    · rcases (by omega : j = 0 ∨ j = 1 ∨ j = 2 ∨ j = 3) with rfl | rfl | rfl | rfl
      · go_wp2_with (fail)
        have e : r = 0 := HR.out
        subst e
        exact ⟨⟨1, n0, by omega, rfl, by rw [or_zero n0 (by omega)], rfl, trivial⟩, by simp [intOf]⟩
      · go_wp2_with (fail)
        have e : r = n0 := HR.out
        subst e
        exact ⟨⟨2, r + n1 * 2 ^ 8, by omega, rfl, by rw [← or_low r n1 8 (by omega) (by omega)]; rfl, by show _ = _; rw [if_neg (by omega), if_neg (by omega), if_pos rfl]; omega, trivial⟩, by simp [intOf]⟩
      · go_wp2_with (fail)
        have e : r = n0 + 256 * n1 := HR.out
        clear HR
        exact ⟨⟨3, r + n2 * 2 ^ 16, by omega, rfl, by rw [← or_low r n2 16 (by omega) (by omega)]; rfl, by show _ = _; rw [if_neg (by omega), if_neg (by omega), if_neg (by omega), if_pos rfl]; omega, trivial⟩, by simp [intOf]⟩
      · go_wp2_with (fail)
        have e : r = n0 + 256 * n1 + 65536 * n2 := HR.out
        clear HR
        exact ⟨⟨4, r + n3 * 2 ^ 24, by omega, rfl, by rw [← or_low r n3 24 (by omega) (by omega)]; rfl, by show _ = _; rw [if_neg (by omega), if_neg (by omega), if_neg (by omega), if_neg (by omega)]; omega, trivial⟩, by simp [intOf]⟩
    · have e4 : j = 4 := by omega
      subst e4
      have e := HR.out
      have HE : Hid (r = num4 [c0, c1, c2, c3]) := by show _ = _; rw [← HN.out, e]; rfl
      clear e
      go_wp2_with (fail)
      go_ret
      rw [HE.out]
      exact ⟨rfl, rfl⟩

theorem number_any (w : World) (v : Value) (l : List UInt8) (h : BytesIn w v l) (h4 : l.length = 4) :
    Calls Try.prog 30 #[v] w fun e w' => e = .returned (.int .u32 ((num4 l : Nat) : Int)) ∧ w' = w := by
  obtain ⟨⟨a, cap, rfl, hf⟩, _⟩ := h
  match l, h4, hf with
  | [c0, c1, c2, c3], _, hf =>
    obtain ⟨b, off, rfl, hv⟩ := hf (by simp)
    exact number_some w b off cap c0 c1 c2 c3 hv

set_option maxHeartbeats 1600000 in
theorem sizeOf_any (w : World) (a0 : Option Addr) (c0 n : Nat) (hn : n ≤ 1048576) :
    Calls Try.prog 32 #[.slice a0 n c0] w fun e w' => e = .returned (.slice (some ⟨w.heap.size, 0, none⟩) 4 4) ∧ Ext w.heap.size w (.slice none 0 0) w' (.slice (some ⟨w.heap.size, 0, none⟩) 4 4) (Crc.le4 n) := by
  have MK := make_bytes 4 (by omega) 4 rfl
  have L0 := Ext.lit0 w.heap.size w (zeros 4) (List.replicate 4 0) 4 (Nat.le_refl _) (by rw [bc_zeros]; simp [zeros]) rfl (by decide)
  have F0 : Hid (fill [] n 0 = List.replicate 4 0) := rfl
  have FS : Hid (∀ j, j < 4 → (bc (fill [] n j)).set j (.int .u8 ((UInt8.ofNat (n / 2 ^ (8 * j))).toNat : Int)) = bc (fill [] n (j + 1))) := fun j hj => by
    have := fill_set [] n j hj
    rw [List.length_nil, Nat.zero_add] at this
    rw [bc_set, this]
  have FL : Hid (∀ j, j ≤ 4 → 4 = (fill [] n j).length) := fun j hj => by rw [fill_length [] n j hj]; rfl
  have F4 : Hid (fill [] n 4 = Crc.le4 n) := by show _ = _; unfold fill; simp [Crc.le4]
  have O0 : Hid ((w.alloc (.cells (zeros 4) 5)).ownsRow w.heap.size 5 1 (.slice (some ⟨w.heap.size, 0, none⟩) 4 4) 4 (bc (fill [] n 0))) := by rw [Hid, F0.out]; exact L0.own
  have G0 : Hid (w.grownBy (w.alloc (.cells (zeros 4) 5)) none) := L0.grown
  clear L0
  go_enter Try.func32, Try.ntmps32
  go_wp2_with (fail)
  go_loopw [8] (fun i wr => ∃ j : Nat, j ≤ 4 ∧ i = .int .i64 j ∧ wr.ownsRow w.heap.size 5 1 (.slice (some ⟨w.heap.size, 0, none⟩) 4 4) 4 (bc (fill [] n j)) ∧ w.grownBy wr none) (fun i _ => 4 - (intOf i).toNat)
  case atStart => exact ⟨0, by omega, rfl, O0.out, G0.out⟩
  case round =>
    obtain ⟨j, hj, rfl, ho, hg⟩ := hrel
    clear O0 G0 MK
    by_cases hlt : j < 4
    · have f0 := ho.frozenAt j
      obtain ⟨u0, d0⟩ : ∃ u, wr.cell? ⟨w.heap.size, j, none⟩ = some u := by
        refine ⟨_, (ho.cellAt j (by omega)).trans (bc_get _ _ ?_)⟩
        rw [← FL.out j (by omega)]; omega
      have HS : Hid (∀ X : Int, X = (n : Int) / 2 ^ (8 * j) % 256 → (wr.setCell ⟨w.heap.size, j, none⟩ (.int .u8 X)).ownsRow w.heap.size 5 1 (.slice (some ⟨w.heap.size, 0, none⟩) 4 4) 4 (bc (fill [] n (j + 1))) ∧ w.grownBy (wr.setCell ⟨w.heap.size, j, none⟩ (.int .u8 X)) none) := fun X hX => by
        obtain ⟨s1, s2⟩ := ho.stored j (.int .u8 X)
        rw [hX, ← ofNat_cell_div, FS.out j hlt] at s1
        rw [hX, ← ofNat_cell_div] at s2 ⊢
        exact ⟨s1, grownBy_trans hg s2 (.inr ⟨_, rfl, Nat.le_refl _⟩)⟩
      clear ho FS FL F4
      rcases (by omega : j = 0 ∨ j = 1 ∨ j = 2 ∨ j = 3) with rfl | rfl | rfl | rfl
      · go_wp2_with (fail)
        exact ⟨⟨1, by omega, rfl, (HS.out _ (by simp)).1, (HS.out _ (by simp)).2⟩, by simp [intOf]⟩
      · go_wp2_with (fail)
        exact ⟨⟨2, by omega, rfl, (HS.out _ (by simp)).1, (HS.out _ (by simp)).2⟩, by simp [intOf]⟩
      · go_wp2_with (fail)
        exact ⟨⟨3, by omega, rfl, (HS.out _ (by simp; omega)).1, (HS.out _ (by simp; omega)).2⟩, by simp [intOf]⟩
      · go_wp2_with (fail)
        exact ⟨⟨4, by omega, rfl, (HS.out _ (by simp; omega)).1, (HS.out _ (by simp; omega)).2⟩, by simp [intOf]⟩
    · have e4 : j = 4 := by omega
      subst e4
      rw [F4.out] at ho
      go_wp2_with (fail)
      go_ret
      exact ⟨rfl, ext_of_own ho rfl hg⟩
end Go.Proofs.Ytmhehohiodggcaa
