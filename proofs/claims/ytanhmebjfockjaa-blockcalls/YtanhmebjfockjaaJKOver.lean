/-
  Bytes that are written over: each turned, and the room behind them filled: what the kit's call does to a list that lies in a block of its own, and to none.
-/
import Derived.Test.YtanhmebjfockjaaJKLent
namespace Go.Proofs.Ytanhmebjfockjaa
open Go.RowKit

/-- A byte with all its bits turned. -/
def notb (c : UInt8) : UInt8 := UInt8.ofNat (255 - c.toNat)
theorem notb_toNat (c : UInt8) : (notb c).toNat = 255 - c.toNat := by unfold notb; rw [UInt8.toNat_ofNat']; omega
/-- The first j turned. -/
def turnB (j : Nat) (bs : List UInt8) : List UInt8 := (bs.take j).map notb ++ bs.drop j
theorem turnB_length (j : Nat) (bs : List UInt8) : (turnB j bs).length = bs.length := by unfold turnB; rw [List.length_append, List.length_map, List.length_take, List.length_drop]; omega
theorem turnB_get (j : Nat) (bs : List UInt8) (h : j < bs.length) : (turnB j bs)[j]'(by rw [turnB_length]; exact h) = bs[j] := by
  unfold turnB
  rw [List.getElem_append_right (by rw [List.length_map, List.length_take]; omega)]
  simp only [List.length_map, List.length_take, List.getElem_drop]
  congr 1
  omega
theorem turnB_set (j : Nat) (bs : List UInt8) (h : j < bs.length) : (turnB j bs).set j (notb bs[j]) = turnB (j + 1) bs := by
  unfold turnB
  have e : ((bs.take j).map notb).length = j := by rw [List.length_map, List.length_take]; omega
  rw [List.set_append_right _ _ (by omega), e, Nat.sub_self, List.drop_eq_getElem_cons h, List.set_cons_zero, List.take_succ_eq_append_getElem h, List.map_append]
  simp
theorem turnB_all (bs : List UInt8) : turnB bs.length bs = bs.map notb := by unfold turnB; simp

theorem bc_setO (l : List UInt8) (j : Nat) (c : UInt8) : (bc l).set j (.int .u8 (c.toNat : Int)) = bc (l.set j c) := by unfold bc; rw [List.map_set]

def sliceLen : Value → Nat
  | .slice _ n _ => n
  | _ => 0

theorem fill_step (xs : List UInt8) (i : Nat) : xs ++ List.replicate (i + 1) (99 : UInt8) = xs ++ List.replicate i 99 ++ [99] := by rw [List.append_assoc, List.replicate_succ']

theorem xor255 (c : Nat) (h : c < 256) : bits .xor .u8 (if IntKind.u8.signed = true then -1 else IntKind.u8.max) (c : Int) = 255 - (c : Int) := by
  have : ∀ c : Fin 256, bits .xor .u8 (if IntKind.u8.signed = true then -1 else IntKind.u8.max) (c.val : Int) = 255 - (c.val : Int) := by decide +kernel
  exact this ⟨c, h⟩

set_option maxRecDepth 100000 in
set_option maxHeartbeats 1600000 in
theorem over_any (w : World) (base g n cap : Nat) (bs : List UInt8) (hn : n = bs.length) (hown : w.ownsRow base 5 1 (.slice (some ⟨g, 0, none⟩) n cap) n (bc bs)) (_hbase : base ≤ w.heap.size) (hnc : n ≤ cap) (hcap : cap ≤ 9223372036854775807) :
    Calls Try.prog 82 #[.slice (some ⟨g, 0, none⟩) n cap] w fun e w' => e = .returned (.tuple #[]) ∧ w'.ownsRow base 5 1 (.slice (some ⟨g, 0, none⟩) n cap) n (bc (bs.map notb)) ∧ w.grownBy w' (some g) := by
  obtain ⟨i0, hi, hz0, hz1, hz2⟩ := info_parts Try.info5
  have HN : Hid (n = bs.length) := hn
  clear hn
  go_enter Try.func82, Try.ntmps82
  go_wp2_with (fail)
  go_loopw [3] (fun i wr => ∃ j : Nat, j ≤ n ∧ i = .int .i64 j ∧ wr.ownsRow base 5 1 (.slice (some ⟨g, 0, none⟩) n cap) n (bc (turnB j bs)) ∧ w.grownBy wr (some g)) (fun i _ => n - (intOf i).toNat)
  case atStart => exact ⟨0, Nat.zero_le _, rfl, by simpa [turnB] using hown, World.grownBy.refl _ _⟩
  case round =>
    obtain ⟨j, hj, rfl, ho, hg⟩ := hrel
    clear hown
    by_cases hlt : j < n
    · have hjb : j < bs.length := by rw [← HN.out]; exact hlt
      obtain ⟨c, hc⟩ : ∃ c : UInt8, c = bs[j] := ⟨_, rfl⟩
      have d0 : wr.cell? ⟨g, j, none⟩ = some (.int .u8 (c.toNat : Int)) := by
        rw [ho.cellAt j (by omega), bc_get _ j (by rw [turnB_length]; exact hjb), turnB_get j bs hjb, hc]
      have f0 := ho.frozenAt j
      have hst := fun X : Int => ho.stored j (.int .u8 X)
      have HC : Hid ((bc (turnB j bs)).set j (.int .u8 (255 - (c.toNat : Int))) = bc (turnB (j + 1) bs)) := by
        show _ = _
        have e : (255 : Int) - (c.toNat : Int) = ((notb c).toNat : Int) := by rw [notb_toNat]; have := UInt8.toNat_lt c; omega
        rw [e, bc_setO, hc, turnB_set j bs hjb]
      have hjc : (j : Int) < (n : Int) := by omega
      have hc256 : c.toNat < 256 := UInt8.toNat_lt c
      have HX := xor255 c.toNat hc256
      have HX' : Hid (bits .xor .u8 (if IntKind.u8.signed = true then -1 else IntKind.u8.max) (c.toNat : Int) = 255 - (c.toNat : Int)) := HX
      clear hc ho HX
      go_wp2_with (fail)
      rw [HX'.out]
      obtain ⟨s1, s2⟩ := hst (255 - (c.toNat : Int))
      rw [HC.out] at s1
      exact ⟨⟨j + 1, by omega, by go_num, s1, grownBy_trans hg s2 (.inl rfl)⟩, by simp [intOf]; omega⟩
    · have ej : j = n := by omega
      subst ej
      have HT : Hid (turnB j bs = bs.map notb) := by show _ = _; rw [HN.out]; exact turnB_all bs
      rw [HT.out] at ho
      go_wp2_with (fail)
      go_loopw [0] (fun x wr2 => ∃ (i k : Nat), i ≤ cap - j ∧ x = .slice (some ⟨g, 0, none⟩) k cap ∧ Hid (k = j + i) ∧ wr2.ownsRow base 5 1 (.slice (some ⟨g, 0, none⟩) k cap) k (bc (bs.map notb ++ List.replicate i 99)) ∧ w.grownBy wr2 (some g)) (fun x _ => cap - sliceLen x)
      case atStart => exact ⟨0, j, Nat.zero_le _, rfl, rfl, by simpa using ho, hg⟩
      case round =>
        obtain ⟨i, k, hic, rfl, HK, ho2, hg2⟩ := hrel
        clear ho hg
        have hk := HK.out
        have hz := hg2.size
        by_cases hlt : k < cap
        · have hki : (k : Int) < (cap : Int) := by omega
          have E : Hid (bc (bs.map notb ++ List.replicate (i + 1) 99) = bc (bs.map notb ++ List.replicate i 99) ++ bc [99]) := by show _ = _; rw [fill_step, bc_append]
          have HK2 : Hid (k + 1 = j + (i + 1)) := by show _ = _; omega
          have hi2 : i + 1 ≤ cap - j := by omega
          clear hk
          go_wp2_with (at_builtin; refine wpList_append_fits _ rfl _ _ 53 rfl base 5 i0 1 Try.underlying53 hi hz1 g k cap (bc (bs.map notb ++ List.replicate i 99)) rfl (ho2.alloc _) ⟨wr.heap.size, 0, none⟩ 1 1 (bc [99]) rfl rfl (cell_one_new _ _ _) (bc_one _) hlt ?_; intro w3 o3 g3)
          rw [← E.out] at o3
          exact ⟨⟨i + 1, k + 1, hi2, rfl, HK2, o3, grownBy_trans (grownBy_trans hg2 (World.grownBy_alloc _ _ (some g)) (.inl rfl)) g3 (.inl rfl)⟩, by simp [sliceLen]; omega⟩
        · have hki : ¬ (k : Int) < (cap : Int) := by omega
          go_wp2_with (fail)
          go_end0
          exact ⟨rfl, own_shrink ho2 (by rw [List.length_map]; exact HN.out) (by omega), hg2⟩

theorem over_nil (w : World) : Calls Try.prog 82 #[.slice none 0 0] w fun e w' => e = .returned (.tuple #[]) ∧ w' = w := by
  go_enter Try.func82, Try.ntmps82
  go_wp2_with (fail)
  refine wp_loop_rounds 1 ?_
  rw [rounds_succ]
  go_wp2_with (fail)
  refine wp_loop_rounds 1 ?_
  rw [rounds_succ]
  go_wp2_with (fail)
  go_end0
  exact ⟨rfl, rfl⟩
end Go.Proofs.Ytanhmebjfockjaa
