/-
  The checksum that goes on, and the checksum: what the program's two calls answer. .. and what follows from it.
-/
import Derived.Test.YtolalicliojkfaaGreatSC
import Derived.Test.YtolalicliojkfaaGreatSB
import Derived.Laws.BitsAllLaws
import Derived.OwnWalk
namespace Go.Proofs.YtolalicliojkfaaGreat
open Go.RowKit

theorem not32 (s : Nat) (h : s < 4294967296) : bits .xor .u32 IntKind.u32.max (s : Int) = ((s ^^^ Crc.ones : Nat) : Int) := by
  have := u32_xor_nat 4294967295 s (by decide) h
  rw [Nat.xor_comm] at this
  exact this
theorem steps_succ (k s : Nat) : Crc.steps (k + 1) s = Crc.step (Crc.steps k s) := by rw [Crc.steps_add]; rfl
theorem reg_take (r0 : Nat) (l : List UInt8) (j : Nat) (h : j < l.length) : Crc.reg r0 (l.take (j + 1)) = Crc.turn (Crc.reg r0 (l.take j)) (l[j]).toNat := by
  rw [List.take_succ_eq_append_getElem h, Crc.reg_append]; rfl
/-- The lowest bit, cut off: one step. -/
theorem step_odd (q : Nat) (h : q < 4294967296) (h1 : q % 2 = 1) : bits .xor .u32 ((q : Int) / 2) 2197175160 = ((Crc.step q : Nat) : Int) := by
  have := u32_xor_nat (q / 2) 2197175160 (by omega) (by decide)
  unfold Crc.step
  rw [if_pos h1]
  have e : (((q / 2 : Nat)) : Int) = (q : Int) / 2 := by omega
  rw [e] at this
  exact this
theorem step_even (q : Nat) (h1 : q % 2 = 0) : ((q : Int) / 2) = ((Crc.step q : Nat) : Int) := by
  unfold Crc.step
  rw [if_neg (by omega)]
  simp
theorem low_one (q : Nat) (h : q < 4294967296) : bits .and .u32 (q : Int) 1 = ((q % 2 : Nat) : Int) := by
  have := u32_and_nat q 1 h (by decide)
  rw [Nat.and_one_is_mod] at this
  exact this

set_option maxHeartbeats 800000 in
theorem more_some (w : World) (s : Nat) (hs : s < 4294967296) (b off cap : Nat) (l : List UInt8) (h : BytesAt w b off l) (hl : l.length ≤ 140737488355328) :
    Calls Tryz.prog 105 #[.int .u32 (s : Int), .slice (some ⟨b, off, none⟩) l.length cap] w fun e w' => e = .returned (.int .u32 ((Crc.more s l : Nat) : Int)) ∧ w' = w := by
  have hsg : ¬ IntKind.u32.signed = true := by decide
  have N1 := not32 s hs
  obtain ⟨r0, hr0⟩ : ∃ r, r = s ^^^ Crc.ones := ⟨_, rfl⟩
  rw [← hr0] at N1
  have hr0l : r0 < 4294967296 := by rw [hr0]; exact Crc.xor_lt32 hs (by decide)
  have HR0 : Hid (r0 = s ^^^ Crc.ones) := hr0
  clear hr0
  go_enter Tryz.func105, Tryz.ntmps105
  go_wp2_with (fail)
  go_loopw [5, 13] (fun x i wr => ∃ (j r : Nat), j ≤ l.length ∧ i = .int .i64 j ∧ x = .int .u32 r ∧ r < 4294967296 ∧ Hid (r = Crc.reg r0 (l.take j)) ∧ wr = w) (fun _ i _ => l.length - (intOf i).toNat)
  case atStart => exact ⟨0, r0, Nat.zero_le _, rfl, rfl, hr0l, rfl, rfl⟩
  case round =>
    obtain ⟨j, r, hj, rfl, rfl, hr, HR, rfl⟩ := hrel
    clear N1
    by_cases hlt : j < l.length
    · obtain ⟨c, hc⟩ : ∃ c : Nat, c = (l[j]).toNat := ⟨_, rfl⟩
      have hc256 : c < 256 := by rw [hc]; exact UInt8.toNat_lt _
      have d0 : wr.cell? ⟨b, off + j, none⟩ = some (.int .u8 (c : Int)) := by rw [h j hlt, ← hc]
      obtain ⟨t, ht⟩ : ∃ t, t = r ^^^ c := ⟨_, rfl⟩
      have X1 : bits .xor .u32 (r : Int) (c : Int) = (t : Int) := by rw [ht]; exact u32_xor_nat r c hr (by omega)
      have htl : t < 4294967296 := by rw [ht]; exact Crc.xor_lt32 hr (by omega)
      have HT : Hid (Crc.steps 8 t = Crc.reg r0 (l.take (j + 1))) := by show _ = _; rw [reg_take r0 l j hlt, ← HR.out, ← hc, ht]; rfl
      have H := h
      have HB : Hid (BytesAt wr b off l) := h
      clear hc ht h H
      go_wp2_with (fail)
      go_loopw [5, 21] (fun x i wr2 => ∃ (k q : Nat), k ≤ 8 ∧ i = .int .i64 k ∧ x = .int .u32 q ∧ q < 4294967296 ∧ Hid (q = Crc.steps k t) ∧ wr2 = wr) (fun _ i _ => 8 - (intOf i).toNat)
      case atStart => exact ⟨0, t, by omega, rfl, rfl, htl, rfl, rfl⟩
      case round =>
        obtain ⟨k, q, hk, rfl, rfl, hq, HQ, rfl⟩ := hrel
        clear X1
        by_cases hk8 : k < 8
        · have A1 := low_one q hq
          have HS : Hid (Crc.step q = Crc.steps (k + 1) t) := by show _ = _; rw [steps_succ, ← HQ.out]
          have hst := Crc.step_lt q hq
          obtain ⟨q', hq'⟩ : ∃ q', q' = Crc.step q := ⟨_, rfl⟩
          rcases Nat.mod_two_eq_zero_or_one q with h2 | h2
          · have E := step_even q h2
            rw [h2] at A1
            rw [← hq'] at E HS hst
            clear hq' h2
            go_wp2_with (fail)
            exact ⟨⟨k + 1, q', by omega, by go_num, rfl, hst, HS, trivial⟩, by simp [intOf]; omega⟩
          · have E := step_odd q hq h2
            rw [h2] at A1
            rw [← hq'] at E HS hst
            clear hq' h2
            go_wp2_with (fail)
            exact ⟨⟨k + 1, q', by omega, by go_num, rfl, hst, HS, trivial⟩, by simp [intOf]; omega⟩
        · have e8 : k = 8 := by omega
          subst e8
          go_wp2_with (fail)
          exact ⟨⟨j + 1, q, by omega, by go_num, rfl, hq, by show _ = _; rw [HQ.out, HT.out], trivial⟩, by simp [intOf]; omega⟩
    · have ej : j = l.length := by omega
      subst ej
      have N2 := not32 r hr
      obtain ⟨z, hz⟩ : ∃ z, z = r ^^^ Crc.ones := ⟨_, rfl⟩
      rw [← hz] at N2
      have HZ : Hid (z = Crc.more s l) := by show _ = _; rw [hz, HR.out, HR0.out, List.take_length]; rfl
      clear hz
      go_wp2_with (fail)
      go_ret
      rw [HZ.out]
      exact ⟨rfl, rfl⟩

set_option maxHeartbeats 800000 in
theorem more_none (w : World) (s : Nat) (hs : s < 4294967296) (a : Option Addr) (cap : Nat) :
    Calls Tryz.prog 105 #[.int .u32 (s : Int), .slice a 0 cap] w fun e w' => e = .returned (.int .u32 ((Crc.more s [] : Nat) : Int)) ∧ w' = w := by
  have hsg : ¬ IntKind.u32.signed = true := by decide
  have N1 := not32 s hs
  obtain ⟨r0, hr0⟩ : ∃ r, r = s ^^^ Crc.ones := ⟨_, rfl⟩
  rw [← hr0] at N1
  have hr0l : r0 < 4294967296 := by rw [hr0]; exact Crc.xor_lt32 hs (by decide)
  have N2 := not32 r0 hr0l
  obtain ⟨z, hz⟩ : ∃ z, z = r0 ^^^ Crc.ones := ⟨_, rfl⟩
  rw [← hz] at N2
  have HZ : Hid (z = Crc.more s []) := by show _ = _; rw [hz, hr0]; rfl
  clear hz hr0
  go_enter Tryz.func105, Tryz.ntmps105
  go_wp2_with (fail)
  refine wp_loop_rounds 1 ?_
  rw [rounds_succ]
  go_wp2_with (fail)
  go_ret
  rw [HZ.out]
  exact ⟨rfl, rfl⟩

theorem more_any (w : World) (s : Nat) (hs : s < 4294967296) (v : Value) (l : List UInt8) (h : BytesIn w v l) :
    Calls Tryz.prog 105 #[.int .u32 (s : Int), v] w fun e w' => e = .returned (.int .u32 ((Crc.more s l : Nat) : Int)) ∧ w' = w := by
  obtain ⟨⟨a, cap, rfl, hf⟩, hlen⟩ := h
  by_cases h0 : l = []
  · subst h0; exact more_none w s hs a cap
  · obtain ⟨b, off, rfl, hv⟩ := hf h0
    exact more_some w s hs b off cap l hv hlen

theorem sum_any (w : World) (v : Value) (l : List UInt8) (h : BytesIn w v l) :
    Calls Tryz.prog 95 #[v] w fun e w' => e = .returned (.int .u32 ((Crc.sum l : Nat) : Int)) ∧ w' = w := by
  have M : Hid (Calls Tryz.prog 105 #[.int .u32 0, v] w fun e w' => e = .returned (.int .u32 ((Crc.sum l : Nat) : Int)) ∧ w' = w) := more_any w 0 (by decide) v l h
  clear h
  go_enter Tryz.func95, Tryz.ntmps95
  go_wp2_with (go_at_call 105; refine M.out.mono ?_; rintro e w1 ⟨rfl, rfl⟩)
  go_ret
  exact ⟨rfl, rfl⟩
end Go.Proofs.YtolalicliojkfaaGreat
namespace Go.Proofs.YtolalicliojkfaaGreat
open Go.RowKit

theorem or_low (r n i : Nat) (h : r < 2 ^ i) (ht : r + n * 2 ^ i < 4294967296) : bits .or .u32 (r : Int) ((n : Int) * 2 ^ i) = ((r + n * 2 ^ i : Nat) : Int) := by
  have e := u32_or_nat r (n * 2 ^ i) (by omega) (by omega)
  rw [Nat.or_comm, Nat.mul_comm n, ← Nat.two_pow_add_eq_or_of_lt h n] at e
  have c : ((2 ^ i * n : Nat) : Int) = (n : Int) * 2 ^ i := by rw [Nat.mul_comm]; simp
  rw [c] at e
  rw [e, Nat.mul_comm n, Nat.add_comm]

theorem or_zero (n : Nat) (h : n < 4294967296) : bits .or .u32 ((0 : Nat) : Int) (n : Int) = (n : Int) := by
  have := u32_or_nat 0 n (by decide) h
  rwa [Nat.zero_or] at this

set_option maxHeartbeats 1600000 in
theorem seal_some (w : World) (b off cap : Nat) (c0 c1 c2 c3 : UInt8) (h : BytesAt w b off [c0, c1, c2, c3]) :
    Calls Tryz.prog 107 #[.slice (some ⟨b, off, none⟩) 4 cap] w fun e w' => e = .returned (.int .u32 ((num4 [c0, c1, c2, c3] : Nat) : Int)) ∧ w' = w := by
  have d0 : w.cell? ⟨b, off, none⟩ = some (.int .u8 (c0.toNat : Int)) := h 0 (by simp)
  have d1 : w.cell? ⟨b, off + 1, none⟩ = some (.int .u8 (c1.toNat : Int)) := h 1 (by simp)
  have d2 : w.cell? ⟨b, off + 2, none⟩ = some (.int .u8 (c2.toNat : Int)) := h 2 (by simp)
  have d3 : w.cell? ⟨b, off + 3, none⟩ = some (.int .u8 (c3.toNat : Int)) := h 3 (by simp)
  have l0 := UInt8.toNat_lt c0
  have l1 := UInt8.toNat_lt c1
  have l2 := UInt8.toNat_lt c2
  have l3 := UInt8.toNat_lt c3
  obtain ⟨n0, e0⟩ : ∃ n, n = c0.toNat := ⟨_, rfl⟩
  obtain ⟨n1, e1⟩ : ∃ n, n = c1.toNat := ⟨_, rfl⟩
  obtain ⟨n2, e2⟩ : ∃ n, n = c2.toNat := ⟨_, rfl⟩
  obtain ⟨n3, e3⟩ : ∃ n, n = c3.toNat := ⟨_, rfl⟩
  have HN : Hid (n0 + 256 * n1 + 65536 * n2 + 16777216 * n3 = num4 [c0, c1, c2, c3]) := by show _ = _; rw [e0, e1, e2, e3]; rfl
  rw [← e0] at d0 l0
  rw [← e1] at d1 l1
  rw [← e2] at d2 l2
  rw [← e3] at d3 l3
  clear e0 e1 e2 e3 h
  go_enter Tryz.func107, Tryz.ntmps107
  go_wp2_with (fail)
  go_loopw [3, 8] (fun x i wr => ∃ (j r : Nat), j ≤ 4 ∧ i = .int .i64 j ∧ x = .int .u32 r ∧ Hid (r = if j = 0 then 0 else if j = 1 then n0 else if j = 2 then n0 + 256 * n1 else if j = 3 then n0 + 256 * n1 + 65536 * n2 else n0 + 256 * n1 + 65536 * n2 + 16777216 * n3) ∧ wr = w) (fun _ i _ => 4 - (intOf i).toNat)
  case atStart => exact ⟨0, 0, by omega, rfl, rfl, rfl, rfl⟩
  case round =>
    obtain ⟨j, r, hj, rfl, rfl, HR, rfl⟩ := hrel
    by_cases hlt : j < 4
    · rcases (by omega : j = 0 ∨ j = 1 ∨ j = 2 ∨ j = 3) with rfl | rfl | rfl | rfl
      · go_wp2_with (fail)
        have e : r = 0 := HR.out
        subst e
        exact ⟨⟨1, n0, by omega, rfl, by rw [or_zero n0 (by omega)], rfl, trivial⟩, by simp [intOf]⟩
      · go_wp2_with (fail)
        have e : r = n0 := HR.out
        subst e
        exact ⟨⟨2, r + n1 * 2 ^ 8, by omega, rfl, by rw [← or_low r n1 8 (by omega) (by omega)]; rfl, by show _ = _; rw [if_neg (by omega), if_neg (by omega), if_pos rfl]; omega, trivial⟩, by simp [intOf]⟩
      · go_wp2_with (fail)
        have e : r = n0 + 256 * n1 := HR.out
        clear HR
        exact ⟨⟨3, r + n2 * 2 ^ 16, by omega, rfl, by rw [← or_low r n2 16 (by omega) (by omega)]; rfl, by show _ = _; rw [if_neg (by omega), if_neg (by omega), if_neg (by omega), if_pos rfl]; omega, trivial⟩, by simp [intOf]⟩
      · go_wp2_with (fail)
        have e : r = n0 + 256 * n1 + 65536 * n2 := HR.out
        clear HR
        exact ⟨⟨4, r + n3 * 2 ^ 24, by omega, rfl, by rw [← or_low r n3 24 (by omega) (by omega)]; rfl, by show _ = _; rw [if_neg (by omega), if_neg (by omega), if_neg (by omega), if_neg (by omega)]; omega, trivial⟩, by simp [intOf]⟩
    · have e4 : j = 4 := by omega
      subst e4
      have e := HR.out
      have HE : Hid (r = num4 [c0, c1, c2, c3]) := by show _ = _; rw [← HN.out, e]; rfl
      clear e
      go_wp2_with (fail)
      go_ret
      rw [HE.out]
      exact ⟨rfl, rfl⟩

theorem seal_any (w : World) (v : Value) (l : List UInt8) (h : BytesIn w v l) (h4 : l.length = 4) :
    Calls Tryz.prog 107 #[v] w fun e w' => e = .returned (.int .u32 ((num4 l : Nat) : Int)) ∧ w' = w := by
  obtain ⟨⟨a, cap, rfl, hf⟩, _⟩ := h
  match l, h4, hf with
  | [c0, c1, c2, c3], _, hf =>
    obtain ⟨b, off, rfl, hv⟩ := hf (by simp)
    exact seal_some w b off cap c0 c1 c2 c3 hv
end Go.Proofs.YtolalicliojkfaaGreat
namespace Go.Proofs.YtolalicliojkfaaGreat
open Go.RowKit

/-- The bytes, j of the four behind them, and the room of the others. -/
def fill (l : List UInt8) (s j : Nat) : List UInt8 := l ++ ((Crc.le4 s).take j ++ List.replicate (4 - j) 0)
theorem fill_length (l : List UInt8) (s j : Nat) (h : j ≤ 4) : (fill l s j).length = l.length + 4 := by
  unfold fill
  rw [List.length_append, List.length_append, List.length_take, List.length_replicate, show (Crc.le4 s).length = 4 from rfl]
  omega
theorem fill_all (l : List UInt8) : fill l (Crc.sum l) 4 = sealB l := by unfold fill sealB; simp [Crc.le4]
theorem fill_none (l : List UInt8) (s : Nat) : fill l s 0 = l.take (l.length + 4) ++ List.replicate (l.length + 4 - l.length) 0 := by
  unfold fill
  have e : l.take (l.length + 4) = l := List.take_of_length_le (by omega)
  rw [e, show l.length + 4 - l.length = 4 - 0 from by omega, List.take_zero, List.nil_append]
theorem fill_set (l : List UInt8) (s j : Nat) (h : j < 4) : (fill l s j).set (l.length + j) (UInt8.ofNat (s / 2 ^ (8 * j))) = fill l s (j + 1) := by
  unfold fill
  rw [List.set_append_right _ _ (by omega), Nat.add_sub_cancel_left]
  congr 1
  rcases (by omega : j = 0 ∨ j = 1 ∨ j = 2 ∨ j = 3) with rfl | rfl | rfl | rfl <;> simp [Crc.le4, List.replicate]

theorem bc_set (l : List UInt8) (j : Nat) (c : UInt8) : (bc l).set j (.int .u8 (c.toNat : Int)) = bc (l.set j c) := by unfold bc; rw [List.map_set]

set_option maxHeartbeats 1600000 in
theorem sealed_any (w : World) (a0 : Option Addr) (c0 : Nat) (l : List UInt8) (h : BytesIn w (.slice a0 l.length c0) l) (hl : l.length ≤ 140737488351232) :
    Calls Tryz.prog 82 #[.slice a0 l.length c0] w fun e w' => e = .returned (.slice (some ⟨w.heap.size, 0, none⟩) (l.length + 4) (l.length + 4)) ∧ Ext w.heap.size w (.slice none 0 0) w' (.slice (some ⟨w.heap.size, 0, none⟩) (l.length + 4) (l.length + 4)) (sealB l) := by
  have MK := make_bytes (l.length + 4) (by omega) ((l.length : Int) + 4) (by omega)
  obtain ⟨s, hs⟩ : ∃ s, s = Crc.sum l := ⟨_, rfl⟩
  have hsl : s < 4294967296 := by rw [hs]; exact Crc.sum_lt l
  have F0 : Hid (fill l s 0 = l.take (l.length + 4) ++ List.replicate (l.length + 4 - l.length) 0) := fill_none l s
  have F4 : Hid (fill l s 4 = sealB l) := by show _ = _; rw [hs]; exact fill_all l
  have SM : Hid (∀ wx, Below w.heap.size w wx → Calls Tryz.prog 95 #[.slice a0 l.length c0] wx fun e w' => e = .returned (.int .u32 (s : Int)) ∧ w' = wx) := fun wx hw => by rw [hs]; exact sum_any wx _ l (h.later hw)
  have FS : Hid (∀ j, j < 4 → (bc (fill l s j)).set (l.length + j) (.int .u8 ((UInt8.ofNat (s / 2 ^ (8 * j))).toNat : Int)) = bc (fill l s (j + 1))) := fun j hj => by rw [bc_set, fill_set l s j hj]
  have FL : Hid (∀ j, j ≤ 4 → l.length + 4 = (fill l s j).length) := fun j hj => (fill_length l s j hj).symm
  clear hs
  go_enter Tryz.func82, Tryz.ntmps82
  go_wp2_with (first
    | (refine wpList_copy_in _ rfl _ _ rfl w (l.length + 4) l.length c0 l (fill l s 0) rfl rfl a0 rfl rfl h F0.out (by omega) ?_; intro w2 r2 o2 g2; have B2 : Below w.heap.size w w2 := ⟨g2.os, g2.tape, g2.output, g2.size, fun i hi => g2.block i hi (by simp)⟩; clear h F0)
    | (go_at_call 95; refine (SM.out _ B2).mono ?_; rintro e w3 ⟨rfl, rfl⟩; clear SM))
  clear MK
  go_loopw [15] (fun i wr => ∃ j : Nat, j ≤ 4 ∧ i = .int .i64 j ∧ wr.ownsRow w.heap.size 5 1 (.slice (some ⟨w.heap.size, 0, none⟩) (l.length + 4) (l.length + 4)) (l.length + 4) (bc (fill l s j)) ∧ w.grownBy wr none) (fun i _ => 4 - (intOf i).toNat)
  case atStart => exact ⟨0, by omega, rfl, o2, g2⟩
  case round =>
    obtain ⟨j, hj, rfl, ho, hg⟩ := hrel
    clear o2 g2 B2
    by_cases hlt : j < 4
    · have f0 := ho.frozenAt (l.length + j)
      obtain ⟨u0, d0⟩ : ∃ u, wr.cell? ⟨w.heap.size, l.length + j, none⟩ = some u := by
        refine ⟨_, (ho.cellAt (l.length + j) (by omega)).trans (bc_get _ _ ?_)⟩
        rw [← FL.out j (by omega)]; omega
      have HS : Hid (∀ X : Int, X = (s : Int) / 2 ^ (8 * j) % 256 → (wr.setCell ⟨w.heap.size, l.length + j, none⟩ (.int .u8 X)).ownsRow w.heap.size 5 1 (.slice (some ⟨w.heap.size, 0, none⟩) (l.length + 4) (l.length + 4)) (l.length + 4) (bc (fill l s (j + 1))) ∧ w.grownBy (wr.setCell ⟨w.heap.size, l.length + j, none⟩ (.int .u8 X)) none) := fun X hX => by
        obtain ⟨s1, s2⟩ := ho.stored (l.length + j) (.int .u8 X)
        rw [hX, ← ofNat_cell_div, FS.out j hlt] at s1
        rw [hX, ← ofNat_cell_div] at s2 ⊢
        exact ⟨s1, grownBy_trans hg s2 (.inr ⟨_, rfl, Nat.le_refl _⟩)⟩
      clear ho FS FL F4
      rcases (by omega : j = 0 ∨ j = 1 ∨ j = 2 ∨ j = 3) with rfl | rfl | rfl | rfl
      · rw [Nat.add_zero] at d0 f0 HS
        go_wp2_with (fail)
        exact ⟨⟨1, by omega, rfl, (HS.out _ (by simp)).1, (HS.out _ (by simp)).2⟩, by simp [intOf]⟩
      · go_wp2_with (fail)
        exact ⟨⟨2, by omega, rfl, (HS.out _ (by simp)).1, (HS.out _ (by simp)).2⟩, by simp [intOf]⟩
      · go_wp2_with (fail)
        exact ⟨⟨3, by omega, rfl, (HS.out _ (by simp)).1, (HS.out _ (by simp)).2⟩, by simp [intOf]⟩
      · go_wp2_with (fail)
        exact ⟨⟨4, by omega, rfl, (HS.out _ (by simp; omega)).1, (HS.out _ (by simp; omega)).2⟩, by simp [intOf]⟩
    · have e4 : j = 4 := by omega
      subst e4
      rw [F4.out] at ho
      have HL : Hid (l.length + 4 = (sealB l).length) := (sealB_length l).symm
      go_wp2_with (fail)
      go_ret
      exact ⟨rfl, ext_of_own ho HL.out hg⟩
end Go.Proofs.YtolalicliojkfaaGreat
namespace Go.Proofs.YtolalicliojkfaaGreat
open Go.RowKit

theorem BytesIn.part {w : World} {b off n cap : Nat} {l : List UInt8} (h : BytesIn w (.slice (some ⟨b, off, none⟩) n cap) l) (i j : Nat) (hij : i + j ≤ l.length) (cap' : Nat) : BytesIn w (.slice (some ⟨b, off + i, none⟩) j cap') ((l.drop i).take j) := by
  obtain ⟨⟨a, c, e, hf⟩, hlen⟩ := h
  simp only [Value.slice.injEq] at e
  obtain ⟨rfl, rfl, rfl⟩ := e
  have hl : ((l.drop i).take j).length = j := by rw [List.length_take, List.length_drop]; omega
  refine ⟨⟨_, cap', by rw [hl], fun h0 => ⟨b, off + i, rfl, fun k hk => ?_⟩⟩, by omega⟩
  rw [hl] at hk
  obtain ⟨b', off', e, hat⟩ := hf (by intro e; rw [e] at hij; simp at hij; omega)
  simp only [Option.some.injEq, Addr.mk.injEq, and_true] at e
  obtain ⟨rfl, rfl⟩ := e
  have := hat (i + k) (by omega)
  rw [Nat.add_assoc, this]
  simp

theorem ext_undrew {base : Nat} {w w' : World} {v x : Value} {l : List UInt8} (h : Ext base w.drew v w' x l) : Ext base w v w' x l :=
  ⟨h.own, grownBy_undrew h.grown, h.lies⟩

set_option maxHeartbeats 1600000 in
theorem opened_short (w : World) (a0 : Option Addr) (c0 n : Nat) (hn : n < 4) :
    Calls Tryz.prog 97 #[.slice a0 n c0] w fun e w' => e = .returned (.tuple #[.slice none 0 0, .bool false]) ∧ Below w.heap.size w w' := by
  rcases (by omega : n = 0 ∨ n = 1 ∨ n = 2 ∨ n = 3) with rfl | rfl | rfl | rfl
  all_goals go_enter Tryz.func97, Tryz.ntmps97
  all_goals go_wp2_with (fail)
  all_goals go_quiet (fail)
  all_goals go_wp2_with (fail)
  all_goals go_ret2
  all_goals exact ⟨rfl, below_drewN (Below.refl _ _) _⟩

set_option maxHeartbeats 1600000 in
theorem opened_long (w : World) (b off c0 n : Nat) (l : List UInt8) (hl : n + 4 = l.length) (h : BytesIn w (.slice (some ⟨b, off, none⟩) (n + 4) c0) l) (hc : n + 4 ≤ c0) :
    Calls Tryz.prog 97 #[.slice (some ⟨b, off, none⟩) (n + 4) c0] w fun e w' => ∃ v, e = .returned (.tuple #[v, .bool (opnB l)]) ∧ Ext w.heap.size w (.slice none 0 0) w' v (opnL l) := by
  have hn : n ≤ 140737488355328 := by have := h.len; omega
  have hd : (l.drop n).length = 4 := by rw [List.length_drop]; omega
  obtain ⟨x, hx⟩ : ∃ x, x = num4 (l.drop n) := ⟨_, rfl⟩
  obtain ⟨y, hy⟩ : ∃ y, y = Crc.sum (l.take n) := ⟨_, rfl⟩
  have OB : Hid (opnB l = decide (x = y)) := by
    show _ = _
    unfold opnB
    rw [← hl, show n + 4 - 4 = n from by omega, ← hx, ← hy]
    simp
  have OL : Hid (opnL l = if decide (x = y) = true then l.take n else []) := by
    show _ = _
    unfold opnL
    rw [OB.out, ← hl, show n + 4 - 4 = n from by omega]
  have SE : Hid (∀ wx c, Below w.heap.size w wx → Calls Tryz.prog 107 #[.slice (some ⟨b, off + n, none⟩) 4 c] wx fun e w' => e = .returned (.int .u32 (x : Int)) ∧ w' = wx) := fun wx c hw => by
    rw [hx]
    refine seal_any wx _ _ ?_ hd
    have := (h.later hw).part n 4 (by omega) c
    rwa [List.take_of_length_le (by omega)] at this
  have SU : Hid (∀ wx c, Below w.heap.size w wx → Calls Tryz.prog 95 #[.slice (some ⟨b, off, none⟩) n c] wx fun e w' => e = .returned (.int .u32 (y : Int)) ∧ w' = wx) := fun wx c hw => by
    rw [hy]
    exact sum_any wx _ _ ((h.later hw).part 0 n (by omega) c)
  have MK := make_bytes n hn (n : Int) rfl
  have T0 : Hid (l.take n = l.take n ++ List.replicate (n - (n + 4)) 0) := by show _ = _; rw [show n - (n + 4) = 0 from by omega]; simp
  have TL : Hid (n = (l.take n).length) := by show _ = _; rw [List.length_take]; omega
  have LE : Hid (n + 4 = l.length) := hl
  obtain ⟨m, hm⟩ : ∃ m, m = l.take n := ⟨_, rfl⟩
  have HM : Hid (m = l.take n) := hm
  have i2 : (n : Int) ≤ (c0 : Int) := by omega
  have i3 : (n : Int) + 4 ≤ (c0 : Int) := by omega
  have i4 : (n : Int) ≤ (n : Int) + 4 := by omega
  have i5 : ¬ (c0 = n) := by omega
  clear hx hy hl hd hm
  have hD : Below w.heap.size w w.drew := (Below.refl _ _).drew
  have hin : BytesIn w.drew (.slice (some ⟨b, off, none⟩) (n + 4) c0) l := h.later hD
  rw [OB.out, OL.out]
  clear OB OL h
  by_cases hxy : x = y
  · subst hxy
    have c1 : ((x : Int) != (x : Int)) = false := by simp
    have E1 : Hid ((if decide (x = x) = true then l.take n else []) = m) := by show _ = _; rw [HM.out]; simp
    rw [E1.out, decide_eq_true rfl]
    have HT : Hid (m = l.take n ++ List.replicate (n - (n + 4)) 0) := by show _ = _; rw [HM.out]; exact T0.out
    have ML : Hid (n = m.length) := by show _ = _; rw [HM.out]; exact TL.out
    clear T0 TL HM E1
    go_enter Tryz.func97, Tryz.ntmps97
    go_wp2_with (fail)
    go_region_held3 (fun _ => True) (trivial)
      (first
        | (go_at_call 107; first | refine (SE.out _ _ (Below.refl _ _)).mono ?_ | refine (SE.out _ _ (Below.refl _ _).drew).mono ?_; rintro e w1 ⟨rfl, rfl⟩)
        | (go_at_call 95; first | refine (SU.out _ _ (Below.refl _ _)).mono ?_ | refine (SU.out _ _ (Below.refl _ _).drew).mono ?_; rintro e w1 ⟨rfl, rfl⟩))
    clear SE SU
    go_wp2_with (refine wpList_copy_in _ rfl _ _ rfl w.drew n (n + 4) c0 l m rfl rfl _ rfl LE.out hin HT.out hn ?_; intro w2 r2 o2 g2; clear hin)
    go_ret2
    exact ⟨_, rfl, ext_undrew (ext_of_own o2 ML.out g2)⟩
  · have c1 : ((x : Int) != (y : Int)) = true := by simp; omega
    have E1 : Hid ((if decide (x = y) = true then l.take n else []) = []) := by show _ = _; simp [hxy]
    rw [E1.out, decide_eq_false hxy]
    clear hin MK
    go_enter Tryz.func97, Tryz.ntmps97
    go_wp2_with (fail)
    go_region_held3 (fun _ => True) (trivial)
      (first
        | (go_at_call 107; first | refine (SE.out _ _ (Below.refl _ _)).mono ?_ | refine (SE.out _ _ (Below.refl _ _).drew).mono ?_; rintro e w1 ⟨rfl, rfl⟩)
        | (go_at_call 95; first | refine (SU.out _ _ (Below.refl _ _)).mono ?_ | refine (SU.out _ _ (Below.refl _ _).drew).mono ?_; rintro e w1 ⟨rfl, rfl⟩))
    clear SE SU
    go_wp2_with (fail)
    go_ret2
    exact ⟨_, rfl, World.ownsRow_nil _ _ _ _, ⟨hD.os, hD.tape, hD.output, hD.size, fun i hi _ => hD.block i hi⟩, .inl rfl⟩

theorem opened_any (w : World) (a0 : Option Addr) (c0 : Nat) (l : List UInt8) (h : BytesIn w (.slice a0 l.length c0) l) (hc : l.length ≤ c0) :
    Calls Tryz.prog 97 #[.slice a0 l.length c0] w fun e w' => ∃ v, e = .returned (.tuple #[v, .bool (opnB l)]) ∧ Ext w.heap.size w (.slice none 0 0) w' v (opnL l) := by
  by_cases h4 : 4 ≤ l.length
  · obtain ⟨n, hn⟩ : ∃ n, l.length = n + 4 := ⟨l.length - 4, by omega⟩
    have hne : l ≠ [] := by intro e; rw [e] at h4; simp at h4
    have h' := h
    obtain ⟨⟨a, cap, e, hf⟩, hlen⟩ := h
    simp only [Value.slice.injEq, true_and] at e
    obtain ⟨rfl, rfl⟩ := e
    obtain ⟨b, off, rfl, _⟩ := hf hne
    rw [hn] at h' ⊢
    exact opened_long w b off c0 n l hn.symm h' (by omega)
  · refine (opened_short w a0 c0 l.length (by omega)).mono ?_
    rintro e w' ⟨rfl, hb⟩
    have e1 : opnB l = false := by unfold opnB; rw [decide_eq_false h4]; rfl
    have e2 : opnL l = [] := by unfold opnL; rw [e1]; rfl
    rw [e1, e2]
    exact ⟨_, rfl, World.ownsRow_nil _ _ _ _, ⟨hb.os, hb.tape, hb.output, hb.size, fun i hi _ => hb.block i hi⟩, .inl rfl⟩
end Go.Proofs.YtolalicliojkfaaGreat
namespace Go.Proofs.YtolalicliojkfaaGreat
open Go.RowKit

set_option maxHeartbeats 1600000 in
theorem number_some (w : World) (b off cap : Nat) (c0 c1 c2 c3 : UInt8) (h : BytesAt w b off [c0, c1, c2, c3]) :
    Calls Tryz.prog 98 #[.slice (some ⟨b, off, none⟩) 4 cap] w fun e w' => e = .returned (.int .u32 ((num4 [c0, c1, c2, c3] : Nat) : Int)) ∧ w' = w := by
  have d0 : w.cell? ⟨b, off, none⟩ = some (.int .u8 (c0.toNat : Int)) := h 0 (by simp)
  have d1 : w.cell? ⟨b, off + 1, none⟩ = some (.int .u8 (c1.toNat : Int)) := h 1 (by simp)
  have d2 : w.cell? ⟨b, off + 2, none⟩ = some (.int .u8 (c2.toNat : Int)) := h 2 (by simp)
  have d3 : w.cell? ⟨b, off + 3, none⟩ = some (.int .u8 (c3.toNat : Int)) := h 3 (by simp)
  have l0 := UInt8.toNat_lt c0
  have l1 := UInt8.toNat_lt c1
  have l2 := UInt8.toNat_lt c2
  have l3 := UInt8.toNat_lt c3
  obtain ⟨n0, e0⟩ : ∃ n, n = c0.toNat := ⟨_, rfl⟩
  obtain ⟨n1, e1⟩ : ∃ n, n = c1.toNat := ⟨_, rfl⟩
  obtain ⟨n2, e2⟩ : ∃ n, n = c2.toNat := ⟨_, rfl⟩
  obtain ⟨n3, e3⟩ : ∃ n, n = c3.toNat := ⟨_, rfl⟩
  have HN : Hid (n0 + 256 * n1 + 65536 * n2 + 16777216 * n3 = num4 [c0, c1, c2, c3]) := by show _ = _; rw [e0, e1, e2, e3]; rfl
  rw [← e0] at d0 l0
  rw [← e1] at d1 l1
  rw [← e2] at d2 l2
  rw [← e3] at d3 l3
  clear e0 e1 e2 e3 h
  go_enter Tryz.func98, Tryz.ntmps98
  go_wp2_with (fail)
  go_loopw [3, 8] (fun x i wr => ∃ (j r : Nat), j ≤ 4 ∧ i = .int .i64 j ∧ x = .int .u32 r ∧ Hid (r = if j = 0 then 0 else if j = 1 then n0 else if j = 2 then n0 + 256 * n1 else if j = 3 then n0 + 256 * n1 + 65536 * n2 else n0 + 256 * n1 + 65536 * n2 + 16777216 * n3) ∧ wr = w) (fun _ i _ => 4 - (intOf i).toNat)
  case atStart => exact ⟨0, 0, by omega, rfl, rfl, rfl, rfl⟩
  case round =>
    obtain ⟨j, r, hj, rfl, rfl, HR, rfl⟩ := hrel
    by_cases hlt : j < 4
    · rcases (by omega : j = 0 ∨ j = 1 ∨ j = 2 ∨ j = 3) with rfl | rfl | rfl | rfl
      · go_wp2_with (fail)
        have e : r = 0 := HR.out
        subst e
        exact ⟨⟨1, n0, by omega, rfl, by rw [or_zero n0 (by omega)], rfl, trivial⟩, by simp [intOf]⟩
      · go_wp2_with (fail)
        have e : r = n0 := HR.out
        subst e
        exact ⟨⟨2, r + n1 * 2 ^ 8, by omega, rfl, by rw [← or_low r n1 8 (by omega) (by omega)]; rfl, by show _ = _; rw [if_neg (by omega), if_neg (by omega), if_pos rfl]; omega, trivial⟩, by simp [intOf]⟩
      · go_wp2_with (fail)
        have e : r = n0 + 256 * n1 := HR.out
        clear HR
        exact ⟨⟨3, r + n2 * 2 ^ 16, by omega, rfl, by rw [← or_low r n2 16 (by omega) (by omega)]; rfl, by show _ = _; rw [if_neg (by omega), if_neg (by omega), if_neg (by omega), if_pos rfl]; omega, trivial⟩, by simp [intOf]⟩
      · go_wp2_with (fail)
        have e : r = n0 + 256 * n1 + 65536 * n2 := HR.out
        clear HR
        exact ⟨⟨4, r + n3 * 2 ^ 24, by omega, rfl, by rw [← or_low r n3 24 (by omega) (by omega)]; rfl, by show _ = _; rw [if_neg (by omega), if_neg (by omega), if_neg (by omega), if_neg (by omega)]; omega, trivial⟩, by simp [intOf]⟩
    · have e4 : j = 4 := by omega
      subst e4
      have e := HR.out
      have HE : Hid (r = num4 [c0, c1, c2, c3]) := by show _ = _; rw [← HN.out, e]; rfl
      clear e
      go_wp2_with (fail)
      go_ret
      rw [HE.out]
      exact ⟨rfl, rfl⟩

theorem number_any (w : World) (v : Value) (l : List UInt8) (h : BytesIn w v l) (h4 : l.length = 4) :
    Calls Tryz.prog 98 #[v] w fun e w' => e = .returned (.int .u32 ((num4 l : Nat) : Int)) ∧ w' = w := by
  obtain ⟨⟨a, cap, rfl, hf⟩, _⟩ := h
  match l, h4, hf with
  | [c0, c1, c2, c3], _, hf =>
    obtain ⟨b, off, rfl, hv⟩ := hf (by simp)
    exact number_some w b off cap c0 c1 c2 c3 hv

set_option maxHeartbeats 1600000 in
theorem sizeOf_any (w : World) (a0 : Option Addr) (c0 n : Nat) (hn : n ≤ 1048576) :
    Calls Tryz.prog 83 #[.slice a0 n c0] w fun e w' => e = .returned (.slice (some ⟨w.heap.size, 0, none⟩) 4 4) ∧ Ext w.heap.size w (.slice none 0 0) w' (.slice (some ⟨w.heap.size, 0, none⟩) 4 4) (Crc.le4 n) := by
  have MK := make_bytes 4 (by omega) 4 rfl
  have L0 := Ext.lit0 w.heap.size w (zeros 4) (List.replicate 4 0) 4 (Nat.le_refl _) (by rw [bc_zeros]; simp [zeros]) rfl (by decide)
  have F0 : Hid (fill [] n 0 = List.replicate 4 0) := rfl
  have FS : Hid (∀ j, j < 4 → (bc (fill [] n j)).set j (.int .u8 ((UInt8.ofNat (n / 2 ^ (8 * j))).toNat : Int)) = bc (fill [] n (j + 1))) := fun j hj => by
    have := fill_set [] n j hj
    rw [List.length_nil, Nat.zero_add] at this
    rw [bc_set, this]
  have FL : Hid (∀ j, j ≤ 4 → 4 = (fill [] n j).length) := fun j hj => by rw [fill_length [] n j hj]; rfl
  have F4 : Hid (fill [] n 4 = Crc.le4 n) := by show _ = _; unfold fill; simp [Crc.le4]
  have O0 : Hid ((w.alloc (.cells (zeros 4) 5)).ownsRow w.heap.size 5 1 (.slice (some ⟨w.heap.size, 0, none⟩) 4 4) 4 (bc (fill [] n 0))) := by rw [Hid, F0.out]; exact L0.own
  have G0 : Hid (w.grownBy (w.alloc (.cells (zeros 4) 5)) none) := L0.grown
  clear L0
  go_enter Tryz.func83, Tryz.ntmps83
  go_wp2_with (fail)
  go_loopw [8] (fun i wr => ∃ j : Nat, j ≤ 4 ∧ i = .int .i64 j ∧ wr.ownsRow w.heap.size 5 1 (.slice (some ⟨w.heap.size, 0, none⟩) 4 4) 4 (bc (fill [] n j)) ∧ w.grownBy wr none) (fun i _ => 4 - (intOf i).toNat)
  case atStart => exact ⟨0, by omega, rfl, O0.out, G0.out⟩
  case round =>
    obtain ⟨j, hj, rfl, ho, hg⟩ := hrel
    clear O0 G0 MK
    by_cases hlt : j < 4
    · have f0 := ho.frozenAt j
      obtain ⟨u0, d0⟩ : ∃ u, wr.cell? ⟨w.heap.size, j, none⟩ = some u := by
        refine ⟨_, (ho.cellAt j (by omega)).trans (bc_get _ _ ?_)⟩
        rw [← FL.out j (by omega)]; omega
      have HS : Hid (∀ X : Int, X = (n : Int) / 2 ^ (8 * j) % 256 → (wr.setCell ⟨w.heap.size, j, none⟩ (.int .u8 X)).ownsRow w.heap.size 5 1 (.slice (some ⟨w.heap.size, 0, none⟩) 4 4) 4 (bc (fill [] n (j + 1))) ∧ w.grownBy (wr.setCell ⟨w.heap.size, j, none⟩ (.int .u8 X)) none) := fun X hX => by
        obtain ⟨s1, s2⟩ := ho.stored j (.int .u8 X)
        rw [hX, ← ofNat_cell_div, FS.out j hlt] at s1
        rw [hX, ← ofNat_cell_div] at s2 ⊢
        exact ⟨s1, grownBy_trans hg s2 (.inr ⟨_, rfl, Nat.le_refl _⟩)⟩
      clear ho FS FL F4
      rcases (by omega : j = 0 ∨ j = 1 ∨ j = 2 ∨ j = 3) with rfl | rfl | rfl | rfl
      · go_wp2_with (fail)
        exact ⟨⟨1, by omega, rfl, (HS.out _ (by simp)).1, (HS.out _ (by simp)).2⟩, by simp [intOf]⟩
      · go_wp2_with (fail)
        exact ⟨⟨2, by omega, rfl, (HS.out _ (by simp)).1, (HS.out _ (by simp)).2⟩, by simp [intOf]⟩
      · go_wp2_with (fail)
        exact ⟨⟨3, by omega, rfl, (HS.out _ (by simp; omega)).1, (HS.out _ (by simp; omega)).2⟩, by simp [intOf]⟩
      · go_wp2_with (fail)
        exact ⟨⟨4, by omega, rfl, (HS.out _ (by simp; omega)).1, (HS.out _ (by simp; omega)).2⟩, by simp [intOf]⟩
    · have e4 : j = 4 := by omega
      subst e4
      rw [F4.out] at ho
      go_wp2_with (fail)
      go_ret
      exact ⟨rfl, ext_of_own ho rfl hg⟩
end Go.Proofs.YtolalicliojkfaaGreat
namespace Go.Proofs.YtolalicliojkfaaGreat
open Go.RowKit

theorem opnL_four {l : List UInt8} (h : l.length = 8) (ho : opnB l = true) : (opnL l).length = 4 := by
  unfold opnL
  rw [if_pos ho, h, List.length_take, h]
  rfl

theorem ext_none {w w' : World} (hb : Below w.heap.size w w') : Ext w.heap.size w (.slice none 0 0) w' (.slice none 0 0) [] := ext_nil ⟨hb.os, hb.tape, hb.output, hb.size, fun i hi _ => hb.block i hi⟩
theorem ext_after {a b c : World} {v : Value} {l : List UInt8} (h : Below a.heap.size a b) (k : Ext b.heap.size b (.slice none 0 0) c v l) : Ext a.heap.size a (.slice none 0 0) c v l :=
  ⟨own_base k.own h.size, grownBy_trans (⟨h.os, h.tape, h.output, h.size, fun i hi _ => h.block i hi⟩ : a.grownBy b none) k.grown (.inl rfl), by
    rcases k.lies with e | ⟨g, e, hg⟩
    · exact .inl e
    · exact .inr ⟨g, e, Nat.le_trans h.size hg⟩⟩

theorem fread_short (w : World) (a0 : Option Addr) (c0 n : Nat) (hn : n < 8) :
    Calls Tryz.prog 87 #[.slice a0 n c0] w fun e w' => e = .returned (.tuple #[.slice none 0 0, .int .i64 0, .int .i64 4]) ∧ w' = w := by
  go_enter Tryz.func87, Tryz.ntmps87
  go_wp2_with (fail)
  go_ret3
  exact ⟨rfl, rfl⟩

set_option maxHeartbeats 1600000 in
theorem fread_long (w : World) (b off c0 n : Nat) (l : List UInt8) (hl : n = l.length) (h : BytesIn w (.slice (some ⟨b, off, none⟩) n c0) l) (hc : n ≤ c0) (h8 : 8 ≤ n) :
    Calls Tryz.prog 87 #[.slice (some ⟨b, off, none⟩) n c0] w fun e w' => ∃ v, e = .returned (.tuple #[v, .int .i64 ((rdN l : Nat) : Int), .int .i64 (rdE l)]) ∧ Ext w.heap.size w (.slice none 0 0) w' v (rdR l) := by
  have hlen := h.len
  have t8 : (l.take 8).length = 8 := by rw [List.length_take]; omega
  have O1 : Hid (Calls Tryz.prog 97 #[.slice (some ⟨b, off, none⟩) 8 c0] w fun e w' => ∃ v, e = .returned (.tuple #[v, .bool (opnB (l.take 8))]) ∧ Ext w.heap.size w (.slice none 0 0) w' v (opnL (l.take 8))) := by
    have := opened_any w (some ⟨b, off, none⟩) c0 (l.take 8) (by rw [t8]; exact h.part 0 8 (by omega) c0) (by omega)
    rwa [t8] at this
  have N1 : Hid (opnB (l.take 8) = true → ∀ wx v, BytesIn wx v (opnL (l.take 8)) → Calls Tryz.prog 98 #[v] wx fun e w' => e = .returned (.int .u32 ((rdK l : Nat) : Int)) ∧ w' = wx) := fun ho wx v hv => number_any wx v _ hv (opnL_four t8 ho)
  have hK4 : rdK l < 4294967296 := num4_lt _
  obtain ⟨K, hK⟩ : ∃ K, K = rdK l := ⟨_, rfl⟩
  rw [← hK] at N1 hK4
  have G0 : Hid (∀ x : Int, rdE l = x → ¬ x = 0 → rdR l = [] ∧ rdN l = 0) := fun x e hx => by unfold rdR rdN; rw [if_neg (by rw [e]; exact hx), if_neg (by rw [e]; exact hx)]; exact ⟨rfl, rfl⟩
  have i8 : (8 : Int) ≤ (c0 : Int) := by omega
  have j8 : ¬ ((n : Int) < 8) := by omega
  have Lq : Hid ((opnL (l.take 8)).length ≤ 140737488355328) := by
    show _ ≤ _
    unfold opnL
    split
    · rw [List.length_take]; omega
    · exact Nat.zero_le _
  by_cases ho : opnB (l.take 8) = true
  · rw [ho] at O1
    have N2 : Hid (∀ wx v, BytesIn wx v (opnL (l.take 8)) → Calls Tryz.prog 98 #[v] wx fun e w' => e = .returned (.int .u32 (K : Int)) ∧ w' = wx) := N1.out ho
    clear N1
    by_cases hbig : 1048576 < K
    · have E0 : Hid (rdE l = 6) := by show _ = _; unfold rdE; rw [if_neg (by omega), if_neg (by simp [ho]), ← hK, if_pos hbig]
      have Z := G0.out 6 E0.out (by decide)
      rw [E0.out, Z.1, Z.2]
      clear Z E0 G0 ho h hK hl
      have k1 : (K : Int) > 1048576 := by omega
      go_enter Tryz.func87, Tryz.ntmps87
      go_wp2_with (first
        | (go_at_call 97; refine O1.out.mono ?_; rintro e w1 ⟨v1, rfl, x1⟩; have V1 := bytes_of_own x1.own Lq.out; have B1 := x1.below (Nat.le_refl _) (by simp [Value.ownBlock]); clear O1 x1)
        | (go_at_call 98; refine (N2.out _ _ V1).mono ?_; rintro e w2 ⟨rfl, rfl⟩; clear V1))
      go_ret3
      exact ⟨_, rfl, ext_none B1⟩
    · by_cases hsh : n < K + 12
      · have E0 : Hid (rdE l = 4) := by show _ = _; unfold rdE; rw [if_neg (by omega), if_neg (by simp [ho]), ← hK, if_neg hbig, if_pos (by omega)]
        have Z := G0.out 4 E0.out (by decide)
        rw [E0.out, Z.1, Z.2]
        clear Z E0 G0 ho h hK hl
        have k1 : ¬ (K : Int) > 1048576 := by omega
        have k2 : (n : Int) < (K : Int) + 12 := by omega
        go_enter Tryz.func87, Tryz.ntmps87
        go_wp2_with (first
          | (go_at_call 97; refine O1.out.mono ?_; rintro e w1 ⟨v1, rfl, x1⟩; have V1 := bytes_of_own x1.own Lq.out; have B1 := x1.below (Nat.le_refl _) (by simp [Value.ownBlock]); clear O1 x1)
          | (go_at_call 98; refine (N2.out _ _ V1).mono ?_; rintro e w2 ⟨rfl, rfl⟩))
        go_ret3
        exact ⟨_, rfl, ext_none B1⟩
      · have t9 : ((l.drop 8).take (K + 4)).length = K + 4 := by rw [List.length_take, List.length_drop]; omega
        have O2 : Hid (∀ wx c, Below w.heap.size w wx → K + 4 ≤ c → Calls Tryz.prog 97 #[.slice (some ⟨b, off + 8, none⟩) (K + 4) c] wx fun e w' => ∃ v, e = .returned (.tuple #[v, .bool (opnB ((l.drop 8).take (K + 4)))]) ∧ Ext wx.heap.size wx (.slice none 0 0) w' v (opnL ((l.drop 8).take (K + 4)))) := fun wx c hw hc => by
          have := opened_any wx (some ⟨b, off + 8, none⟩) c ((l.drop 8).take (K + 4)) (by rw [t9]; exact (h.later hw).part 8 (K + 4) (by omega) c) (by omega)
          rwa [t9] at this
        have k1 : ¬ (K : Int) > 1048576 := by omega
        have k2 : ¬ (n : Int) < (K : Int) + 12 := by omega
        have k3 : (K : Int) + 12 ≤ (c0 : Int) := by omega
        have k4 : (8 : Int) ≤ (K : Int) + 12 := by omega
        have k5 : ¬ (c0 = 8) := by omega
        have k6 : K + 4 ≤ c0 - 8 := by omega
        by_cases hop : opnB ((l.drop 8).take (K + 4)) = true
        · have E0 : Hid (rdE l = 0) := by show _ = _; unfold rdE; rw [if_neg (by omega), if_neg (by simp [ho]), ← hK, if_neg hbig, if_neg (by omega), hop, if_neg (by simp)]
          have Z : Hid (rdR l = opnL ((l.drop 8).take (K + 4)) ∧ rdN l = K + 12) := by refine ⟨?_, ?_⟩; · unfold rdR; rw [if_pos E0.out, ← hK]
                                                                                       · unfold rdN; rw [if_pos E0.out, ← hK]
          rw [hop] at O2
          rw [E0.out, Z.out.1, Z.out.2]
          clear Z E0 G0 ho h hK hl hop t9
          go_enter Tryz.func87, Tryz.ntmps87
          go_wp2_with (first
            | (go_at_call 97; refine O1.out.mono ?_; rintro e w1 ⟨v1, rfl, x1⟩; have V1 := bytes_of_own x1.own Lq.out; have B1 := x1.below (Nat.le_refl _) (by simp [Value.ownBlock]); clear O1 x1)
            | (go_at_call 98; refine (N2.out _ _ V1).mono ?_; rintro e w2 ⟨rfl, rfl⟩)
            | (go_at_call 97; refine (O2.out _ _ B1 k6).mono ?_; rintro e w3 ⟨v3, rfl, x3⟩; clear O2))
          go_ret3
          exact ⟨_, rfl, ext_after B1 x3⟩
        · have E0 : Hid (rdE l = 6) := by show _ = _; unfold rdE; rw [if_neg (by omega), if_neg (by simp [ho]), ← hK, if_neg hbig, if_neg (by omega), if_pos (by simpa using hop)]
          have Z := G0.out 6 E0.out (by decide)
          have hop' : opnB ((l.drop 8).take (K + 4)) = false := by simpa using hop
          rw [hop'] at O2
          rw [E0.out, Z.1, Z.2]
          clear Z E0 G0 ho h hK hl hop hop' t9
          go_enter Tryz.func87, Tryz.ntmps87
          go_wp2_with (first
            | (go_at_call 97; refine O1.out.mono ?_; rintro e w1 ⟨v1, rfl, x1⟩; have V1 := bytes_of_own x1.own Lq.out; have B1 := x1.below (Nat.le_refl _) (by simp [Value.ownBlock]); clear O1 x1)
            | (go_at_call 98; refine (N2.out _ _ V1).mono ?_; rintro e w2 ⟨rfl, rfl⟩)
            | (go_at_call 97; refine (O2.out _ _ B1 k6).mono ?_; rintro e w3 ⟨v3, rfl, x3⟩; have B3 := B1.trans ((x3.below (Nat.le_refl _) (by simp [Value.ownBlock])).mono B1.size); clear O2 x3))
          go_ret3
          exact ⟨_, rfl, ext_none B3⟩
  · have ho' : opnB (l.take 8) = false := by simpa using ho
    rw [ho'] at O1
    have E0 : Hid (rdE l = 6) := by show _ = _; unfold rdE; rw [if_neg (by omega), if_pos ho']
    have Z := G0.out 6 E0.out (by decide)
    rw [E0.out, Z.1, Z.2]
    clear Z E0 G0 ho ho' h hK hl N1
    go_enter Tryz.func87, Tryz.ntmps87
    go_wp2_with (first
      | (go_at_call 97; refine O1.out.mono ?_; rintro e w1 ⟨v1, rfl, x1⟩; have B1 := x1.below (Nat.le_refl _) (by simp [Value.ownBlock]); clear O1 x1))
    go_ret3
    exact ⟨_, rfl, ext_none B1⟩

/-- READING BYTES: the record, its frame's length, the error, as the definition has them. -/
theorem fread_any (w : World) (a0 : Option Addr) (c0 : Nat) (l : List UInt8) (h : BytesIn w (.slice a0 l.length c0) l) (hc : l.length ≤ c0) :
    Calls Tryz.prog 87 #[.slice a0 l.length c0] w fun e w' => ∃ v, e = .returned (.tuple #[v, .int .i64 ((rdN l : Nat) : Int), .int .i64 (rdE l)]) ∧ Ext w.heap.size w (.slice none 0 0) w' v (rdR l) := by
  by_cases h8 : 8 ≤ l.length
  · have hne : l ≠ [] := by intro e; rw [e] at h8; simp at h8
    have h' := h
    obtain ⟨⟨a, cap, e, hf⟩, hlen⟩ := h
    simp only [Value.slice.injEq, true_and] at e
    obtain ⟨rfl, rfl⟩ := e
    obtain ⟨b, off, rfl, _⟩ := hf hne
    exact fread_long w b off c0 l.length l rfl h' hc h8
  · refine (fread_short w a0 c0 l.length (by omega)).mono ?_
    rintro e w' ⟨rfl, rfl⟩
    have e0 : rdE l = 4 := by unfold rdE; rw [if_pos (by omega)]
    have e1 : rdR l = [] := by unfold rdR; rw [if_neg (by rw [e0]; decide)]
    have e2 : rdN l = 0 := by unfold rdN; rw [if_neg (by rw [e0]; decide)]
    rw [e0, e1, e2]
    exact ⟨_, rfl, ext_none (Below.refl _ _)⟩
end Go.Proofs.YtolalicliojkfaaGreat
namespace Go.Proofs.YtolalicliojkfaaGreat
open Go.RowKit

theorem fappend_long (w : World) (v : Value) (a1 : Option Addr) (c1 n : Nat) (hn : 1048576 < n) :
    Calls Tryz.prog 55 #[v, .slice a1 n c1] w fun e w' => e = .returned (.tuple #[.slice none 0 0, .int .i64 3]) ∧ w' = w := by
  go_enter Tryz.func55, Tryz.ntmps55
  go_wp2_with (fail)
  go_ret2
  exact ⟨rfl, rfl⟩

set_option maxHeartbeats 1600000 in
theorem fappend_any (w : World) (a0 a1 : Option Addr) (c0 c1 : Nat) (l r : List UInt8) (h0 : BytesIn w (.slice a0 l.length c0) l) (h1 : BytesIn w (.slice a1 r.length c1) r) (n0 : a0 = none → c0 = 0) (hr : r.length ≤ 1048576) (hs : l.length + r.length + 12 ≤ 140737488355328) :
    Calls Tryz.prog 55 #[.slice a0 l.length c0, .slice a1 r.length c1] w fun e w' => ∃ g cap, e = .returned (.tuple #[.slice (some ⟨g, 0, none⟩) (l.length + r.length + 12) cap, .int .i64 0]) ∧ Ext w.heap.size w (.slice none 0 0) w' (.slice (some ⟨g, 0, none⟩) (l.length + r.length + 12) cap) (l ++ frm r) := by
  have MK := make_room (l.length + r.length + 12) hs ((l.length : Int) + (r.length : Int) + 12) (by omega)
  have L0 := room_ext w (l.length + r.length + 12) hs
  have K0 : Below w.heap.size w (w.alloc (.cells (zeros (l.length + r.length + 12)) 5)) := (Below.refl _ _).alloc (Nat.le_refl _) _
  have V0 := h0.later K0
  obtain ⟨q, hq⟩ : ∃ q, q = Crc.le4 r.length := ⟨_, rfl⟩
  have lq : q.length = 4 := by rw [hq]; rfl
  have SZ : Hid (∀ wx, Calls Tryz.prog 83 #[.slice a1 r.length c1] wx fun e w' => e = .returned (.slice (some ⟨wx.heap.size, 0, none⟩) 4 4) ∧ Ext wx.heap.size wx (.slice none 0 0) w' (.slice (some ⟨wx.heap.size, 0, none⟩) 4 4) q) := fun wx => by rw [hq]; exact sizeOf_any wx a1 c1 r.length hr
  have SE : Hid (∀ wx g, BytesIn wx (.slice (some ⟨g, 0, none⟩) 4 4) q → Calls Tryz.prog 82 #[.slice (some ⟨g, 0, none⟩) 4 4] wx fun e w' => e = .returned (.slice (some ⟨wx.heap.size, 0, none⟩) 8 8) ∧ Ext wx.heap.size wx (.slice none 0 0) w' (.slice (some ⟨wx.heap.size, 0, none⟩) 8 8) (sealB q) ∧ BytesIn w' (.slice (some ⟨wx.heap.size, 0, none⟩) 8 8) (sealB q)) := fun wx g hg => by
    have := sealed_any wx (some ⟨g, 0, none⟩) 4 q (by rw [lq]; exact hg) (by omega)
    rw [lq] at this
    refine this.mono ?_
    rintro e w' ⟨rfl, hx⟩
    exact ⟨rfl, hx, bytes_of_own hx.own (by rw [sealB_length]; omega)⟩
  have SR : Hid (∀ wx, Below w.heap.size w wx → Calls Tryz.prog 82 #[.slice a1 r.length c1] wx fun e w' => e = .returned (.slice (some ⟨wx.heap.size, 0, none⟩) (r.length + 4) (r.length + 4)) ∧ Ext wx.heap.size wx (.slice none 0 0) w' (.slice (some ⟨wx.heap.size, 0, none⟩) (r.length + 4) (r.length + 4)) (sealB r) ∧ BytesIn w' (.slice (some ⟨wx.heap.size, 0, none⟩) (r.length + 4) (r.length + 4)) (sealB r)) := fun wx hw => by
    refine (sealed_any wx a1 c1 r (h1.later hw) (by omega)).mono ?_
    rintro e w' ⟨rfl, hx⟩
    exact ⟨rfl, hx, bytes_of_own hx.own (by rw [sealB_length]; omega)⟩
  have M1 : Hid ((sealB q).length = 8) := by show _ = _; rw [sealB_length, lq]
  have M2 : Hid ((sealB r).length = r.length + 4) := sealB_length r
  have FE : Hid (l ++ sealB q ++ sealB r = l ++ frm r) := by show _ = _; unfold frm; rw [hq, List.append_assoc]
  have Y1 : Hid (([] : List UInt8).length + l.length ≤ 140737488355328) := by show _ ≤ _; rw [List.length_nil]; omega
  have Y2 : Hid (l.length + (sealB q).length ≤ 140737488355328) := by show _ ≤ _; rw [M1.out]; omega
  have Y3 : Hid ((l ++ sealB q).length + (sealB r).length ≤ 140737488355328) := by show _ ≤ _; rw [List.length_append, M1.out, M2.out]; omega
  have Y4 : Hid (∀ L, L = (l ++ sealB q ++ sealB r).length → L = l.length + r.length + 12) := fun L e => by rw [e, List.length_append, List.length_append, M1.out, M2.out]; omega
  have lq4 : Hid (q.length ≤ 140737488355328) := by show _ ≤ _; omega
  have HR : Hid (r.length + 4 = (sealB r).length) := M2.out.symm
  have HQ : Hid (8 = (sealB q).length) := M1.out.symm
  clear h0 h1 hq lq
  go_enter Tryz.func55, Tryz.ntmps55
  go_wp2_with (first
    | (at_builtin; refine wpList_app_bytes _ rfl _ _ rfl w.heap.size w.heap.size _ [] l 0 l.length c0 rfl rfl rfl L0.own a0 rfl V0 n0 Y1.out K0.size ?_; intro g1 cap1 L1 w1 HL1 x1; have R1 := L0.trans x1; rw [List.nil_append] at R1 HL1; have B1 := R1.below (Nat.le_refl _) (by simp [Value.ownBlock]); clear L0 x1 V0 Y1 K0)
    | (go_at_call 83; refine (SZ.out _).mono ?_; rintro e w2 ⟨rfl, x2⟩; have R2 := R1.beside x2; have V2 := bytes_of_own x2.own lq4.out; clear SZ x2 R1)
    | (go_at_call 82; refine (SE.out _ _ V2).mono ?_; rintro e w3 ⟨rfl, x3, V3⟩; have R3 := R2.beside x3; have O3 : w3.ownsRow w.heap.size 5 1 (.slice (some ⟨g1, 0, none⟩) L1 cap1) L1 (bc l) := (by have := R3.own; rw [← HL1.out] at this; exact this); have z3 := R3.size; clear SE V2 x3 R2)
    | (at_builtin; refine wpList_app_bytes _ rfl _ _ rfl w.heap.size g1 cap1 l (sealB q) L1 8 8 HL1.out HQ.out rfl O3 _ rfl V3 (fun e => by cases e) Y2.out z3 ?_; intro g4 cap4 L4 w4 HL4 x4; have R4 := R3.trans x4; have B4 := R4.below (Nat.le_refl _) (by simp [Value.ownBlock]); clear R3 x4 O3 V3 Y2 HL1 z3)
    | (go_at_call 82; refine (SR.out _ B4).mono ?_; rintro e w5 ⟨rfl, x5, V5⟩; have R5 := R4.beside x5; have O5 : w5.ownsRow w.heap.size 5 1 (.slice (some ⟨g4, 0, none⟩) L4 cap4) L4 (bc (l ++ sealB q)) := (by have := R5.own; rw [← HL4.out] at this; exact this); have z5 := R5.size; clear SR x5 R4)
    | (at_builtin; refine wpList_app_bytes _ rfl _ _ rfl w.heap.size g4 cap4 (l ++ sealB q) (sealB r) L4 (r.length + 4) (r.length + 4) HL4.out HR.out rfl O5 _ rfl V5 (fun e => by cases e) Y3.out z5 ?_; intro g6 cap6 L6 w6 HL6 x6; have R6 := R5.trans x6; clear R5 x6 O5 V5 Y3 HL4 z5))
  go_ret2
  have e := Y4.out _ HL6.out
  subst e
  rw [FE.out] at R6
  exact ⟨g6, cap6, rfl, R6⟩
end Go.Proofs.YtolalicliojkfaaGreat
namespace Go.Proofs.YtolalicliojkfaaGreat
open Go.RowKit

theorem low_bit (b j : Nat) (hb : b < 4294967296) : bits .and .u32 ((b : Int) / 2 ^ j) 1 = if b.testBit j = true then 1 else 0 := by
  have e : ((b : Int) / 2 ^ j) = ((b / 2 ^ j : Nat) : Int) := by simp
  rw [e, low_one _ (Nat.lt_of_le_of_lt (Nat.div_le_self _ _) hb), Nat.testBit_eq_decide_div_mod_eq]
  rcases Nat.mod_two_eq_zero_or_one (b / 2 ^ j) with h | h <;> simp [h]

/-- One bit of a byte turned. -/
theorem xor_bit (c : UInt8) (k : Nat) (hk : k < 8) : bits .xor .u8 (c.toNat : Int) (2 ^ k % 256) = ((c ^^^ UInt8.ofNat (2 ^ k)).toNat : Int) := by
  have hp : 2 ^ k < 256 := by
    have : 2 ^ k ≤ 2 ^ 7 := Nat.pow_le_pow_right (by decide) (by omega)
    exact Nat.lt_of_le_of_lt this (by decide)
  have e : ((2 : Int) ^ k % 256) = ((2 ^ k : Nat) : Int) := by
    have : ((2 ^ k : Nat) : Int) = (2 : Int) ^ k := by simp
    rw [← this]
    clear this
    generalize (2 : Nat) ^ k = z at hp ⊢
    omega
  rw [e, u8_xor_nat _ _ (UInt8.toNat_lt c) hp, UInt8.toNat_xor, UInt8.toNat_ofNat', Nat.mod_eq_of_lt hp]
theorem flip_at (m : List UInt8) (q : Nat) (h : q / 8 < m.length) : m.set (q / 8) (m[q / 8] ^^^ UInt8.ofNat (2 ^ (q % 8))) = Crc.flip m q := by
  unfold Crc.flip
  rw [List.getD_eq_getElem?_getD, List.getElem?_eq_getElem h]
  rfl

end Go.Proofs.YtolalicliojkfaaGreat
