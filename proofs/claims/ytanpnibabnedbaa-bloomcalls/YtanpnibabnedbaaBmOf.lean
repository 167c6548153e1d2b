/-
  A filter that is made of keys, and two put together: what the program's calls answer.
-/
import Derived.Test.YtanpnibabnedbaaBmSet
import Derived.Test.YtanpnibabnedbaaBmHas
import Derived.Test.YtanpnibabnedbaaBmTexts
namespace Go.Proofs.Ytanpnibabnedbaa
open Go.RowKit

/-- The keys, as bytes. -/
def keysOf (l : List ByteArray) : List (List UInt8) := l.map fun s => s.data.toList
/-- The filter behind the first j keys. -/
def part (l : List ByteArray) (d j : Nat) : List UInt8 := Bm.putAll (List.replicate (Bm.bytes l.length d) 0) (Bm.rounds d) (((keysOf l).map Bm.hash).take j)
theorem part_zero (l : List ByteArray) (d : Nat) : part l d 0 = List.replicate (Bm.bytes l.length d) 0 := by unfold part; rw [List.take_zero]; rfl
theorem part_length (l : List ByteArray) (d j : Nat) : (part l d j).length = Bm.bytes l.length d := by unfold part; rw [Bm.putAll_length, List.length_replicate]
theorem part_succ (l : List ByteArray) (d j : Nat) (h : j < l.length) : part l d (j + 1) = Bm.putK (part l d j) (Bm.hash (l[j]).data.toList) (Bm.rounds d) := by
  unfold part
  rw [List.take_succ_eq_append_getElem (by simpa [keysOf] using h), Bm.putAll_snoc]
  simp [keysOf]
theorem part_all (l : List ByteArray) (d : Nat) : part l d l.length = Bm.body (keysOf l) d := by
  unfold part Bm.body
  rw [List.take_of_length_le (by simp [keysOf])]
  simp [keysOf]

theorem bc_cons (c : UInt8) (l : List UInt8) : bc (c :: l) = .int .u8 (c.toNat : Int) :: bc l := rfl

set_option maxHeartbeats 1600000 in
theorem rounds_any (w : World) (d : Nat) (h1 : 1 ≤ d) (h2 : d ≤ 16) : Calls Try.prog 25 #[.int .i64 (d : Int)] w fun e w' => e = .returned (.int .u8 ((Bm.rounds d : Nat) : Int)) ∧ w' = w := by
  have hr := Bm.rounds_le d h1 h2
  have E : Hid (((d : Int) * 69 + 99) / 100 = ((Bm.rounds d : Nat) : Int)) := by show _ = _; unfold Bm.rounds; omega
  have E2 : IntKind.u8.wrap (((d : Int) * 69 + 99) / 100) = ((Bm.rounds d : Nat) : Int) := by rw [E.out, IntKind.wrap_u8]; omega
  go_enter Try.func25, Try.ntmps25
  go_wp2_with (fail)
  go_ret
  exact ⟨by first | rfl | (rw [← E.out]; rfl) | (rw [← E2]; rfl), rfl⟩

set_option maxHeartbeats 1600000 in
theorem of_ok (w : World) (v : Value) (l : List ByteArray) (d : Nat) (h : TextsIn w v l) (hl : l.length ≤ 1048576) (hs : ∀ s ∈ l, s.size ≤ 140737488355328) (h1 : 1 ≤ d) (h2 : d ≤ 16) :
    Calls Try.prog 7 #[v, .int .i64 (d : Int)] w fun e w' => ∃ n, e = .returned (.tuple #[.slice (some ⟨w.heap.size, 0, none⟩) n n, .int .i64 0]) ∧ n = (Bm.filt (keysOf l) d).length ∧ Ext w.heap.size w (.slice none 0 0) w' (.slice (some ⟨w.heap.size, 0, none⟩) n n) (Bm.filt (keysOf l) d) := by
  obtain ⟨a, cap, rfl, hc1, hc2, hc3, hf⟩ := h
  obtain ⟨L, hL⟩ : ∃ L, L = l.length := ⟨_, rfl⟩
  obtain ⟨m, hm⟩ : ∃ m, m = Bm.bytes l.length d := ⟨_, rfl⟩
  have hprod : l.length * d ≤ 1048576 * 16 := Nat.mul_le_mul hl h2
  have hm1 : 1 ≤ m := by rw [hm]; exact Bm.bytes_pos _ _
  have hm2 : m ≤ 2097153 := by rw [hm]; unfold Bm.bytes; omega
  obtain ⟨p, hp⟩ : ∃ p, p = l.length * d := ⟨_, rfl⟩
  rw [← hL] at hp
  have P1 : (L : Int) * (d : Int) = (p : Int) := by rw [hp]; simp
  have M1 : max (1 : Int) (((p : Int) + 8 - 1) / 8) = (m : Int) := by rw [hm]; unfold Bm.bytes; rw [← hL, ← hp]; omega
  have M2 : (if (1 : Int) < ((p : Int) + 8 - 1) / 8 then ((p : Int) + 8 - 1) / 8 else 1) = (m : Int) := by rw [← M1]; split <;> omega
  have M3 : (if ((p : Int) + 8 - 1) / 8 < (1 : Int) then 1 else ((p : Int) + 8 - 1) / 8) = (m : Int) := by rw [← M1]; split <;> omega
  have hp2 : p ≤ 16777216 := by rw [hp, hL]; omega
  have MK := make_bytes (m + 1) (by omega) (1 + (m : Int)) (by omega)
  have RO : Hid (∀ wx, Calls Try.prog 25 #[.int .i64 (d : Int)] wx fun e w' => e = .returned (.int .u8 ((Bm.rounds d : Nat) : Int)) ∧ w' = wx) := fun wx => rounds_any wx d h1 h2
  have W1 : wrap64 ((L : Int) * (d : Int)) = (p : Int) := by rw [P1]; unfold wrap64; omega
  rw [← hL] at hc1 hl ⊢
  have hr := Bm.rounds_le d h1 h2
  obtain ⟨R, hR⟩ : ∃ R, R = Bm.rounds d := ⟨_, rfl⟩
  rw [← hR] at RO hr
  obtain ⟨c0, hc0⟩ : ∃ c0 : UInt8, c0 = UInt8.ofNat R := ⟨_, rfl⟩
  have ec : c0.toNat = R := by rw [hc0, UInt8.toNat_ofNat']; omega
  have HFL : Hid (m + 1 = (Bm.filt (keysOf l) d).length) := by show _ = _; rw [Bm.filt_length, hm]; simp [keysOf]
  have HFI : Hid (c0 :: part l d l.length = Bm.filt (keysOf l) d) := by show _ = _; rw [part_all, hc0, hR]; rfl
  have ST : Hid (∀ wx j, j < l.length → wx.ownsRow w.heap.size 5 1 (.slice (some ⟨w.heap.size, 0, none⟩) (m + 1) (m + 1)) (m + 1) (bc (c0 :: part l d j)) → ∀ (H : Nat), H = Bm.hash (l[j]!).data.toList →
      Calls Try.prog 26 #[.slice (some ⟨w.heap.size, 0, none⟩) (m + 1) (m + 1), .int .u64 (H : Int)] wx fun e w' => e = .returned (.tuple #[]) ∧ w'.ownsRow w.heap.size 5 1 (.slice (some ⟨w.heap.size, 0, none⟩) (m + 1) (m + 1)) (m + 1) (bc (c0 :: part l d (j + 1))) ∧ wx.grownBy w' (some w.heap.size)) := fun wx j hj ho H hH => by
    have hp := part_length l d j
    have := set_any wx w.heap.size w.heap.size (m + 1) (m + 1) H c0 (part l d j) (by rw [hp, hm]) (by omega) ho (Nat.le_refl _) (by omega) (by rw [hH]; exact Bm.hash_lt _)
    rwa [ec, hH, hR, getElem!_pos l j hj, ← part_succ l d j hj, ← getElem!_pos l j hj, ← hH] at this
  have O0 : Hid (Ext w.heap.size w (.slice none 0 0) (w.alloc (.cells ((zeros (m + 1)).setIfInBounds 0 (.int .u8 (R : Int))) 5)) (.slice (some ⟨w.heap.size, 0, none⟩) (m + 1) (m + 1)) (c0 :: part l d 0)) := by
    refine Ext.lit0 w.heap.size w _ _ (m + 1) (Nat.le_refl _) ?_ (by rw [List.length_cons, part_length, hm]) (by unfold maxLen; omega)
    rw [part_zero, bc_cons, bc_zeros, ec, ← hm]
    unfold zeros
    rw [List.replicate_succ]
    simp
  have HL : Hid (L = l.length) := hL
  have HF : Hid (l ≠ [] → ∃ b off, a = some ⟨b, off, none⟩ ∧ ∀ j (h : j < l.length), w.cell? ⟨b, off + j, none⟩ = some (.string l[j])) := hf
  have HM : Hid (m = Bm.bytes l.length d) := hm
  clear hprod hL hf hm hp P1 hR hc0 ec
  go_enter Try.func7, Try.ntmps7
  go_wp2_with (go_at_call 25; refine (RO.out _).mono ?_; rintro e w1 ⟨rfl, rfl⟩; clear RO)
  clear MK M1 M2 M3 W1
  obtain ⟨n, hn⟩ : ∃ n, n = m + 1 := ⟨_, rfl⟩
  rw [← hn] at ST O0 HFL ⊢
  have HN : Hid (n = m + 1) := hn
  clear hn
  go_loopw [36] (fun i wr => ∃ j : Nat, j ≤ L ∧ i = .int .i64 j ∧ wr.ownsRow w.heap.size 5 1 (.slice (some ⟨w.heap.size, 0, none⟩) n n) n (bc (c0 :: part l d j)) ∧ w.grownBy wr none) (fun i _ => L - (intOf i).toNat)
  case atStart =>
    refine ⟨0, Nat.zero_le _, rfl, ?_, O0.out.grown⟩
    have := O0.out.own
    rwa [List.length_cons, part_length, ← HM.out, ← HN.out] at this
  case round =>
    obtain ⟨j, hj, rfl, ho, hg⟩ := hrel
    clear O0
    by_cases hlt : j < L
    · have hjl : j < l.length := by rw [← HL.out]; exact hlt
      obtain ⟨b, off, rfl, hat⟩ := HF.out (fun h0 => by rw [h0] at hjl; cases hjl)
      have d1 := keepC (below_of hg) (hat j hjl)
      obtain ⟨s, hs'⟩ : ∃ s, s = l[j] := ⟨_, rfl⟩
      rw [← hs'] at d1
      obtain ⟨H, hH⟩ : ∃ H, H = Bm.hash s.data.toList := ⟨_, rfl⟩
      have HA : Hid (∀ wx, Calls Try.prog 10 #[.string s] wx fun e w' => e = .returned (.int .u64 (H : Int)) ∧ w' = wx) := fun wx => by rw [hH]; exact hash_any wx s (by rw [hs']; exact hs _ (List.getElem_mem hjl))
      have SJ : Hid (Calls Try.prog 26 #[.slice (some ⟨w.heap.size, 0, none⟩) n n, .int .u64 (H : Int)] wr fun e w' => e = .returned (.tuple #[]) ∧ w'.ownsRow w.heap.size 5 1 (.slice (some ⟨w.heap.size, 0, none⟩) n n) n (bc (c0 :: part l d (j + 1))) ∧ wr.grownBy w' (some w.heap.size)) := ST.out wr j hjl ho H (by rw [hH, hs', getElem!_pos l j hjl])
      have HG : Hid (w.grownBy wr none) := hg
      clear hat hs' hH ST ho hg hs
      go_wp2_with (first
        | (go_at_call 10; refine (HA.out _).mono ?_; rintro e w2 ⟨rfl, rfl⟩; clear HA)
        | (go_at_call 26; refine SJ.out.mono ?_; rintro e w3 ⟨rfl, o3, g3⟩; clear SJ))
      exact ⟨⟨j + 1, by omega, by go_num, o3, grownBy_trans HG.out g3 (.inr ⟨_, rfl, Nat.le_refl _⟩)⟩, by simp [intOf]; omega⟩
    · have ej : j = l.length := by rw [← HL.out]; omega
      have hlt' : ¬ (j : Int) < (L : Int) := by omega
      have E : Hid (w.grownBy wr none ∧ wr.ownsRow w.heap.size 5 1 (.slice (some ⟨w.heap.size, 0, none⟩) n n) n (bc (Bm.filt (keysOf l) d))) := by
        subst ej
        rw [HFI.out] at ho
        exact ⟨hg, ho⟩
      clear ej ho hg hs ST
      go_wp2_with (fail)
      go_ret2
      exact ⟨n, rfl, HFL.out, ext_of_own E.out.2 HFL.out E.out.1⟩

set_option maxHeartbeats 800000 in
theorem of_bad (w : World) (a : Option Addr) (n cap : Nat) (d : Int) (hl : n ≤ 1048576) (h : d < 1 ∨ 16 < d) :
    Calls Try.prog 7 #[.slice a n cap, .int .i64 d] w fun e w' => e = .returned (.tuple #[.slice none 0 0, .int .i64 2]) ∧ w' = w := by
  have i1 : ¬ (n : Int) > 1048576 := by omega
  by_cases h1 : d < 1
  · go_enter Try.func7, Try.ntmps7
    go_wp2_with (fail)
    go_ret2
    exact ⟨rfl, rfl⟩
  · have h2 : d > 16 := by omega
    go_enter Try.func7, Try.ntmps7
    go_wp2_with (fail)
    go_ret2
    exact ⟨rfl, rfl⟩
end Go.Proofs.Ytanpnibabnedbaa
