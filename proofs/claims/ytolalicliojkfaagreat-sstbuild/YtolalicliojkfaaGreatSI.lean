/-
  The hash of a key: what the program's call answers. .. and what follows from it.
-/
import Derived.Test.YtolalicliojkfaaGreatSC
import Derived.Test.YtolalicliojkfaaGreatSB
import Derived.Laws.BitsAllLaws
namespace Go.Proofs.YtolalicliojkfaaGreat
open Go.RowKit

theorem str_take (s : ByteArray) (k : Nat) (h : k < s.size) : Bm.hash (s.data.toList.take (k + 1)) = Bm.hash1 (Bm.hash (s.data.toList.take k)) s[k] := by
  rw [Bm.hash_take _ _ (by simpa using h)]; rfl

theorem hash_step (r : Nat) (hr : r < 18446744073709551616) (c : UInt8) : IntKind.u64.wrap (bits .xor .u64 (r : Int) (IntKind.u64.wrap (c.toNat : Int)) * 1099511628211) = ((Bm.hash1 r c : Nat) : Int) := by
  have hc := UInt8.toNat_lt c
  have e : IntKind.u64.wrap (c.toNat : Int) = (c.toNat : Int) := by rw [IntKind.wrap_u64]; omega
  rw [e, u64_xor_nat r c.toNat hr (by omega)]
  unfold Bm.hash1
  rw [IntKind.wrap_u64]
  omega

set_option maxHeartbeats 800000 in
theorem hash_any (w : World) (s : ByteArray) (hs : s.size ≤ 140737488355328) :
    Calls Tryz.prog 63 #[.string s] w fun e w' => e = .returned (.int .u64 ((Bm.hash s.data.toList : Nat) : Int)) ∧ w' = w := by
  go_enter Tryz.func63, Tryz.ntmps63
  go_wp2_with (fail)
  go_loopw [3, 7] (fun x i wr => ∃ (j r : Nat), j ≤ s.size ∧ i = .int .i64 j ∧ x = .int .u64 r ∧ r < 18446744073709551616 ∧ Hid (r = Bm.hash (s.data.toList.take j)) ∧ wr = w) (fun _ i _ => s.size - (intOf i).toNat)
  case atStart => exact ⟨0, Bm.start, Nat.zero_le _, rfl, rfl, by decide, rfl, rfl⟩
  case round =>
    obtain ⟨j, r, hj, rfl, rfl, hr, HR, rfl⟩ := hrel
    by_cases hlt : j < s.size
    · have X2 := hash_step r hr s[j]
      obtain ⟨q, hq⟩ : ∃ q, q = Bm.hash1 r s[j] := ⟨_, rfl⟩
      have HQ : Hid (q = Bm.hash (s.data.toList.take (j + 1))) := by show _ = _; rw [str_take s j hlt, ← HR.out]; exact hq
      have hql : q < 18446744073709551616 := by rw [hq]; exact Bm.hash1_lt _ _
      rw [← hq] at X2
      have HX : Hid (IntKind.u64.wrap (bits .xor .u64 (r : Int) (IntKind.u64.wrap (s[j].toNat : Int)) * 1099511628211) = (q : Int)) := X2
      clear hq X2
      go_wp2_with (fail)
      exact ⟨⟨j + 1, q, by omega, by go_num, by rw [HX.out], hql, HQ, trivial⟩, by simp [intOf]; omega⟩
    · have ej : j = s.size := by omega
      subst ej
      have HZ : Hid (r = Bm.hash s.data.toList) := by show _ = _; rw [HR.out, List.take_of_length_le (by simp)]
      go_wp2_with (fail)
      go_ret
      rw [HZ.out]
      exact ⟨rfl, rfl⟩
end Go.Proofs.YtolalicliojkfaaGreat
namespace Go.Proofs.YtolalicliojkfaaGreat
open Go.RowKit

theorem and_low (h : Nat) (hh : h < 18446744073709551616) : bits .and .u64 (h : Int) 4294967295 = ((Bm.low h : Nat) : Int) := by
  have := u64_and_nat h 4294967295 hh (by decide)
  rw [show (4294967295 : Nat) = 2 ^ 32 - 1 from rfl, Nat.and_two_pow_sub_one_eq_mod] at this
  exact this
theorem or_high (h : Nat) (hh : h < 18446744073709551616) : bits .or .u64 ((h : Int) / 4294967296) 1 = ((Bm.high h : Nat) : Int) := by
  have := u64_or_nat (h / 4294967296) 1 (by omega) (by decide)
  exact this
theorem and_seven (p : Nat) (hp : p < 18446744073709551616) : bits .and .u64 (p : Int) 7 = ((p % 8 : Nat) : Int) := by
  have := u64_and_nat p 7 hp (by decide)
  rw [show (7 : Nat) = 2 ^ 3 - 1 from rfl, Nat.and_two_pow_sub_one_eq_mod] at this
  exact this

set_option maxHeartbeats 800000 in
theorem bit_any (w : World) (a : Option Addr) (n cap h i : Nat) (hn : 0 < n) (hn2 : n ≤ 140737488355328) (hh : h < 18446744073709551616) (hi : i < 256) :
    Calls Tryz.prog 77 #[.slice a n cap, .int .u64 (h : Int), .int .u8 (i : Int)] w fun e w' => e = .returned (.tuple #[.int .u64 ((Bm.place h i (8 * n) / 8 : Nat) : Int), .int .u8 ((2 ^ (Bm.place h i (8 * n) % 8) : Nat) : Int)]) ∧ w' = w := by
  have A := and_low h hh
  have B := or_high h hh
  have hs := Bm.sum_lt h i hh hi
  have l1 := Bm.low_lt h
  have l2 := Bm.high_lt h hh
  obtain ⟨P, hP⟩ : ∃ P, P = Bm.place h i (8 * n) := ⟨_, rfl⟩
  have hPl : P < 8 * n := by rw [hP]; exact Bm.place_lt _ _ _ (by omega)
  rw [← hP]
  have hP' : P = (Bm.low h + i * Bm.high h) % (8 * n) := hP
  obtain ⟨lo, hlo⟩ : ∃ x, x = Bm.low h := ⟨_, rfl⟩
  obtain ⟨hg, hhg⟩ : ∃ x, x = Bm.high h := ⟨_, rfl⟩
  rw [← hlo] at A hs l1 hP'
  rw [← hhg] at B hs l2 hP'
  obtain ⟨m, hm⟩ : ∃ m, m = i * hg := ⟨_, rfl⟩
  rw [← hm] at hs hP'
  have C : IntKind.u64.wrap ((i : Int) * (hg : Int)) = (m : Int) := by rw [hm, IntKind.wrap_u64]; rw [← Int.natCast_mul]; omega
  have D : IntKind.u64.wrap ((lo : Int) + (m : Int)) = ((lo + m : Nat) : Int) := by rw [IntKind.wrap_u64]; omega
  obtain ⟨s, hs'⟩ : ∃ s, s = lo + m := ⟨_, rfl⟩
  rw [← hs'] at D hP'
  have E : ((s : Int)).tmod (8 * (n : Int)) = (P : Int) := by
    rw [Int.tmod_eq_emod_of_nonneg (by omega), hP']; simp
  have F := and_seven P (by omega)
  obtain ⟨r, hr⟩ : ∃ r, r = P % 8 := ⟨_, rfl⟩
  rw [← hr] at F ⊢
  have hr8 : r < 8 := by rw [hr]; exact Nat.mod_lt _ (by decide)
  have i5 : min r 8 = r := by omega
  have HB : Hid (((2 ^ r : Nat) : Int) = (2 : Int) ^ r % 256) := by
    have h1 := Bm.bit_lt r hr8
    have h2 : (2 : Int) ^ r = ((2 ^ r : Nat) : Int) := by simp
    show _ = _
    rw [h2]
    generalize (2 ^ r : Nat) = z at h1
    omega
  have HP : Hid (((P / 8 : Nat) : Int) = (P : Int) / 8) := by show _ = _; omega
  clear hP hP' hlo hhg hm hs' hr
  go_enter Tryz.func77, Tryz.ntmps77
  go_wp2_with (fail)
  go_ret2
  rw [HB.out, HP.out]
  exact ⟨rfl, rfl⟩
end Go.Proofs.YtolalicliojkfaaGreat
namespace Go.Proofs.YtolalicliojkfaaGreat
open Go.RowKit

def okE (f : List UInt8) : Int := if Bm.ok f = true then 0 else 5
theorem okE_ok {f : List UInt8} (h : Bm.ok f = true) : okE f = 0 := by unfold okE; rw [if_pos h]
theorem okE_bad {f : List UInt8} (h : Bm.ok f = false) : okE f = 5 := by unfold okE; rw [h]; rfl
theorem ok_iff (f : List UInt8) : Bm.ok f = true ↔ 2 ≤ f.length ∧ 1 ≤ (f.headD 0).toNat ∧ (f.headD 0).toNat ≤ 12 := by unfold Bm.ok; simp

theorem headD_get (f : List UInt8) (h : 0 < f.length) : f[0] = f.headD 0 := by
  cases f with
  | nil => simp at h
  | cons c l => rfl

set_option maxHeartbeats 800000 in
theorem bcheckF_any (w : World) (a : Option Addr) (cap : Nat) (f : List UInt8) (h : BytesIn w (.slice a f.length cap) f) :
    Calls Tryz.prog 42 #[.slice a f.length cap] w fun e w' => e = .returned (.int .i64 (okE f)) ∧ w' = w := by
  by_cases h2 : f.length < 2
  · have E : Hid (okE f = 5) := okE_bad (by rw [Bool.eq_false_iff]; intro hk; have := (ok_iff f).mp hk; omega)
    have i1 : (f.length : Int) < 2 := by omega
    clear h
    go_enter Tryz.func42, Tryz.ntmps42
    go_wp2_with (fail)
    go_ret
    rw [E.out]
    exact ⟨rfl, rfl⟩
  · obtain ⟨b, off, rfl, d0⟩ := h.spot 0 (by omega)
    obtain ⟨k, hk⟩ : ∃ k : Nat, k = (f.headD 0).toNat := ⟨_, rfl⟩
    have hk256 : k < 256 := by rw [hk]; exact UInt8.toNat_lt _
    rw [headD_get f (by omega), ← hk, Nat.add_zero] at d0
    have OK := ok_iff f
    rw [← hk] at OK
    have i1 : ¬ (f.length : Int) < 2 := by omega
    have i0 : (0 : Int) < (f.length : Int) := by omega
    clear h hk
    by_cases k1 : k < 1
    · have E : Hid (okE f = 5) := okE_bad (by rw [Bool.eq_false_iff]; intro hk; have := OK.mp hk; omega)
      have i2 : (k : Int) < 1 := by omega
      clear OK
      go_enter Tryz.func42, Tryz.ntmps42
      go_wp2_with (fail)
      go_ret
      rw [E.out]
      exact ⟨rfl, rfl⟩
    · have i2 : ¬ (k : Int) < 1 := by omega
      by_cases k2 : 12 < k
      · have E : Hid (okE f = 5) := okE_bad (by rw [Bool.eq_false_iff]; intro hk; have := OK.mp hk; omega)
        have i3 : (k : Int) > 12 := by omega
        clear OK
        go_enter Tryz.func42, Tryz.ntmps42
        go_wp2_with (fail)
        go_ret
        rw [E.out]
        exact ⟨rfl, rfl⟩
      · have E : Hid (okE f = 0) := okE_ok (OK.mpr (by omega))
        have i3 : ¬ (k : Int) > 12 := by omega
        clear OK
        go_enter Tryz.func42, Tryz.ntmps42
        go_wp2_with (fail)
        go_ret
        rw [E.out]
        exact ⟨rfl, rfl⟩

theorem and_u8 (c : UInt8) (r : Nat) (hr : r < 8) : bits .and .u8 (c.toNat : Int) ((2 ^ r : Nat) : Int) = if c.toNat.testBit r then ((2 ^ r : Nat) : Int) else 0 := by
  have hb := Bm.bit_lt r hr
  rw [u8_and_nat _ _ (UInt8.toNat_lt c) hb]
  have e : c.toNat &&& 2 ^ r = if c.toNat.testBit r then 2 ^ r else 0 := by
    apply Nat.eq_of_testBit_eq
    intro i
    rw [Nat.testBit_and, Nat.testBit_two_pow]
    by_cases hi : r = i
    · subst hi
      cases c.toNat.testBit r <;> simp
    · cases c.toNat.testBit r <;> simp [hi]
  rw [e]
  cases c.toNat.testBit r <;> simp
theorem on_get (b : List UInt8) (p : Nat) (h : p / 8 < b.length) : Bm.on b p = (b[p / 8]).toNat.testBit (p % 8) := by
  unfold Bm.on
  simp [List.getD, h]

set_option maxHeartbeats 1600000 in
theorem has_ok (w : World) (b off cap : Nat) (f : List UInt8) (key : ByteArray) (h : BytesAt w b off f) (hl : f.length ≤ 140737488355328) (hc : f.length ≤ cap) (hs : key.size ≤ 140737488355328) (hok : Bm.ok f = true) :
    Calls Tryz.prog 49 #[.slice (some ⟨b, off, none⟩) f.length cap, .string key] w fun e w' => e = .returned (.tuple #[.bool (Bm.has f key.data.toList), .int .i64 0]) ∧ Below w.heap.size w w' := by
  have OK := (ok_iff f).mp hok
  have CH : Hid (Calls Tryz.prog 42 #[.slice (some ⟨b, off, none⟩) f.length cap] w fun e w' => e = .returned (.int .i64 0) ∧ w' = w) := by
    have := bcheckF_any w (some ⟨b, off, none⟩) cap f ⟨⟨_, cap, rfl, fun _ => ⟨b, off, rfl, h⟩⟩, hl⟩
    rwa [okE_ok hok] at this
  have d0 := h 0 (by omega)
  obtain ⟨k, hk⟩ : ∃ k : Nat, k = (f.headD 0).toNat := ⟨_, rfl⟩
  rw [headD_get f (by omega), ← hk, Nat.add_zero] at d0
  rw [← hk] at OK
  obtain ⟨H, hH⟩ : ∃ H, H = Bm.hash key.data.toList := ⟨_, rfl⟩
  have hHl : H < 18446744073709551616 := by rw [hH]; exact Bm.hash_lt _
  have HA : Hid (∀ wx, Calls Tryz.prog 63 #[.string key] wx fun e w' => e = .returned (.int .u64 (H : Int)) ∧ w' = wx) := fun wx => by rw [hH]; exact hash_any wx key hs
  have HH : Hid (Bm.has f key.data.toList = Bm.hasK f.tail H k) := by show _ = _; unfold Bm.has; rw [hk, hH]
  obtain ⟨m, hm⟩ : ∃ m, m = f.length - 1 := ⟨_, rfl⟩
  have lt : f.tail.length = m := by rw [List.length_tail, hm]
  have BT : Hid (∀ wx i, i < k → Calls Tryz.prog 77 #[.slice (some ⟨b, off + 1, none⟩) m (cap - 1), .int .u64 (H : Int), .int .u8 (i : Int)] wx fun e w' => e = .returned (.tuple #[.int .u64 ((Bm.place H i (8 * m) / 8 : Nat) : Int), .int .u8 ((2 ^ (Bm.place H i (8 * m) % 8) : Nat) : Int)]) ∧ w' = wx) := fun wx i hi =>
    bit_any wx (some ⟨b, off + 1, none⟩) m (cap - 1) H i (by omega) (by omega) hHl (by omega)
  have HB : Hid (BytesAt w b off f) := h
  have i1 : (1 : Int) ≤ (f.length : Int) := by omega
  have i2 : (f.length : Int) ≤ (cap : Int) := by omega
  have i3 : ¬ cap = 1 := by omega
  have i4 : (0 : Int) < (f.length : Int) := by omega
  have e1 : f.length - 1 = m := hm.symm
  obtain ⟨n, hn⟩ : ∃ n, n = f.length := ⟨_, rfl⟩
  rw [← hn] at i1 i2 i4 e1 CH ⊢
  have HL : Hid (f.tail.length = m ∧ n = f.length ∧ 1 ≤ m ∧ m + 1 = n) := ⟨lt, hn, by omega, by omega⟩
  have hk256 : k < 256 := by omega
  have bw : b < w.heap.size := World.block_lt_of_cell? w _ d0
  rw [HH.out]
  clear hH hk h OK hok hm lt hn HH hl hc hs hHl
  go_enter Tryz.func49, Tryz.ntmps49
  go_wp2_with (go_at_call 42; refine CH.out.mono ?_; rintro e w1 ⟨rfl, rfl⟩; clear CH)
  go_quiet ((go_at_call 63; exact Calls.quiet_of_same (HA.out _)))
  clear HA
  go_wp2_with (fail)
  go_loopw [24] (fun i wr => ∃ j : Nat, j ≤ k ∧ i = .int .u8 j ∧ Below w1.heap.size w1 wr ∧ Hid (Bm.hasK f.tail H j = true)) (fun i _ => k - (intOf i).toNat)
  case atStart => exact ⟨0, Nat.zero_le _, rfl, below_drewN (Below.refl _ _) _, rfl⟩
  case round =>
    obtain ⟨j, hj, rfl, bx, HT⟩ := hrel
    by_cases hlt : j < k
    · obtain ⟨P, hP⟩ : ∃ P, P = Bm.place H j (8 * m) := ⟨_, rfl⟩
      have hPl : P < 8 * m := by rw [hP]; exact Bm.place_lt _ _ _ (by have := HL.out.2.2.1; omega)
      have BJ : Hid (∀ wx, Calls Tryz.prog 77 #[.slice (some ⟨b, off + 1, none⟩) m (cap - 1), .int .u64 (H : Int), .int .u8 (j : Int)] wx fun e w' => e = .returned (.tuple #[.int .u64 ((P / 8 : Nat) : Int), .int .u8 ((2 ^ (P % 8) : Nat) : Int)]) ∧ w' = wx) := fun wx => by rw [hP]; exact BT.out wx j hlt
      obtain ⟨q, hq⟩ : ∃ q, q = P / 8 := ⟨_, rfl⟩
      obtain ⟨r, hr⟩ : ∃ r, r = P % 8 := ⟨_, rfl⟩
      have hr8 : r < 8 := by omega
      have hqm : q < f.tail.length := by rw [HL.out.1]; omega
      obtain ⟨c, hc⟩ : ∃ c : UInt8, c = f.tail[q] := ⟨_, rfl⟩
      have hqf : q + 1 < f.length := by have := HL.out.2; omega
      have d1 : wr.cell? ⟨b, off + 1 + q, none⟩ = some (.int .u8 (c.toNat : Int)) := by
        have := keepC bx (HB.out (q + 1) hqf)
        rw [show off + 1 + q = off + (q + 1) from by omega, this, hc]
        simp
      have ON : Bm.on f.tail P = c.toNat.testBit r := by
        rw [on_get f.tail P (by rw [← hq]; exact hqm), hc, hr]
        simp only [hq]
      have AN := and_u8 c r hr8
      obtain ⟨z, hz⟩ : ∃ z, z = 2 ^ r := ⟨_, rfl⟩
      have hz0 : 0 < z := by rw [hz]; exact Nat.two_pow_pos r
      have i6 : (q : Int) < (m : Int) := by have := HL.out.1; omega
      have i7 : (j : Int) < (k : Int) := by omega
      have i8 : IntKind.u8.wrap ((j : Int) + 1) = ((j + 1 : Nat) : Int) := by rw [IntKind.wrap_u8]; omega
      rw [← hq, ← hr, ← hz] at BJ
      rw [← hz] at AN
      have HS : Hid (∀ x, c.toNat.testBit r = x → Bm.on f.tail (Bm.place H j (8 * f.tail.length)) = x) := fun x hx => by rw [HL.out.1, ← hP, ON, hx]
      cases ht : c.toNat.testBit r
      · rw [ht] at AN
        simp only [Bool.false_eq_true, if_false] at AN
        have HF : Hid (Bm.hasK f.tail H k = false) := Bm.hasK_false _ _ _ j hlt (HS.out _ ht)
        clear hP hPl hq hr hr8 hqm hc hqf ON hz HS ht
        go_wp2_with (go_at_call 77; refine (BJ.out _).mono ?_; rintro e w2 ⟨rfl, rfl⟩)
        go_ret2
        rw [HF.out]
        exact ⟨rfl, bx⟩
      · rw [ht] at AN
        simp only [if_true] at AN
        have HN : Hid (Bm.hasK f.tail H (j + 1) = true) := by show _ = _; rw [Bm.hasK, HT.out, HS.out _ ht]; rfl
        have i9 : ((z : Int) == 0) = false := by simp; omega
        clear hP hPl hq hr hr8 hqm hc hqf ON hz HS ht
        go_wp2_with (go_at_call 77; refine (BJ.out _).mono ?_; rintro e w2 ⟨rfl, rfl⟩)
        exact ⟨⟨j + 1, by omega, by go_num, bx, HN⟩, by simp [intOf]; omega⟩
    · have ej : j = k := by omega
      subst ej
      have i7 : ¬ (j : Int) < (j : Int) := by omega
      go_wp2_with (fail)
      go_ret2
      rw [HT.out]
      exact ⟨rfl, bx⟩

set_option maxHeartbeats 800000 in
theorem has_bad (w : World) (a : Option Addr) (cap : Nat) (f : List UInt8) (key : Value) (h : BytesIn w (.slice a f.length cap) f) (hok : Bm.ok f = false) :
    Calls Tryz.prog 49 #[.slice a f.length cap, key] w fun e w' => e = .returned (.tuple #[.bool false, .int .i64 5]) ∧ w' = w := by
  have CH : Hid (Calls Tryz.prog 42 #[.slice a f.length cap] w fun e w' => e = .returned (.int .i64 5) ∧ w' = w) := by
    have := bcheckF_any w a cap f h
    rwa [okE_bad hok] at this
  clear h
  go_enter Tryz.func49, Tryz.ntmps49
  go_wp2_with (go_at_call 42; refine CH.out.mono ?_; rintro e w1 ⟨rfl, rfl⟩; clear CH)
  go_ret2
  exact ⟨rfl, rfl⟩

theorem has_any (w : World) (a : Option Addr) (cap : Nat) (f : List UInt8) (key : ByteArray) (h : BytesIn w (.slice a f.length cap) f) (hc : f.length ≤ cap) (hs : key.size ≤ 140737488355328) :
    Calls Tryz.prog 49 #[.slice a f.length cap, .string key] w fun e w' => e = .returned (.tuple #[.bool (Bm.ok f && Bm.has f key.data.toList), .int .i64 (okE f)]) ∧ Below w.heap.size w w' := by
  cases hok : Bm.ok f
  · refine (has_bad w a cap f _ h hok).mono ?_
    rintro e w' ⟨rfl, rfl⟩
    rw [okE_bad hok]
    exact ⟨rfl, Below.refl _ _⟩
  · have hl := (ok_iff f).mp hok
    obtain ⟨b, off, rfl, _⟩ := h.spot 0 (by omega)
    obtain ⟨⟨a', c', e, hf⟩, hlen⟩ := h
    obtain ⟨b', off', e', hat⟩ := hf (by intro h0; rw [h0] at hl; simp at hl)
    simp only [Value.slice.injEq] at e
    rw [← e.1] at e'
    obtain ⟨rfl, rfl⟩ : b = b' ∧ off = off' := by simpa using e'
    rw [okE_ok hok, Bool.true_and]
    exact has_ok w b off cap f key hat hlen hc hs hok
end Go.Proofs.YtolalicliojkfaaGreat
namespace Go.Proofs.YtolalicliojkfaaGreat
open Go.RowKit

theorem take_same {l m : List UInt8} {j : Nat} (h : l.take j = m.take j) (hl : j < l.length) (hm : j < m.length) (e : l[j] = m[j]) : l.take (j + 1) = m.take (j + 1) := by
  rw [List.take_succ_eq_append_getElem hl, List.take_succ_eq_append_getElem hm, h, e]

set_option maxHeartbeats 800000 in
theorem same_len (w : World) (a a2 : Option Addr) (cap cap2 n m : Nat) (hne : n ≠ m) :
    Calls Tryz.prog 9 #[.slice a n cap, .slice a2 m cap2] w fun e w' => e = .returned (.bool false) ∧ w' = w := by
  have h : ((n : Int) != (m : Int)) = true := by simp; omega
  go_enter Tryz.func9, Tryz.ntmps9
  go_wp2
  go_ret
  exact ⟨rfl, rfl⟩

set_option maxHeartbeats 800000 in
theorem same_none (w : World) (a a2 : Option Addr) (cap cap2 : Nat) :
    Calls Tryz.prog 9 #[.slice a 0 cap, .slice a2 0 cap2] w fun e w' => e = .returned (.bool true) ∧ w' = w := by
  go_enter Tryz.func9, Tryz.ntmps9
  go_wp2
  refine wp_loop_rounds 1 ?_
  rw [rounds_succ]
  go_wp2
  go_ret
  exact ⟨rfl, rfl⟩

set_option maxHeartbeats 800000 in
theorem same_some (w : World) (b off cap b2 off2 cap2 : Nat) (l m : List UInt8) (hv : BytesAt w b off l) (hv2 : BytesAt w b2 off2 m) (hlen : l.length ≤ 140737488355328) (he : m.length = l.length) :
    Calls Tryz.prog 9 #[.slice (some ⟨b, off, none⟩) l.length cap, .slice (some ⟨b2, off2, none⟩) l.length cap2] w fun e w' => e = .returned (.bool (decide (l = m))) ∧ Below w.heap.size w w' := by
  have HE : Hid (m.length = l.length) := he
  clear he
  go_enter Tryz.func9, Tryz.ntmps9
  go_wp2
  go_loopw [5] (fun i wr => ∃ j : Nat, j ≤ l.length ∧ i = .int .i64 j ∧ Below w.heap.size w wr ∧ l.take j = m.take j) (fun i _ => l.length - (intOf i).toNat)
  case atStart => exact ⟨0, Nat.zero_le _, rfl, Below.refl _ _, rfl⟩
  case round =>
    obtain ⟨j, hj, rfl, hbel, ht⟩ := hrel
    have HT : Hid (l.take j = m.take j) := ht
    clear ht
    by_cases hlt : j < l.length
    · have hltm : j < m.length := by rw [HE.out]; exact hlt
      have hb : b < w.heap.size := World.block_lt_of_cell? w _ (hv j hlt)
      have hb2 : b2 < w.heap.size := World.block_lt_of_cell? w _ (hv2 j hltm)
      have d0 := (hbel.cell (p := ⟨b, off + j, none⟩) hb).trans (hv j hlt)
      have e0 := (hbel.cell (p := ⟨b2, off2 + j, none⟩) hb2).trans (hv2 j hltm)
      obtain ⟨c, hc⟩ : ∃ c : Nat, c = (l[j]).toNat := ⟨_, rfl⟩
      obtain ⟨d, hd⟩ : ∃ d : Nat, d = (m[j]).toNat := ⟨_, rfl⟩
      rw [← hc] at d0
      rw [← hd] at e0
      by_cases hcd : c = d
      · have HR : Hid (l.take (j + 1) = m.take (j + 1)) := take_same HT.out hlt hltm (by apply UInt8.toNat_inj.mp; rw [← hc, ← hd]; exact hcd)
        have hbb : ((c : Int) != (d : Int)) = false := by simp [hcd]
        clear hc hd hcd hv hv2
        go_wp2
        go_quiet (fail)
        go_wp2
        go_roundw
        case rel => exact ⟨j + 1, by omega, by go_num, below_drewN hbel _, HR.out⟩
        case measure => simp [intOf]; omega
      · have HR : Hid (decide (l = m) = false) := by
          show _ = _
          rw [decide_eq_false_iff_not]
          intro h
          subst h
          exact hcd (by rw [hc, hd])
        have hbb : ((c : Int) != (d : Int)) = true := by simp; omega
        clear hc hd hcd hv hv2
        go_wp2
        go_quiet (fail)
        go_wp2
        go_ret
        exact ⟨by rw [HR.out]; rfl, below_drewN hbel _⟩
    · have HR : Hid (decide (l = m) = true) := by
        show _ = _
        rw [decide_eq_true_iff]
        have h := HT.out
        rw [List.take_of_length_le (by omega), List.take_of_length_le (by rw [HE.out]; omega)] at h
        exact h
      go_wp2
      go_ret
      exact ⟨by rw [HR.out]; rfl, hbel⟩

theorem same_any (w : World) (v v2 : Value) (l m : List UInt8) (h : BytesIn w v l) (h2 : BytesIn w v2 m) :
    Calls Tryz.prog 9 #[v, v2] w fun e w' => e = .returned (.bool (decide (l = m))) ∧ Below w.heap.size w w' := by
  obtain ⟨⟨a, cap, rfl, hf⟩, hlen⟩ := h
  obtain ⟨⟨a2, cap2, rfl, hf2⟩, _⟩ := h2
  by_cases he : l.length = m.length
  · by_cases h0 : l = []
    · subst h0
      have : m = [] := List.eq_nil_of_length_eq_zero he.symm
      subst this
      refine (same_none w a a2 cap cap2).mono ?_
      rintro e w' ⟨rfl, rfl⟩
      exact ⟨by simp, Below.refl _ _⟩
    · have h02 : m ≠ [] := fun h => h0 (List.eq_nil_of_length_eq_zero (by rw [he, h]; rfl))
      obtain ⟨b, off, rfl, hv⟩ := hf h0
      obtain ⟨b2, off2, rfl, hv2⟩ := hf2 h02
      rw [← he]
      exact same_some w b off cap b2 off2 cap2 l m hv hv2 hlen he.symm
  · refine (same_len w a a2 cap cap2 l.length m.length he).mono ?_
    rintro e w' ⟨rfl, rfl⟩
    have : decide (l = m) = false := by rw [decide_eq_false_iff_not]; intro h; exact he (by rw [h])
    exact ⟨by rw [this], Below.refl _ _⟩

end Go.Proofs.YtolalicliojkfaaGreat
namespace Go.Proofs.YtolalicliojkfaaGreat
open Go.RowKit

set_option maxHeartbeats 800000 in
theorem copyBytes_any (w : World) (a0 : Option Addr) (c0 : Nat) (l : List UInt8) (h : BytesIn w (.slice a0 l.length c0) l) (hn : a0 = none → c0 = 0) :
    Calls Tryz.prog 38 #[.slice a0 l.length c0] w fun e w' => ∃ g cap, e = .returned (.slice (some ⟨g, 0, none⟩) l.length cap) ∧ Ext w.heap.size w (.slice none 0 0) w' (.slice (some ⟨g, 0, none⟩) l.length cap) l := by
  have L0 := Ext.lit0 w.heap.size w #[] [] 0 (Nat.le_refl _) rfl rfl (by decide)
  have K0 : Below w.heap.size w (w.alloc (.cells #[] 5)) := (Below.refl _ _).alloc (Nat.le_refl _) _
  have V0 := h.later K0
  have hl := h.len
  clear h
  go_enter Tryz.func38, Tryz.ntmps38
  go_wp2_with (at_builtin; refine wpList_copy_bytes _ rfl _ _ rfl w.heap.size w.heap.size l l.length c0 rfl rfl L0.own a0 rfl V0 hn hl K0.size ?_; intro g1 cap1 L1 w1 HL1 hx1; have R := L0.trans hx1; clear L0 hx1 V0 K0)
  go_ret
  have e := HL1.out
  subst e
  exact ⟨g1, cap1, rfl, R⟩
end Go.Proofs.YtolalicliojkfaaGreat
namespace Go.Proofs.YtolalicliojkfaaGreat
open Go.RowKit

def lentB (l : List UInt8) : List UInt8 := l ++ [201, 202, 203]

theorem lentB_take (l : List UInt8) (j : Nat) (h : j < 3) : l ++ ([201, 202, 203] : List UInt8).take (j + 1) = l ++ ([201, 202, 203] : List UInt8).take j ++ [UInt8.ofNat (201 + j)] := by
  rcases (by omega : j = 0 ∨ j = 1 ∨ j = 2) with rfl | rfl | rfl <;> simp

theorem lentB_length (l : List UInt8) : (lentB l).length = l.length + 3 := by unfold lentB; rw [List.length_append]; rfl

end Go.Proofs.YtolalicliojkfaaGreat
namespace Go.Proofs.YtolalicliojkfaaGreat
open Go.RowKit

/-- A byte with all its bits turned. -/
def notb (c : UInt8) : UInt8 := UInt8.ofNat (255 - c.toNat)
theorem notb_toNat (c : UInt8) : (notb c).toNat = 255 - c.toNat := by unfold notb; rw [UInt8.toNat_ofNat']; omega
/-- The first j turned. -/
def turnB (j : Nat) (bs : List UInt8) : List UInt8 := (bs.take j).map notb ++ bs.drop j
theorem turnB_length (j : Nat) (bs : List UInt8) : (turnB j bs).length = bs.length := by unfold turnB; rw [List.length_append, List.length_map, List.length_take, List.length_drop]; omega
theorem turnB_get (j : Nat) (bs : List UInt8) (h : j < bs.length) : (turnB j bs)[j]'(by rw [turnB_length]; exact h) = bs[j] := by
  unfold turnB
  rw [List.getElem_append_right (by rw [List.length_map, List.length_take]; omega)]
  simp only [List.length_map, List.length_take, List.getElem_drop]
  congr 1
  omega
theorem turnB_set (j : Nat) (bs : List UInt8) (h : j < bs.length) : (turnB j bs).set j (notb bs[j]) = turnB (j + 1) bs := by
  unfold turnB
  have e : ((bs.take j).map notb).length = j := by rw [List.length_map, List.length_take]; omega
  rw [List.set_append_right _ _ (by omega), e, Nat.sub_self, List.drop_eq_getElem_cons h, List.set_cons_zero, List.take_succ_eq_append_getElem h, List.map_append]
  simp
theorem turnB_all (bs : List UInt8) : turnB bs.length bs = bs.map notb := by unfold turnB; simp

theorem bc_setO (l : List UInt8) (j : Nat) (c : UInt8) : (bc l).set j (.int .u8 (c.toNat : Int)) = bc (l.set j c) := by unfold bc; rw [List.map_set]

def sliceLen : Value → Nat
  | .slice _ n _ => n
  | _ => 0

theorem fill_step (xs : List UInt8) (i : Nat) : xs ++ List.replicate (i + 1) (99 : UInt8) = xs ++ List.replicate i 99 ++ [99] := by rw [List.append_assoc, List.replicate_succ']

theorem xor255 (c : Nat) (h : c < 256) : bits .xor .u8 (if IntKind.u8.signed = true then -1 else IntKind.u8.max) (c : Int) = 255 - (c : Int) := by
  have : ∀ c : Fin 256, bits .xor .u8 (if IntKind.u8.signed = true then -1 else IntKind.u8.max) (c.val : Int) = 255 - (c.val : Int) := by decide +kernel
  exact this ⟨c, h⟩

set_option maxRecDepth 100000 in
set_option maxHeartbeats 1600000 in
theorem over_any (w : World) (base g n cap : Nat) (bs : List UInt8) (hn : n = bs.length) (hown : w.ownsRow base 5 1 (.slice (some ⟨g, 0, none⟩) n cap) n (bc bs)) (_hbase : base ≤ w.heap.size) (hnc : n ≤ cap) (hcap : cap ≤ 9223372036854775807) :
    Calls Tryz.prog 39 #[.slice (some ⟨g, 0, none⟩) n cap] w fun e w' => e = .returned (.tuple #[]) ∧ w'.ownsRow base 5 1 (.slice (some ⟨g, 0, none⟩) n cap) n (bc (bs.map notb)) ∧ w.grownBy w' (some g) := by
  obtain ⟨i0, hi, hz0, hz1, hz2⟩ := info_parts Tryz.info5
  have HN : Hid (n = bs.length) := hn
  clear hn
  go_enter Tryz.func39, Tryz.ntmps39
  go_wp2_with (fail)
  go_loopw [3] (fun i wr => ∃ j : Nat, j ≤ n ∧ i = .int .i64 j ∧ wr.ownsRow base 5 1 (.slice (some ⟨g, 0, none⟩) n cap) n (bc (turnB j bs)) ∧ w.grownBy wr (some g)) (fun i _ => n - (intOf i).toNat)
  case atStart => exact ⟨0, Nat.zero_le _, rfl, by simpa [turnB] using hown, World.grownBy.refl _ _⟩
  case round =>
    obtain ⟨j, hj, rfl, ho, hg⟩ := hrel
    clear hown
    by_cases hlt : j < n
    · have hjb : j < bs.length := by rw [← HN.out]; exact hlt
      obtain ⟨c, hc⟩ : ∃ c : UInt8, c = bs[j] := ⟨_, rfl⟩
      have d0 : wr.cell? ⟨g, j, none⟩ = some (.int .u8 (c.toNat : Int)) := by
        rw [ho.cellAt j (by omega), bc_get _ j (by rw [turnB_length]; exact hjb), turnB_get j bs hjb, hc]
      have f0 := ho.frozenAt j
      have hst := fun X : Int => ho.stored j (.int .u8 X)
      have HC : Hid ((bc (turnB j bs)).set j (.int .u8 (255 - (c.toNat : Int))) = bc (turnB (j + 1) bs)) := by
        show _ = _
        have e : (255 : Int) - (c.toNat : Int) = ((notb c).toNat : Int) := by rw [notb_toNat]; have := UInt8.toNat_lt c; omega
        rw [e, bc_setO, hc, turnB_set j bs hjb]
      have hjc : (j : Int) < (n : Int) := by omega
      have hc256 : c.toNat < 256 := UInt8.toNat_lt c
      have HX := xor255 c.toNat hc256
      have HX' : Hid (bits .xor .u8 (if IntKind.u8.signed = true then -1 else IntKind.u8.max) (c.toNat : Int) = 255 - (c.toNat : Int)) := HX
      clear hc ho HX
      go_wp2_with (fail)
      rw [HX'.out]
      obtain ⟨s1, s2⟩ := hst (255 - (c.toNat : Int))
      rw [HC.out] at s1
      exact ⟨⟨j + 1, by omega, by go_num, s1, grownBy_trans hg s2 (.inl rfl)⟩, by simp [intOf]; omega⟩
    · have ej : j = n := by omega
      subst ej
      have HT : Hid (turnB j bs = bs.map notb) := by show _ = _; rw [HN.out]; exact turnB_all bs
      rw [HT.out] at ho
      go_wp2_with (fail)
      go_loopw [0] (fun x wr2 => ∃ (i k : Nat), i ≤ cap - j ∧ x = .slice (some ⟨g, 0, none⟩) k cap ∧ Hid (k = j + i) ∧ wr2.ownsRow base 5 1 (.slice (some ⟨g, 0, none⟩) k cap) k (bc (bs.map notb ++ List.replicate i 99)) ∧ w.grownBy wr2 (some g)) (fun x _ => cap - sliceLen x)
      case atStart => exact ⟨0, j, Nat.zero_le _, rfl, rfl, by simpa using ho, hg⟩
      case round =>
        obtain ⟨i, k, hic, rfl, HK, ho2, hg2⟩ := hrel
        clear ho hg
        have hk := HK.out
        have hz := hg2.size
        by_cases hlt : k < cap
        · have hki : (k : Int) < (cap : Int) := by omega
          have E : Hid (bc (bs.map notb ++ List.replicate (i + 1) 99) = bc (bs.map notb ++ List.replicate i 99) ++ bc [99]) := by show _ = _; rw [fill_step, bc_append]
          have HK2 : Hid (k + 1 = j + (i + 1)) := by show _ = _; omega
          have hi2 : i + 1 ≤ cap - j := by omega
          clear hk
          go_wp2_with (at_builtin; refine wpList_append_fits _ rfl _ _ 26 rfl base 5 i0 1 Tryz.underlying26 hi hz1 g k cap (bc (bs.map notb ++ List.replicate i 99)) rfl (ho2.alloc _) ⟨wr.heap.size, 0, none⟩ 1 1 (bc [99]) rfl rfl (cell_one_new _ _ _) (bc_one _) hlt ?_; intro w3 o3 g3)
          rw [← E.out] at o3
          exact ⟨⟨i + 1, k + 1, hi2, rfl, HK2, o3, grownBy_trans (grownBy_trans hg2 (World.grownBy_alloc _ _ (some g)) (.inl rfl)) g3 (.inl rfl)⟩, by simp [sliceLen]; omega⟩
        · have hki : ¬ (k : Int) < (cap : Int) := by omega
          go_wp2_with (fail)
          go_end0
          exact ⟨rfl, own_shrink ho2 (by rw [List.length_map]; exact HN.out) (by omega), hg2⟩

theorem over_nil (w : World) : Calls Tryz.prog 39 #[.slice none 0 0] w fun e w' => e = .returned (.tuple #[]) ∧ w' = w := by
  go_enter Tryz.func39, Tryz.ntmps39
  go_wp2_with (fail)
  refine wp_loop_rounds 1 ?_
  rw [rounds_succ]
  go_wp2_with (fail)
  refine wp_loop_rounds 1 ?_
  rw [rounds_succ]
  go_wp2_with (fail)
  go_end0
  exact ⟨rfl, rfl⟩
end Go.Proofs.YtolalicliojkfaaGreat
namespace Go.Proofs.YtolalicliojkfaaGreat
open Go.RowKit

theorem or_u8 (c : UInt8) (r : Nat) (hr : r < 8) : bits .or .u8 (c.toNat : Int) ((2 ^ r : Nat) : Int) = ((c ||| UInt8.ofNat (2 ^ r)).toNat : Int) := by
  have hb := Bm.bit_lt r hr
  rw [u8_or_nat _ _ (UInt8.toNat_lt c) hb, UInt8.toNat_or, UInt8.toNat_ofNat', Nat.mod_eq_of_lt hb]

theorem put_cons (c0 : UInt8) (b : List UInt8) (p : Nat) (h : p / 8 < b.length) : (c0 :: b).set (1 + p / 8) (b[p / 8] ||| UInt8.ofNat (2 ^ (p % 8))) = c0 :: Bm.put b p := by
  unfold Bm.put
  rw [Nat.add_comm, List.set_cons_succ]
  congr 2
  simp [List.getD, h]

set_option maxHeartbeats 1600000 in
theorem set_any (w : World) (base g n cap h : Nat) (c0 : UInt8) (b : List UInt8) (hn : n = b.length + 1) (hb0 : 0 < b.length) (hown : w.ownsRow base 5 1 (.slice (some ⟨g, 0, none⟩) n cap) n (bc (c0 :: b))) (hnc : n ≤ cap) (hcap : n ≤ 140737488355328) (hh : h < 18446744073709551616) :
    Calls Tryz.prog 62 #[.slice (some ⟨g, 0, none⟩) n cap, .int .u64 (h : Int)] w fun e w' => e = .returned (.tuple #[]) ∧ w'.ownsRow base 5 1 (.slice (some ⟨g, 0, none⟩) n cap) n (bc (c0 :: Bm.putK b h c0.toNat)) ∧ w.grownBy w' (some g) := by
  obtain ⟨k, hk⟩ : ∃ k : Nat, k = c0.toNat := ⟨_, rfl⟩
  have hk256 : k < 256 := by rw [hk]; exact UInt8.toNat_lt _
  have d00 : w.cell? ⟨g, 0, none⟩ = some (.int .u8 (k : Int)) := by rw [hown.cellAt 0 (by omega), bc_get _ 0 (by simp), hk]; rfl
  rw [← hk]
  have BT : Hid (∀ wx i, i < k → Calls Tryz.prog 77 #[.slice (some ⟨g, 1, none⟩) (n - 1) (cap - 1), .int .u64 (h : Int), .int .u8 (i : Int)] wx fun e w' => e = .returned (.tuple #[.int .u64 ((Bm.place h i (8 * b.length) / 8 : Nat) : Int), .int .u8 ((2 ^ (Bm.place h i (8 * b.length) % 8) : Nat) : Int)]) ∧ w' = wx) := fun wx i hi => by
    have := bit_any wx (some ⟨g, 1, none⟩) (n - 1) (cap - 1) h i (by omega) (by omega) hh (by omega)
    rwa [show n - 1 = b.length from by omega] at this ⊢
  have HN : Hid (n = b.length + 1) := hn
  have i1 : (1 : Int) ≤ (n : Int) := by omega
  have i2 : (n : Int) ≤ (cap : Int) := by omega
  have i3 : ¬ cap = 1 := by omega
  have i4 : (0 : Int) < (n : Int) := by omega
  have hm : n - 1 = b.length := by omega
  obtain ⟨m, hm'⟩ : ∃ m, m = n - 1 := ⟨_, rfl⟩
  have hmb : Hid (m = b.length) := by show _ = _; omega
  rw [← hm'] at BT
  have e1 : n - 1 = m := hm'.symm
  clear hk hn hm hm'
  go_enter Tryz.func62, Tryz.ntmps62
  go_wp2_with (fail)
  go_loopw [13] (fun i wr => ∃ j : Nat, j ≤ k ∧ i = .int .u8 j ∧ wr.ownsRow base 5 1 (.slice (some ⟨g, 0, none⟩) n cap) n (bc (c0 :: Bm.putK b h j)) ∧ w.grownBy wr (some g)) (fun i _ => k - (intOf i).toNat)
  case atStart => exact ⟨0, Nat.zero_le _, rfl, hown, World.grownBy.refl _ _⟩
  case round =>
    obtain ⟨j, hj, rfl, ho, hg⟩ := hrel
    clear hown d00
    by_cases hlt : j < k
    · obtain ⟨P, hP⟩ : ∃ P, P = Bm.place h j (8 * b.length) := ⟨_, rfl⟩
      have hPl : P < 8 * b.length := by rw [hP]; exact Bm.place_lt _ _ _ (by omega)
      have BJ : Hid (∀ wx, Calls Tryz.prog 77 #[.slice (some ⟨g, 1, none⟩) m (cap - 1), .int .u64 (h : Int), .int .u8 (j : Int)] wx fun e w' => e = .returned (.tuple #[.int .u64 ((P / 8 : Nat) : Int), .int .u8 ((2 ^ (P % 8) : Nat) : Int)]) ∧ w' = wx) := fun wx => by rw [hP]; exact BT.out wx j hlt
      have HK : Hid (Bm.putK b h (j + 1) = Bm.put (Bm.putK b h j) P) := by show _ = _; rw [Bm.putK, hP]
      obtain ⟨b', hb'⟩ : ∃ b', b' = Bm.putK b h j := ⟨_, rfl⟩
      have lb' : b'.length = b.length := by rw [hb', Bm.putK_length]
      rw [← hb'] at ho HK
      obtain ⟨q, hq⟩ : ∃ q, q = P / 8 := ⟨_, rfl⟩
      obtain ⟨r, hr⟩ : ∃ r, r = P % 8 := ⟨_, rfl⟩
      have hqb : q < b'.length := by omega
      have hr8 : r < 8 := by omega
      obtain ⟨c, hc⟩ : ∃ c : UInt8, c = b'[q] := ⟨_, rfl⟩
      have d0 : wr.cell? ⟨g, 1 + q, none⟩ = some (.int .u8 (c.toNat : Int)) := by
        rw [ho.cellAt _ (by have := HN.out; omega), bc_get _ _ (by simp; omega), hc]
        congr 3
        simp [Nat.add_comm 1 q]
      have f0 := ho.frozenAt (1 + q)
      obtain ⟨z, hz⟩ : ∃ z, z = 2 ^ r := ⟨_, rfl⟩
      have OR : bits .or .u8 (c.toNat : Int) (z : Int) = ((c ||| UInt8.ofNat (2 ^ r)).toNat : Int) := by rw [hz]; exact or_u8 c r hr8
      obtain ⟨x, hx⟩ : ∃ x : UInt8, x = c ||| UInt8.ofNat (2 ^ r) := ⟨_, rfl⟩
      rw [← hx] at OR
      have HS : Hid ((wr.setCell ⟨g, 1 + q, none⟩ (.int .u8 (x.toNat : Int))).ownsRow base 5 1 (.slice (some ⟨g, 0, none⟩) n cap) n (bc (c0 :: Bm.putK b h (j + 1))) ∧ w.grownBy (wr.setCell ⟨g, 1 + q, none⟩ (.int .u8 (x.toNat : Int))) (some g)) := by
        obtain ⟨s1, s2⟩ := ho.stored (1 + q) (.int .u8 (x.toNat : Int))
        have e := put_cons c0 b' P (by omega)
        subst hq
        subst hr
        rw [bc_setO, hx, hc, e, ← HK.out] at s1
        rw [hx, hc] at s2 ⊢
        exact ⟨s1, grownBy_trans hg s2 (.inl rfl)⟩
      have i6 : (q : Int) < (m : Int) := by have := hmb.out; omega
      have i7 : (j : Int) < (k : Int) := by omega
      have i8 : IntKind.u8.wrap ((j : Int) + 1) = ((j + 1 : Nat) : Int) := by rw [IntKind.wrap_u8]; omega
      rw [← hq, ← hr, ← hz] at BJ
      clear hP hPl hb' lb' hq hr hqb hr8 hc hz hx HK BT ho hg
      go_wp2_with (go_at_call 77; refine (BJ.out _).mono ?_; rintro e w1 ⟨rfl, rfl⟩)
      exact ⟨⟨j + 1, by omega, by go_num, HS.out.1, HS.out.2⟩, by simp [intOf]; omega⟩
    · have ej : j = k := by omega
      subst ej
      have i7 : ¬ (j : Int) < (j : Int) := by omega
      go_wp2_with (fail)
      go_end0
      exact ⟨rfl, ho, hg⟩
end Go.Proofs.YtolalicliojkfaaGreat
namespace Go.Proofs.YtolalicliojkfaaGreat
open Go.RowKit

/-- A list of texts lies there. -/
def TextsIn (w : World) (v : Value) (l : List ByteArray) : Prop := ∃ a cap, v = .slice a l.length cap ∧ l.length ≤ cap ∧ cap ≤ 9223372036854775807 ∧ (a = none → cap = 0) ∧ (l ≠ [] → ∃ b off, a = some ⟨b, off, none⟩ ∧ ∀ j (h : j < l.length), w.cell? ⟨b, off + j, none⟩ = some (.string l[j]))
theorem TextsIn.later {w w' : World} {v : Value} {l : List ByteArray} (h : TextsIn w v l) (hb : Below w.heap.size w w') : TextsIn w' v l := by
  obtain ⟨a, cap, e, h1, h2, h3, hf⟩ := h
  refine ⟨a, cap, e, h1, h2, h3, fun h0 => ?_⟩
  obtain ⟨b, off, ha, hat⟩ := hf h0
  exact ⟨b, off, ha, fun j hj => keepC hb (hat j hj)⟩

def smallF (l : List ByteArray) : Bool := decide (l.length ≤ 200) && l.all fun s => decide (s.size ≤ 600)
theorem smallF_iff (l : List ByteArray) : smallF l = true ↔ l.length ≤ 200 ∧ ∀ s ∈ l, s.size ≤ 600 := by unfold smallF; simp
theorem allF_take (l : List ByteArray) (j : Nat) (h : j < l.length) (ha : ∀ s ∈ l.take j, s.size ≤ 600) (hs : l[j].size ≤ 600) : ∀ s ∈ l.take (j + 1), s.size ≤ 600 := by
  intro s hm
  rw [List.take_succ_eq_append_getElem h] at hm
  rcases List.mem_append.mp hm with h1 | h1
  · exact ha s h1
  · rw [List.mem_singleton.mp h1]; exact hs

end Go.Proofs.YtolalicliojkfaaGreat
namespace Go.Proofs.YtolalicliojkfaaGreat
open Go.RowKit

/-- The keys, as bytes. -/
def keysOf (l : List ByteArray) : List (List UInt8) := l.map fun s => s.data.toList
/-- The filter behind the first j keys. -/
def part (l : List ByteArray) (d j : Nat) : List UInt8 := Bm.putAll (List.replicate (Bm.bytes l.length d) 0) (Bm.rounds d) (((keysOf l).map Bm.hash).take j)
theorem part_zero (l : List ByteArray) (d : Nat) : part l d 0 = List.replicate (Bm.bytes l.length d) 0 := by unfold part; rw [List.take_zero]; rfl
theorem part_length (l : List ByteArray) (d j : Nat) : (part l d j).length = Bm.bytes l.length d := by unfold part; rw [Bm.putAll_length, List.length_replicate]
theorem part_succ (l : List ByteArray) (d j : Nat) (h : j < l.length) : part l d (j + 1) = Bm.putK (part l d j) (Bm.hash (l[j]).data.toList) (Bm.rounds d) := by
  unfold part
  rw [List.take_succ_eq_append_getElem (by simpa [keysOf] using h), Bm.putAll_snoc]
  simp [keysOf]
theorem part_all (l : List ByteArray) (d : Nat) : part l d l.length = Bm.body (keysOf l) d := by
  unfold part Bm.body
  rw [List.take_of_length_le (by simp [keysOf])]
  simp [keysOf]

theorem bc_cons (c : UInt8) (l : List UInt8) : bc (c :: l) = .int .u8 (c.toNat : Int) :: bc l := rfl

set_option maxHeartbeats 1600000 in
theorem rounds_any (w : World) (d : Nat) (h1 : 1 ≤ d) (h2 : d ≤ 16) : Calls Tryz.prog 61 #[.int .i64 (d : Int)] w fun e w' => e = .returned (.int .u8 ((Bm.rounds d : Nat) : Int)) ∧ w' = w := by
  have hr := Bm.rounds_le d h1 h2
  have E : Hid (((d : Int) * 69 + 99) / 100 = ((Bm.rounds d : Nat) : Int)) := by show _ = _; unfold Bm.rounds; omega
  have E2 : IntKind.u8.wrap (((d : Int) * 69 + 99) / 100) = ((Bm.rounds d : Nat) : Int) := by rw [E.out, IntKind.wrap_u8]; omega
  go_enter Tryz.func61, Tryz.ntmps61
  go_wp2_with (fail)
  go_ret
  exact ⟨by first | rfl | (rw [← E.out]; rfl) | (rw [← E2]; rfl), rfl⟩

set_option maxHeartbeats 1600000 in
theorem of_ok (w : World) (v : Value) (l : List ByteArray) (d : Nat) (h : TextsIn w v l) (hl : l.length ≤ 1048576) (hs : ∀ s ∈ l, s.size ≤ 140737488355328) (h1 : 1 ≤ d) (h2 : d ≤ 16) :
    Calls Tryz.prog 25 #[v, .int .i64 (d : Int)] w fun e w' => ∃ n, e = .returned (.tuple #[.slice (some ⟨w.heap.size, 0, none⟩) n n, .int .i64 0]) ∧ n = (Bm.filt (keysOf l) d).length ∧ Ext w.heap.size w (.slice none 0 0) w' (.slice (some ⟨w.heap.size, 0, none⟩) n n) (Bm.filt (keysOf l) d) := by
  obtain ⟨a, cap, rfl, hc1, hc2, hc3, hf⟩ := h
  obtain ⟨L, hL⟩ : ∃ L, L = l.length := ⟨_, rfl⟩
  obtain ⟨m, hm⟩ : ∃ m, m = Bm.bytes l.length d := ⟨_, rfl⟩
  have hprod : l.length * d ≤ 1048576 * 16 := Nat.mul_le_mul hl h2
  have hm1 : 1 ≤ m := by rw [hm]; exact Bm.bytes_pos _ _
  have hm2 : m ≤ 2097153 := by rw [hm]; unfold Bm.bytes; omega
  obtain ⟨p, hp⟩ : ∃ p, p = l.length * d := ⟨_, rfl⟩
  rw [← hL] at hp
  have P1 : (L : Int) * (d : Int) = (p : Int) := by rw [hp]; simp
  have M1 : max (1 : Int) (((p : Int) + 8 - 1) / 8) = (m : Int) := by rw [hm]; unfold Bm.bytes; rw [← hL, ← hp]; omega
  have M2 : (if (1 : Int) < ((p : Int) + 8 - 1) / 8 then ((p : Int) + 8 - 1) / 8 else 1) = (m : Int) := by rw [← M1]; split <;> omega
  have M3 : (if ((p : Int) + 8 - 1) / 8 < (1 : Int) then 1 else ((p : Int) + 8 - 1) / 8) = (m : Int) := by rw [← M1]; split <;> omega
  have hp2 : p ≤ 16777216 := by rw [hp, hL]; omega
  have MK := make_bytes (m + 1) (by omega) (1 + (m : Int)) (by omega)
  have RO : Hid (∀ wx, Calls Tryz.prog 61 #[.int .i64 (d : Int)] wx fun e w' => e = .returned (.int .u8 ((Bm.rounds d : Nat) : Int)) ∧ w' = wx) := fun wx => rounds_any wx d h1 h2
  have W1 : wrap64 ((L : Int) * (d : Int)) = (p : Int) := by rw [P1]; unfold wrap64; omega
  rw [← hL] at hc1 hl ⊢
  have hr := Bm.rounds_le d h1 h2
  obtain ⟨R, hR⟩ : ∃ R, R = Bm.rounds d := ⟨_, rfl⟩
  rw [← hR] at RO hr
  obtain ⟨c0, hc0⟩ : ∃ c0 : UInt8, c0 = UInt8.ofNat R := ⟨_, rfl⟩
  have ec : c0.toNat = R := by rw [hc0, UInt8.toNat_ofNat']; omega
  have HFL : Hid (m + 1 = (Bm.filt (keysOf l) d).length) := by show _ = _; rw [Bm.filt_length, hm]; simp [keysOf]
  have HFI : Hid (c0 :: part l d l.length = Bm.filt (keysOf l) d) := by show _ = _; rw [part_all, hc0, hR]; rfl
  have ST : Hid (∀ wx j, j < l.length → wx.ownsRow w.heap.size 5 1 (.slice (some ⟨w.heap.size, 0, none⟩) (m + 1) (m + 1)) (m + 1) (bc (c0 :: part l d j)) → ∀ (H : Nat), H = Bm.hash (l[j]!).data.toList →
      Calls Tryz.prog 62 #[.slice (some ⟨w.heap.size, 0, none⟩) (m + 1) (m + 1), .int .u64 (H : Int)] wx fun e w' => e = .returned (.tuple #[]) ∧ w'.ownsRow w.heap.size 5 1 (.slice (some ⟨w.heap.size, 0, none⟩) (m + 1) (m + 1)) (m + 1) (bc (c0 :: part l d (j + 1))) ∧ wx.grownBy w' (some w.heap.size)) := fun wx j hj ho H hH => by
    have hp := part_length l d j
    have := set_any wx w.heap.size w.heap.size (m + 1) (m + 1) H c0 (part l d j) (by rw [hp, hm]) (by omega) ho (Nat.le_refl _) (by omega) (by rw [hH]; exact Bm.hash_lt _)
    rwa [ec, hH, hR, getElem!_pos l j hj, ← part_succ l d j hj, ← getElem!_pos l j hj, ← hH] at this
  have O0 : Hid (Ext w.heap.size w (.slice none 0 0) (w.alloc (.cells ((zeros (m + 1)).setIfInBounds 0 (.int .u8 (R : Int))) 5)) (.slice (some ⟨w.heap.size, 0, none⟩) (m + 1) (m + 1)) (c0 :: part l d 0)) := by
    refine Ext.lit0 w.heap.size w _ _ (m + 1) (Nat.le_refl _) ?_ (by rw [List.length_cons, part_length, hm]) (by unfold maxLen; omega)
    rw [part_zero, bc_cons, bc_zeros, ec, ← hm]
    unfold zeros
    rw [List.replicate_succ]
    simp
  have HL : Hid (L = l.length) := hL
  have HF : Hid (l ≠ [] → ∃ b off, a = some ⟨b, off, none⟩ ∧ ∀ j (h : j < l.length), w.cell? ⟨b, off + j, none⟩ = some (.string l[j])) := hf
  have HM : Hid (m = Bm.bytes l.length d) := hm
  clear hprod hL hf hm hp P1 hR hc0 ec
  go_enter Tryz.func25, Tryz.ntmps25
  go_wp2_with (go_at_call 61; refine (RO.out _).mono ?_; rintro e w1 ⟨rfl, rfl⟩; clear RO)
  clear MK M1 M2 M3 W1
  obtain ⟨n, hn⟩ : ∃ n, n = m + 1 := ⟨_, rfl⟩
  rw [← hn] at ST O0 HFL ⊢
  have HN : Hid (n = m + 1) := hn
  clear hn
  go_loopw [36] (fun i wr => ∃ j : Nat, j ≤ L ∧ i = .int .i64 j ∧ wr.ownsRow w.heap.size 5 1 (.slice (some ⟨w.heap.size, 0, none⟩) n n) n (bc (c0 :: part l d j)) ∧ w.grownBy wr none) (fun i _ => L - (intOf i).toNat)
  case atStart =>
    refine ⟨0, Nat.zero_le _, rfl, ?_, O0.out.grown⟩
    have := O0.out.own
    rwa [List.length_cons, part_length, ← HM.out, ← HN.out] at this
  case round =>
    obtain ⟨j, hj, rfl, ho, hg⟩ := hrel
    clear O0
    by_cases hlt : j < L
    · have hjl : j < l.length := by rw [← HL.out]; exact hlt
      obtain ⟨b, off, rfl, hat⟩ := HF.out (fun h0 => by rw [h0] at hjl; cases hjl)
      have d1 := keepC (below_of hg) (hat j hjl)
      obtain ⟨s, hs'⟩ : ∃ s, s = l[j] := ⟨_, rfl⟩
      rw [← hs'] at d1
      obtain ⟨H, hH⟩ : ∃ H, H = Bm.hash s.data.toList := ⟨_, rfl⟩
      have HA : Hid (∀ wx, Calls Tryz.prog 63 #[.string s] wx fun e w' => e = .returned (.int .u64 (H : Int)) ∧ w' = wx) := fun wx => by rw [hH]; exact hash_any wx s (by rw [hs']; exact hs _ (List.getElem_mem hjl))
      have SJ : Hid (Calls Tryz.prog 62 #[.slice (some ⟨w.heap.size, 0, none⟩) n n, .int .u64 (H : Int)] wr fun e w' => e = .returned (.tuple #[]) ∧ w'.ownsRow w.heap.size 5 1 (.slice (some ⟨w.heap.size, 0, none⟩) n n) n (bc (c0 :: part l d (j + 1))) ∧ wr.grownBy w' (some w.heap.size)) := ST.out wr j hjl ho H (by rw [hH, hs', getElem!_pos l j hjl])
      have HG : Hid (w.grownBy wr none) := hg
      clear hat hs' hH ST ho hg hs
      go_wp2_with (first
        | (go_at_call 63; refine (HA.out _).mono ?_; rintro e w2 ⟨rfl, rfl⟩; clear HA)
        | (go_at_call 62; refine SJ.out.mono ?_; rintro e w3 ⟨rfl, o3, g3⟩; clear SJ))
      exact ⟨⟨j + 1, by omega, by go_num, o3, grownBy_trans HG.out g3 (.inr ⟨_, rfl, Nat.le_refl _⟩)⟩, by simp [intOf]; omega⟩
    · have ej : j = l.length := by rw [← HL.out]; omega
      have hlt' : ¬ (j : Int) < (L : Int) := by omega
      have E : Hid (w.grownBy wr none ∧ wr.ownsRow w.heap.size 5 1 (.slice (some ⟨w.heap.size, 0, none⟩) n n) n (bc (Bm.filt (keysOf l) d))) := by
        subst ej
        rw [HFI.out] at ho
        exact ⟨hg, ho⟩
      clear ej ho hg hs ST
      go_wp2_with (fail)
      go_ret2
      exact ⟨n, rfl, HFL.out, ext_of_own E.out.2 HFL.out E.out.1⟩

set_option maxHeartbeats 800000 in
theorem of_bad (w : World) (a : Option Addr) (n cap : Nat) (d : Int) (hl : n ≤ 1048576) (h : d < 1 ∨ 16 < d) :
    Calls Tryz.prog 25 #[.slice a n cap, .int .i64 d] w fun e w' => e = .returned (.tuple #[.slice none 0 0, .int .i64 2]) ∧ w' = w := by
  have i1 : ¬ (n : Int) > 1048576 := by omega
  by_cases h1 : d < 1
  · go_enter Tryz.func25, Tryz.ntmps25
    go_wp2_with (fail)
    go_ret2
    exact ⟨rfl, rfl⟩
  · have h2 : d > 16 := by omega
    go_enter Tryz.func25, Tryz.ntmps25
    go_wp2_with (fail)
    go_ret2
    exact ⟨rfl, rfl⟩
end Go.Proofs.YtolalicliojkfaaGreat
