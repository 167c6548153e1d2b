/-
  Is it a filter, and what does it say of a key: what the program's calls answer.
-/
import Derived.Test.YtanpnibabnedbaaBmBit
import Derived.Test.YtanpnibabnedbaaKMake
namespace Go.Proofs.Ytanpnibabnedbaa
open Go.RowKit

def okE (f : List UInt8) : Int := if Bm.ok f = true then 0 else 5
theorem okE_ok {f : List UInt8} (h : Bm.ok f = true) : okE f = 0 := by unfold okE; rw [if_pos h]
theorem okE_bad {f : List UInt8} (h : Bm.ok f = false) : okE f = 5 := by unfold okE; rw [h]; rfl
theorem ok_iff (f : List UInt8) : Bm.ok f = true ↔ 2 ≤ f.length ∧ 1 ≤ (f.headD 0).toNat ∧ (f.headD 0).toNat ≤ 12 := by unfold Bm.ok; simp

theorem headD_get (f : List UInt8) (h : 0 < f.length) : f[0] = f.headD 0 := by
  cases f with
  | nil => simp at h
  | cons c l => rfl

set_option maxHeartbeats 800000 in
theorem check_any (w : World) (a : Option Addr) (cap : Nat) (f : List UInt8) (h : BytesIn w (.slice a f.length cap) f) :
    Calls Try.prog 11 #[.slice a f.length cap] w fun e w' => e = .returned (.int .i64 (okE f)) ∧ w' = w := by
  by_cases h2 : f.length < 2
  · have E : Hid (okE f = 5) := okE_bad (by rw [Bool.eq_false_iff]; intro hk; have := (ok_iff f).mp hk; omega)
    have i1 : (f.length : Int) < 2 := by omega
    clear h
    go_enter Try.func11, Try.ntmps11
    go_wp2_with (fail)
    go_ret
    rw [E.out]
    exact ⟨rfl, rfl⟩
  · obtain ⟨b, off, rfl, d0⟩ := h.spot 0 (by omega)
    obtain ⟨k, hk⟩ : ∃ k : Nat, k = (f.headD 0).toNat := ⟨_, rfl⟩
    have hk256 : k < 256 := by rw [hk]; exact UInt8.toNat_lt _
    rw [headD_get f (by omega), ← hk, Nat.add_zero] at d0
    have OK := ok_iff f
    rw [← hk] at OK
    have i1 : ¬ (f.length : Int) < 2 := by omega
    have i0 : (0 : Int) < (f.length : Int) := by omega
    clear h hk
    by_cases k1 : k < 1
    · have E : Hid (okE f = 5) := okE_bad (by rw [Bool.eq_false_iff]; intro hk; have := OK.mp hk; omega)
      have i2 : (k : Int) < 1 := by omega
      clear OK
      go_enter Try.func11, Try.ntmps11
      go_wp2_with (fail)
      go_ret
      rw [E.out]
      exact ⟨rfl, rfl⟩
    · have i2 : ¬ (k : Int) < 1 := by omega
      by_cases k2 : 12 < k
      · have E : Hid (okE f = 5) := okE_bad (by rw [Bool.eq_false_iff]; intro hk; have := OK.mp hk; omega)
        have i3 : (k : Int) > 12 := by omega
        clear OK
        go_enter Try.func11, Try.ntmps11
        go_wp2_with (fail)
        go_ret
        rw [E.out]
        exact ⟨rfl, rfl⟩
      · have E : Hid (okE f = 0) := okE_ok (OK.mpr (by omega))
        have i3 : ¬ (k : Int) > 12 := by omega
        clear OK
        go_enter Try.func11, Try.ntmps11
        go_wp2_with (fail)
        go_ret
        rw [E.out]
        exact ⟨rfl, rfl⟩

theorem and_u8 (c : UInt8) (r : Nat) (hr : r < 8) : bits .and .u8 (c.toNat : Int) ((2 ^ r : Nat) : Int) = if c.toNat.testBit r then ((2 ^ r : Nat) : Int) else 0 := by
  have hb := Bm.bit_lt r hr
  rw [u8_and_nat _ _ (UInt8.toNat_lt c) hb]
  have e : c.toNat &&& 2 ^ r = if c.toNat.testBit r then 2 ^ r else 0 := by
    apply Nat.eq_of_testBit_eq
    intro i
    rw [Nat.testBit_and, Nat.testBit_two_pow]
    by_cases hi : r = i
    · subst hi
      cases c.toNat.testBit r <;> simp
    · cases c.toNat.testBit r <;> simp [hi]
  rw [e]
  cases c.toNat.testBit r <;> simp
theorem on_get (b : List UInt8) (p : Nat) (h : p / 8 < b.length) : Bm.on b p = (b[p / 8]).toNat.testBit (p % 8) := by
  unfold Bm.on
  simp [List.getD, h]

set_option maxHeartbeats 1600000 in
theorem has_ok (w : World) (b off cap : Nat) (f : List UInt8) (key : ByteArray) (h : BytesAt w b off f) (hl : f.length ≤ 140737488355328) (hc : f.length ≤ cap) (hs : key.size ≤ 140737488355328) (hok : Bm.ok f = true) :
    Calls Try.prog 8 #[.slice (some ⟨b, off, none⟩) f.length cap, .string key] w fun e w' => e = .returned (.tuple #[.bool (Bm.has f key.data.toList), .int .i64 0]) ∧ Below w.heap.size w w' := by
  have OK := (ok_iff f).mp hok
  have CH : Hid (Calls Try.prog 11 #[.slice (some ⟨b, off, none⟩) f.length cap] w fun e w' => e = .returned (.int .i64 0) ∧ w' = w) := by
    have := check_any w (some ⟨b, off, none⟩) cap f ⟨⟨_, cap, rfl, fun _ => ⟨b, off, rfl, h⟩⟩, hl⟩
    rwa [okE_ok hok] at this
  have d0 := h 0 (by omega)
  obtain ⟨k, hk⟩ : ∃ k : Nat, k = (f.headD 0).toNat := ⟨_, rfl⟩
  rw [headD_get f (by omega), ← hk, Nat.add_zero] at d0
  rw [← hk] at OK
  obtain ⟨H, hH⟩ : ∃ H, H = Bm.hash key.data.toList := ⟨_, rfl⟩
  have hHl : H < 18446744073709551616 := by rw [hH]; exact Bm.hash_lt _
  have HA : Hid (∀ wx, Calls Try.prog 10 #[.string key] wx fun e w' => e = .returned (.int .u64 (H : Int)) ∧ w' = wx) := fun wx => by rw [hH]; exact hash_any wx key hs
  have HH : Hid (Bm.has f key.data.toList = Bm.hasK f.tail H k) := by show _ = _; unfold Bm.has; rw [hk, hH]
  obtain ⟨m, hm⟩ : ∃ m, m = f.length - 1 := ⟨_, rfl⟩
  have lt : f.tail.length = m := by rw [List.length_tail, hm]
  have BT : Hid (∀ wx i, i < k → Calls Try.prog 27 #[.slice (some ⟨b, off + 1, none⟩) m (cap - 1), .int .u64 (H : Int), .int .u8 (i : Int)] wx fun e w' => e = .returned (.tuple #[.int .u64 ((Bm.place H i (8 * m) / 8 : Nat) : Int), .int .u8 ((2 ^ (Bm.place H i (8 * m) % 8) : Nat) : Int)]) ∧ w' = wx) := fun wx i hi =>
    bit_any wx (some ⟨b, off + 1, none⟩) m (cap - 1) H i (by omega) (by omega) hHl (by omega)
  have HB : Hid (BytesAt w b off f) := h
  have i1 : (1 : Int) ≤ (f.length : Int) := by omega
  have i2 : (f.length : Int) ≤ (cap : Int) := by omega
  have i3 : ¬ cap = 1 := by omega
  have i4 : (0 : Int) < (f.length : Int) := by omega
  have e1 : f.length - 1 = m := hm.symm
  obtain ⟨n, hn⟩ : ∃ n, n = f.length := ⟨_, rfl⟩
  rw [← hn] at i1 i2 i4 e1 CH ⊢
  have HL : Hid (f.tail.length = m ∧ n = f.length ∧ 1 ≤ m ∧ m + 1 = n) := ⟨lt, hn, by omega, by omega⟩
  have hk256 : k < 256 := by omega
  have bw : b < w.heap.size := World.block_lt_of_cell? w _ d0
  rw [HH.out]
  clear hH hk h OK hok hm lt hn HH hl hc hs hHl
  go_enter Try.func8, Try.ntmps8
  go_wp2_with (go_at_call 11; refine CH.out.mono ?_; rintro e w1 ⟨rfl, rfl⟩; clear CH)
  go_quiet ((go_at_call 10; exact Calls.quiet_of_same (HA.out _)))
  clear HA
  go_wp2_with (fail)
  go_loopw [24] (fun i wr => ∃ j : Nat, j ≤ k ∧ i = .int .u8 j ∧ Below w1.heap.size w1 wr ∧ Hid (Bm.hasK f.tail H j = true)) (fun i _ => k - (intOf i).toNat)
  case atStart => exact ⟨0, Nat.zero_le _, rfl, below_drewN (Below.refl _ _) _, rfl⟩
  case round =>
    obtain ⟨j, hj, rfl, bx, HT⟩ := hrel
    by_cases hlt : j < k
    · obtain ⟨P, hP⟩ : ∃ P, P = Bm.place H j (8 * m) := ⟨_, rfl⟩
      have hPl : P < 8 * m := by rw [hP]; exact Bm.place_lt _ _ _ (by have := HL.out.2.2.1; omega)
      have BJ : Hid (∀ wx, Calls Try.prog 27 #[.slice (some ⟨b, off + 1, none⟩) m (cap - 1), .int .u64 (H : Int), .int .u8 (j : Int)] wx fun e w' => e = .returned (.tuple #[.int .u64 ((P / 8 : Nat) : Int), .int .u8 ((2 ^ (P % 8) : Nat) : Int)]) ∧ w' = wx) := fun wx => by rw [hP]; exact BT.out wx j hlt
      obtain ⟨q, hq⟩ : ∃ q, q = P / 8 := ⟨_, rfl⟩
      obtain ⟨r, hr⟩ : ∃ r, r = P % 8 := ⟨_, rfl⟩
      have hr8 : r < 8 := by omega
      have hqm : q < f.tail.length := by rw [HL.out.1]; omega
      obtain ⟨c, hc⟩ : ∃ c : UInt8, c = f.tail[q] := ⟨_, rfl⟩
      have hqf : q + 1 < f.length := by have := HL.out.2; omega
      have d1 : wr.cell? ⟨b, off + 1 + q, none⟩ = some (.int .u8 (c.toNat : Int)) := by
        have := keepC bx (HB.out (q + 1) hqf)
        rw [show off + 1 + q = off + (q + 1) from by omega, this, hc]
        simp
      have ON : Bm.on f.tail P = c.toNat.testBit r := by
        rw [on_get f.tail P (by rw [← hq]; exact hqm), hc, hr]
        simp only [hq]
      have AN := and_u8 c r hr8
      obtain ⟨z, hz⟩ : ∃ z, z = 2 ^ r := ⟨_, rfl⟩
      have hz0 : 0 < z := by rw [hz]; exact Nat.two_pow_pos r
      have i6 : (q : Int) < (m : Int) := by have := HL.out.1; omega
      have i7 : (j : Int) < (k : Int) := by omega
      have i8 : IntKind.u8.wrap ((j : Int) + 1) = ((j + 1 : Nat) : Int) := by rw [IntKind.wrap_u8]; omega
      rw [← hq, ← hr, ← hz] at BJ
      rw [← hz] at AN
      have HS : Hid (∀ x, c.toNat.testBit r = x → Bm.on f.tail (Bm.place H j (8 * f.tail.length)) = x) := fun x hx => by rw [HL.out.1, ← hP, ON, hx]
      cases ht : c.toNat.testBit r
      · rw [ht] at AN
        simp only [Bool.false_eq_true, if_false] at AN
        have HF : Hid (Bm.hasK f.tail H k = false) := Bm.hasK_false _ _ _ j hlt (HS.out _ ht)
        clear hP hPl hq hr hr8 hqm hc hqf ON hz HS ht
        go_wp2_with (go_at_call 27; refine (BJ.out _).mono ?_; rintro e w2 ⟨rfl, rfl⟩)
        go_ret2
        rw [HF.out]
        exact ⟨rfl, bx⟩
      · rw [ht] at AN
        simp only [if_true] at AN
        have HN : Hid (Bm.hasK f.tail H (j + 1) = true) := by show _ = _; rw [Bm.hasK, HT.out, HS.out _ ht]; rfl
        have i9 : ((z : Int) == 0) = false := by simp; omega
        clear hP hPl hq hr hr8 hqm hc hqf ON hz HS ht
        go_wp2_with (go_at_call 27; refine (BJ.out _).mono ?_; rintro e w2 ⟨rfl, rfl⟩)
        exact ⟨⟨j + 1, by omega, by go_num, bx, HN⟩, by simp [intOf]; omega⟩
    · have ej : j = k := by omega
      subst ej
      have i7 : ¬ (j : Int) < (j : Int) := by omega
      go_wp2_with (fail)
      go_ret2
      rw [HT.out]
      exact ⟨rfl, bx⟩

set_option maxHeartbeats 800000 in
theorem has_bad (w : World) (a : Option Addr) (cap : Nat) (f : List UInt8) (key : Value) (h : BytesIn w (.slice a f.length cap) f) (hok : Bm.ok f = false) :
    Calls Try.prog 8 #[.slice a f.length cap, key] w fun e w' => e = .returned (.tuple #[.bool false, .int .i64 5]) ∧ w' = w := by
  have CH : Hid (Calls Try.prog 11 #[.slice a f.length cap] w fun e w' => e = .returned (.int .i64 5) ∧ w' = w) := by
    have := check_any w a cap f h
    rwa [okE_bad hok] at this
  clear h
  go_enter Try.func8, Try.ntmps8
  go_wp2_with (go_at_call 11; refine CH.out.mono ?_; rintro e w1 ⟨rfl, rfl⟩; clear CH)
  go_ret2
  exact ⟨rfl, rfl⟩

theorem has_any (w : World) (a : Option Addr) (cap : Nat) (f : List UInt8) (key : ByteArray) (h : BytesIn w (.slice a f.length cap) f) (hc : f.length ≤ cap) (hs : key.size ≤ 140737488355328) :
    Calls Try.prog 8 #[.slice a f.length cap, .string key] w fun e w' => e = .returned (.tuple #[.bool (Bm.ok f && Bm.has f key.data.toList), .int .i64 (okE f)]) ∧ Below w.heap.size w w' := by
  cases hok : Bm.ok f
  · refine (has_bad w a cap f _ h hok).mono ?_
    rintro e w' ⟨rfl, rfl⟩
    rw [okE_bad hok]
    exact ⟨rfl, Below.refl _ _⟩
  · have hl := (ok_iff f).mp hok
    obtain ⟨b, off, rfl, _⟩ := h.spot 0 (by omega)
    obtain ⟨⟨a', c', e, hf⟩, hlen⟩ := h
    obtain ⟨b', off', e', hat⟩ := hf (by intro h0; rw [h0] at hl; simp at hl)
    simp only [Value.slice.injEq] at e
    rw [← e.1] at e'
    obtain ⟨rfl, rfl⟩ : b = b' ∧ off = off' := by simpa using e'
    rw [okE_ok hok, Bool.true_and]
    exact has_ok w b off cap f key hat hlen hc hs hok
end Go.Proofs.Ytanpnibabnedbaa
