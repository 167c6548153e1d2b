/-
  The document's own answer: what a filter says of a key.
-/
import Derived.Test.YtanpnibabnedbaaBmRef2
namespace Go.Proofs.Ytanpnibabnedbaa
open Go.RowKit

theorem shr_bit (c : UInt8) (r : Nat) : bits .and .u8 ((c.toNat : Int) / 2 ^ r) 1 = if c.toNat.testBit r then 1 else 0 := by
  have hc := UInt8.toNat_lt c
  have e : ((c.toNat : Int) / 2 ^ r) = ((c.toNat / 2 ^ r : Nat) : Int) := by simp
  have hd : c.toNat / 2 ^ r < 256 := Nat.lt_of_le_of_lt (Nat.div_le_self _ _) hc
  rw [e]
  have := u8_and_nat (c.toNat / 2 ^ r) 1 hd (by decide)
  rw [show ((1 : Nat) : Int) = 1 from rfl] at this
  rw [this, Nat.and_one_is_mod]
  have hb : c.toNat.testBit r = decide (c.toNat / 2 ^ r % 2 = 1) := by rw [Nat.testBit_eq_decide_div_mod_eq]
  rw [hb]
  rcases Nat.mod_two_eq_zero_or_one (c.toNat / 2 ^ r) with h | h <;> simp [h]

set_option maxHeartbeats 1600000 in
theorem rhas_ok (w : World) (b off cap : Nat) (f : List UInt8) (key : ByteArray) (h : BytesAt w b off f) (hl : f.length ≤ 100000) (hs : key.size ≤ 140737488355328) (hok : Bm.ok f = true) :
    Calls Try.prog 16 #[.slice (some ⟨b, off, none⟩) f.length cap, .string key] w fun e w' => e = .returned (.tuple #[.bool (Bm.has f key.data.toList), .int .i64 0]) ∧ Below w.heap.size w w' := by
  have OK := (ok_iff f).mp hok
  have CH : Hid (Calls Try.prog 20 #[.slice (some ⟨b, off, none⟩) f.length cap] w fun e w' => e = .returned (.int .i64 0) ∧ w' = w) := by
    have := rcheck_any w (some ⟨b, off, none⟩) cap f ⟨⟨_, cap, rfl, fun _ => ⟨b, off, rfl, h⟩⟩, by omega⟩
    rwa [okE_ok hok] at this
  have d0 := h 0 (by omega)
  obtain ⟨k, hk⟩ : ∃ k : Nat, k = (f.headD 0).toNat := ⟨_, rfl⟩
  rw [headD_get f (by omega), ← hk, Nat.add_zero] at d0
  rw [← hk] at OK
  obtain ⟨H, hH⟩ : ∃ H, H = Bm.hash key.data.toList := ⟨_, rfl⟩
  have HH : Hid (Bm.has f key.data.toList = Bm.hasK f.tail H k) := by show _ = _; unfold Bm.has; rw [hk, hH]
  obtain ⟨m, hm⟩ : ∃ m, m = f.length - 1 := ⟨_, rfl⟩
  have lt : f.tail.length = m := by rw [List.length_tail, hm]
  obtain ⟨MM, hMM⟩ : ∃ x, x = 8 * m := ⟨_, rfl⟩
  have PC : Hid (∀ wx, Calls Try.prog 29 #[.string key, .int .i64 (k : Int), .int .i64 (MM : Int)] wx fun e w' => ∃ ad cp, e = .returned (.slice ad k cp) ∧ w'.ownsRow wx.heap.size 3 1 (.slice ad k cp) k (ics (spots H k MM)) ∧ Below wx.heap.size wx w') := fun wx => by
    have := places_any wx key k MM hs (by omega) (by omega) (by omega)
    rw [← hH] at this
    refine this.mono ?_
    rintro e w' ⟨v, rfl, o, b⟩
    rcases o.2 with ⟨rfl, h0⟩ | ⟨g, cp, cur, rfl, _⟩
    · exact ⟨none, 0, by rw [h0], by rw [← h0] at o ⊢; exact o, b⟩
    · exact ⟨_, _, rfl, o, b⟩
  have HB : Hid (BytesAt w b off f) := h
  have i4 : (0 : Int) < (f.length : Int) := by omega
  obtain ⟨n, hn⟩ : ∃ n, n = f.length := ⟨_, rfl⟩
  rw [← hn] at i4 CH ⊢
  have e1 : (8 : Int) * ((n : Int) - 1) = (MM : Int) := by omega
  have n1 : 1 ≤ n := by omega
  have nle : n ≤ 100000 := by omega
  have HL : Hid (f.tail.length = m ∧ n = f.length ∧ 1 ≤ m ∧ m + 1 = n ∧ MM = 8 * m) := ⟨lt, hn, by omega, by omega, hMM⟩
  have hk256 : k < 256 := by omega
  rw [HH.out]
  clear hH hk h OK hok hm lt hn HH hl hs hMM
  go_enter Try.func16, Try.ntmps16
  go_wp2_with (first
    | (go_at_call 20; refine CH.out.mono ?_; rintro e w1 ⟨rfl, rfl⟩; clear CH)
    | (go_at_call 29; refine (PC.out _).mono ?_; rintro e w2 ⟨ad, cp, rfl, oP, b2⟩; clear PC))
  obtain ⟨wo, hwo⟩ : ∃ x, x = w1.heap.size := ⟨_, rfl⟩
  rw [← hwo] at oP
  clear d0 hwo
  go_loopw [8] (fun i wr => ∃ t : Nat, t ≤ k ∧ i = .int .i64 t ∧ Below w1.heap.size w1 wr ∧ Hid (Bm.hasK f.tail H t = true) ∧ wr.ownsRow wo 3 1 (.slice ad k cp) k (ics (spots H k MM))) (fun i _ => k - (intOf i).toNat)
  case atStart => exact ⟨0, Nat.zero_le _, rfl, b2, rfl, oP⟩
  case round =>
    clear b2 oP
    obtain ⟨t, ht, rfl, bx, HT, hp⟩ := hrel
    by_cases htr : t < k
    · obtain ⟨gP, rfl, hgP, x, hx, dP⟩ := ics_cell hp t htr
      obtain ⟨P, hP⟩ : ∃ P, P = Bm.place H t MM := ⟨_, rfl⟩
      have hPl : P < MM := by rw [hP]; exact Bm.place_lt _ _ _ (by have := HL.out; omega)
      have ex : x = .int .i64 (P : Int) := by
        rw [ics_get _ t (by rw [spots_length]; exact htr), spots_get, ← hP] at hx
        exact (Option.some.inj hx).symm
      rw [ex] at dP
      obtain ⟨q, hq⟩ : ∃ q, q = P / 8 := ⟨_, rfl⟩
      obtain ⟨r, hr⟩ : ∃ r, r = P % 8 := ⟨_, rfl⟩
      have hr8 : r < 8 := by omega
      have hqm : q < f.tail.length := by have := HL.out; omega
      obtain ⟨c, hc⟩ : ∃ c : UInt8, c = f.tail[q] := ⟨_, rfl⟩
      have hqf : q + 1 < f.length := by have := HL.out; omega
      have d1 : wr.cell? ⟨b, off + (1 + q), none⟩ = some (.int .u8 (c.toNat : Int)) := by
        have := keepC bx (HB.out (q + 1) hqf)
        rw [show off + (1 + q) = off + (q + 1) from by omega, this, hc]
        simp
      have ON : Bm.on f.tail P = c.toNat.testBit r := by
        rw [on_get f.tail P (by rw [← hq]; exact hqm), hc, hr]
        simp only [hq]
      have AN := shr_bit c r
      have HS : Hid (∀ x, c.toNat.testBit r = x → Bm.on f.tail (Bm.place H t (8 * f.tail.length)) = x) := fun x hx => by rw [HL.out.1, ← HL.out.2.2.2.2, ← hP, ON, hx]
      have t1 : (P : Int) / 8 = (q : Int) := by omega
      have t2 : (P : Int) % 8 = (r : Int) := by omega
      have i3 : (1 : Int) + (q : Int) < (n : Int) := by have := HL.out; omega
      have i5 : (t : Int) < (k : Int) := by omega
      have i6 : min r 8 = r := by omega
      have kp : Hid (∀ N, (wr.drewN N).ownsRow wo 3 1 (.slice (some ⟨gP, 0, none⟩) k cp) k (ics (spots H k MM))) := fun N => own_laterI hp (below_drewN (Below.refl _ _) N)
      cases hb : c.toNat.testBit r
      · rw [hb] at AN
        simp only [Bool.false_eq_true, if_false] at AN
        have HF : Hid (Bm.hasK f.tail H k = false) := Bm.hasK_false _ _ _ t htr (HS.out _ hb)
        have AN' : (bits .and .u8 ((c.toNat : Int) / 2 ^ r) 1 == 0) = true := by rw [AN]; rfl
        clear hq hr hc hx ex hP hqf ON HS hb hp hqm
        go_wp2_with (fail)
        go_quiet (fail)
        go_wp2_with (fail)
        go_ret2
        rw [HF.out]
        exact ⟨rfl, below_drewN bx _⟩
      · rw [hb] at AN
        simp only [if_true] at AN
        have HN : Hid (Bm.hasK f.tail H (t + 1) = true) := by show _ = _; rw [Bm.hasK, HT.out, HS.out _ hb]; rfl
        have AN' : (bits .and .u8 ((c.toNat : Int) / 2 ^ r) 1 == 0) = false := by rw [AN]; rfl
        clear hq hr hc hx ex hP hqf ON HS hb hp hqm
        go_wp2_with (fail)
        go_quiet (fail)
        go_wp2_with (fail)
        exact ⟨⟨t + 1, by omega, by go_num, below_drewN bx _, HN, kp.out _⟩, by simp [intOf]; omega⟩
    · obtain rfl : t = k := by omega
      have i7 : ¬ (t : Int) < (t : Int) := by omega
      go_wp2_with (fail)
      go_ret2
      rw [HT.out]
      exact ⟨rfl, bx⟩

set_option maxHeartbeats 800000 in
theorem rhas_bad (w : World) (a : Option Addr) (cap : Nat) (f : List UInt8) (key : Value) (h : BytesIn w (.slice a f.length cap) f) (hok : Bm.ok f = false) :
    Calls Try.prog 16 #[.slice a f.length cap, key] w fun e w' => e = .returned (.tuple #[.bool false, .int .i64 5]) ∧ w' = w := by
  have CH : Hid (Calls Try.prog 20 #[.slice a f.length cap] w fun e w' => e = .returned (.int .i64 5) ∧ w' = w) := by
    have := rcheck_any w a cap f h
    rwa [okE_bad hok] at this
  clear h
  go_enter Try.func16, Try.ntmps16
  go_wp2_with (go_at_call 20; refine CH.out.mono ?_; rintro e w1 ⟨rfl, rfl⟩; clear CH)
  go_ret2
  exact ⟨rfl, rfl⟩

theorem rhas_any (w : World) (a : Option Addr) (cap : Nat) (f : List UInt8) (key : ByteArray) (h : BytesIn w (.slice a f.length cap) f) (hl : f.length ≤ 100000) (hs : key.size ≤ 140737488355328) :
    Calls Try.prog 16 #[.slice a f.length cap, .string key] w fun e w' => e = .returned (.tuple #[.bool (Bm.ok f && Bm.has f key.data.toList), .int .i64 (okE f)]) ∧ Below w.heap.size w w' := by
  cases hok : Bm.ok f
  · refine (rhas_bad w a cap f _ h hok).mono ?_
    rintro e w' ⟨rfl, rfl⟩
    rw [okE_bad hok]
    exact ⟨rfl, Below.refl _ _⟩
  · have hl2 := (ok_iff f).mp hok
    obtain ⟨b, off, rfl, _⟩ := h.spot 0 (by omega)
    obtain ⟨⟨a', c', e, hf⟩, hlen⟩ := h
    obtain ⟨b', off', e', hat⟩ := hf (by intro h0; rw [h0] at hl2; simp at hl2)
    simp only [Value.slice.injEq] at e
    rw [← e.1] at e'
    obtain ⟨rfl, rfl⟩ : b = b' ∧ off = off' := by simpa using e'
    rw [okE_ok hok, Bool.true_and]
    exact rhas_ok w b off cap f key hat hl hs hok
end Go.Proofs.Ytanpnibabnedbaa
