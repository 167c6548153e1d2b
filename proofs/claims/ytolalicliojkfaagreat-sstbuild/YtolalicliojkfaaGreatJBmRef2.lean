/-
  The document's own answer: a filter that is made of keys.
-/
import Derived.Test.YtolalicliojkfaaGreatJBmRef1
import Derived.Test.YtolalicliojkfaaGreatJBmZeros
import Derived.Test.YtolalicliojkfaaGreatSI
namespace Go.Proofs.YtolalicliojkfaaGreat
open Go.RowKit

theorem ics_cell {w : World} {base n : Nat} {ad : Option Addr} {cp : Nat} {l : List Nat} (h : w.ownsRow base 3 1 (.slice ad n cp) n (ics l)) (j : Nat) (hj : j < n) : ∃ g, ad = some ⟨g, 0, none⟩ ∧ base ≤ g ∧ ∃ x, (ics l)[j]? = some x ∧ w.cell? ⟨g, j, none⟩ = some x := by
  have h1 := h.1
  rcases h.2 with ⟨e, h0⟩ | ⟨g, cap, cur, e, hb, _⟩
  · omega
  · simp only [Value.slice.injEq] at e
    obtain ⟨rfl, _, rfl⟩ := e
    refine ⟨g, rfl, hb, (ics l)[j]'(by omega), List.getElem?_eq_getElem _, ?_⟩
    rw [h.cellAt j (by omega), List.getElem?_eq_getElem (by omega)]

theorem put_cons' (c0 : UInt8) (b : List UInt8) (P q r : Nat) (hq : q = P / 8) (hr : r = P % 8) (h : q < b.length) : (c0 :: b).set (1 + q) (b[q] ||| UInt8.ofNat (2 ^ r)) = c0 :: Bm.put b P := by
  subst hq; subst hr
  exact put_cons c0 b P h

set_option maxHeartbeats 1600000 in
theorem rof_ok (w : World) (v : Value) (l : List ByteArray) (d : Nat) (h : TextsIn w v l) (hl : l.length ≤ 1048576) (hs : ∀ s ∈ l, s.size ≤ 140737488355328) (h1 : 1 ≤ d) (h2 : d ≤ 16) :
    Calls Tryz.prog 34 #[v, .int .i64 (d : Int)] w fun e w' => ∃ v', e = .returned (.tuple #[v', .int .i64 0]) ∧ BytesIn w' v' (Bm.filt (keysOf l) d) ∧ Below w.heap.size w w' := by
  obtain ⟨a, cap, rfl, hc1, hc2, hc3, hf⟩ := h
  obtain ⟨L, hL⟩ : ∃ L, L = l.length := ⟨_, rfl⟩
  obtain ⟨m, hm⟩ : ∃ m, m = Bm.bytes l.length d := ⟨_, rfl⟩
  have hprod : l.length * d ≤ 1048576 * 16 := Nat.mul_le_mul hl h2
  have hm1 : 1 ≤ m := by rw [hm]; exact Bm.bytes_pos _ _
  have hm2 : m ≤ 2097153 := by rw [hm]; unfold Bm.bytes; omega
  obtain ⟨p, hp⟩ : ∃ p, p = l.length * d := ⟨_, rfl⟩
  rw [← hL] at hp
  have P1 : (L : Int) * (d : Int) = (p : Int) := by rw [hp]; simp
  have hp2 : p ≤ 16777216 := by rw [hp, hL]; omega
  have W1 : wrap64 ((L : Int) * (d : Int)) = (p : Int) := by rw [P1]; unfold wrap64; omega
  have M0 : max (8 : Int) (((p : Int) + 7) / 8 * 8) = ((8 * m : Nat) : Int) := by rw [hm]; unfold Bm.bytes; rw [← hL, ← hp]; omega
  obtain ⟨MM, hMM⟩ : ∃ x, x = 8 * m := ⟨_, rfl⟩
  rw [← hMM] at M0
  have M2 : (if (8 : Int) < ((p : Int) + 7) / 8 * 8 then ((p : Int) + 7) / 8 * 8 else 8) = (MM : Int) := by rw [← M0]; split <;> omega
  have M3 : (if ((p : Int) + 7) / 8 * 8 < (8 : Int) then 8 else ((p : Int) + 7) / 8 * 8) = (MM : Int) := by rw [← M0]; split <;> omega
  have M4 : max (8 : Int) (((p : Int) + 7) / 8 * 8) = (MM : Int) := by rw [← M2, Int.max_def]; split <;> split <;> omega
  have M8 : (MM : Int) / 8 = (m : Int) := by omega
  have hMM2 : MM ≤ 16777224 := by omega
  have hr := Bm.rounds_le d h1 h2
  obtain ⟨R, hR⟩ : ∃ R, R = Bm.rounds d := ⟨_, rfl⟩
  rw [← hR] at hr
  have K1 : ((d : Int) * 69 + 99) / 100 = (R : Int) := by rw [hR]; unfold Bm.rounds; omega
  obtain ⟨c0, hc0⟩ : ∃ c0 : UInt8, c0 = UInt8.ofNat R := ⟨_, rfl⟩
  have ec : c0.toNat = R := by rw [hc0, UInt8.toNat_ofNat']; omega
  have L0 := Ext.lit0 w.heap.size w #[.int .u8 (R : Int)] [c0] 1 (Nat.le_refl _) (by rw [← ec]; rfl) rfl (by decide)
  have HFI : Hid (c0 :: part l d l.length = Bm.filt (keysOf l) d) := by show _ = _; rw [part_all, hc0, hR]; rfl
  have Z0 : Hid ([c0] ++ List.replicate m 0 = c0 :: part l d 0) := by show _ = _; rw [part_zero, ← hm]; rfl
  have PLN : Hid (∀ j, (part l d j).length = m) := fun j => by rw [part_length, hm]
  have PSU : Hid (∀ j (h : j < l.length), part l d (j + 1) = Bm.putK (part l d j) (Bm.hash (l[j]).data.toList) R) := fun j h => by rw [part_succ l d j h, hR]
  rw [← hL] at hc1 hl ⊢
  have HL : Hid (L = l.length) := hL
  have HF : Hid (l ≠ [] → ∃ b off, a = some ⟨b, off, none⟩ ∧ ∀ j (h : j < l.length), w.cell? ⟨b, off + j, none⟩ = some (.string l[j])) := hf
  have HMM : Hid (MM = 8 * m) := hMM
  have HSZ : Hid (∀ s ∈ l, s.size ≤ 140737488355328) := hs
  clear hprod hL hf hm hp P1 hR hc0 ec hMM M0 hs
  have kz : w.heap.size ≤ (w.alloc (.cells #[.int .u8 (R : Int)] 5)).heap.size := by simp
  go_enter Tryz.func34, Tryz.ntmps34
  go_wp2_with (at_builtin; refine wpList_append_zeros _ rfl _ _ rfl w.heap.size w.heap.size 1 1 m [c0] rfl rfl L0.own rfl hm1 (by omega) (by omega) kz ?_; intro cap1 w1 o1 g1)
  clear L0 M2 M3 M4 M8 K1 W1
  obtain ⟨B, hB⟩ : ∃ B, B = w.heap.size + 1 := ⟨_, rfl⟩
  have o0 : w1.ownsRow w.heap.size 5 1 (.slice (some ⟨B, 0, none⟩) (1 + m) cap1) (1 + m) (bc (c0 :: part l d 0)) := by rw [← Z0.out, hB]; rw [World.size_alloc] at o1; exact o1
  have g0 : w.grownBy w1 none := grownBy_trans (World.grownBy_alloc w _ none) g1 (.inl rfl)
  obtain ⟨n, hn⟩ : ∃ n, n = 1 + m := ⟨_, rfl⟩
  have HB : Hid (w.heap.size ≤ B) := by show _ ≤ _; omega
  have HN : Hid (n = 1 + m) := hn
  have hnc := own_cap o0
  rw [← hn] at o0
  rw [← hB, ← hn]
  clear o1 g1 kz hn hB hnc Z0
  go_loopw [9] (fun i wr => ∃ j : Nat, j ≤ L ∧ i = .int .i64 j ∧ wr.ownsRow w.heap.size 5 1 (.slice (some ⟨B, 0, none⟩) n cap1) n (bc (c0 :: part l d j)) ∧ w.grownBy wr none) (fun i _ => L - (intOf i).toNat)
  case atStart => exact ⟨0, Nat.zero_le _, rfl, o0, g0⟩
  case round =>
    obtain ⟨j, hj, rfl, ho, hg⟩ := hrel
    clear o0 g0
    by_cases hlt : j < L
    · have hjl : j < l.length := by rw [← HL.out]; exact hlt
      obtain ⟨b, off, rfl, hat⟩ := HF.out (fun h0 => by rw [h0] at hjl; cases hjl)
      have d1 := keepC (below_of hg) (hat j hjl)
      obtain ⟨s, hs'⟩ : ∃ s, s = l[j] := ⟨_, rfl⟩
      rw [← hs'] at d1
      obtain ⟨H, hH⟩ : ∃ H, H = Bm.hash s.data.toList := ⟨_, rfl⟩
      have PC : Hid (∀ wx, Calls Tryz.prog 69 #[.string s, .int .i64 (R : Int), .int .i64 (MM : Int)] wx fun e w' => ∃ ad cp, e = .returned (.slice ad R cp) ∧ w'.ownsRow wx.heap.size 3 1 (.slice ad R cp) R (ics (spots H R MM)) ∧ Below wx.heap.size wx w') := fun wx => by
        have := places_any wx s R MM (by rw [hs']; exact HSZ.out _ (List.getElem_mem hjl)) (by omega) (by have := HMM.out; omega) (by omega)
        rw [← hH] at this
        refine this.mono ?_
        rintro e w' ⟨v, rfl, o, b⟩
        rcases o.2 with ⟨rfl, h0⟩ | ⟨g, cp, cur, rfl, _⟩
        · exact ⟨none, 0, by rw [h0], by rw [← h0] at o ⊢; exact o, b⟩
        · exact ⟨_, _, rfl, o, b⟩
      have PS : Hid (part l d (j + 1) = Bm.putK (part l d j) H R) := by show _ = _; rw [PSU.out j hjl, hH, hs']
      obtain ⟨pb, hpb⟩ : ∃ pb, pb = part l d j := ⟨_, rfl⟩
      have lpb : pb.length = m := by rw [hpb]; exact PLN.out j
      rw [← hpb] at ho PS
      have blt : B < wr.heap.size := (own_cap ho).2.1
      clear hat hs' hH hpb
      go_wp2_with (go_at_call 69; refine (PC.out _).mono ?_; rintro e w2 ⟨ad, cp, rfl, oP, b2⟩; clear PC)
      have oF : w2.ownsRow w.heap.size 5 1 (.slice (some ⟨B, 0, none⟩) n cap1) n (bc (c0 :: Bm.putK pb H 0)) := own_later ho b2
      have gF : w.grownBy w2 none := grownBy_trans hg (⟨b2.os, b2.tape, b2.output, b2.size, fun i hi _ => b2.block i hi⟩ : wr.grownBy w2 none) (.inl rfl)
      obtain ⟨wo, hwo⟩ : ∃ x, x = wr.heap.size := ⟨_, rfl⟩
      rw [← hwo] at oP blt
      clear ho hg d1 b2 hwo
      go_loopw [11] (fun i wr => ∃ t : Nat, t ≤ R ∧ i = .int .i64 t ∧ wr.ownsRow w.heap.size 5 1 (.slice (some ⟨B, 0, none⟩) n cap1) n (bc (c0 :: Bm.putK pb H t)) ∧ w.grownBy wr none ∧ wr.ownsRow wo 3 1 (.slice ad R cp) R (ics (spots H R MM))) (fun i _ => R - (intOf i).toNat)
      case atStart => exact ⟨0, Nat.zero_le _, rfl, oF, gF, oP⟩
      case round =>
        clear oF gF oP
        obtain ⟨t, ht, rfl, ho, hg, hp⟩ := hrel
        by_cases htr : t < R
        · obtain ⟨gP, rfl, hgP, x, hx, dP⟩ := ics_cell hp t htr
          obtain ⟨P, hP⟩ : ∃ P, P = Bm.place H t MM := ⟨_, rfl⟩
          have hPl : P < MM := by rw [hP]; exact Bm.place_lt _ _ _ (by have := HMM.out; omega)
          have ex : x = .int .i64 (P : Int) := by
            rw [ics_get _ t (by rw [spots_length]; exact htr), spots_get, ← hP] at hx
            exact (Option.some.inj hx).symm
          rw [ex] at dP
          have HK : Hid (Bm.putK pb H (t + 1) = Bm.put (Bm.putK pb H t) P) := by show _ = _; rw [Bm.putK, lpb, ← HMM.out, ← hP]
          obtain ⟨b', hb'⟩ : ∃ b', b' = Bm.putK pb H t := ⟨_, rfl⟩
          have lb' : b'.length = m := by rw [hb', Bm.putK_length, lpb]
          rw [← hb'] at ho HK
          obtain ⟨q, hq⟩ : ∃ q, q = P / 8 := ⟨_, rfl⟩
          obtain ⟨r, hr'⟩ : ∃ r, r = P % 8 := ⟨_, rfl⟩
          have hqm : q < m := by have := HMM.out; omega
          have hqb : q < b'.length := by omega
          have hr8 : r < 8 := by omega
          obtain ⟨c, hc⟩ : ∃ c : UInt8, c = b'[q] := ⟨_, rfl⟩
          have d0 : wr.cell? ⟨B, 1 + q, none⟩ = some (.int .u8 (c.toNat : Int)) := by
            rw [ho.cellAt _ (by have := HN.out; omega), bc_get _ _ (by simp; omega), hc]
            congr 3
            simp [Nat.add_comm 1 q]
          have f0 := ho.frozenAt (1 + q)
          have OR0 := or_u8 c r hr8
          have hz : (2 : Int) ^ r % 256 = ((2 ^ r : Nat) : Int) := by
            have h1 := Bm.bit_lt r hr8
            have h2 : (2 : Int) ^ r = ((2 ^ r : Nat) : Int) := by simp
            rw [h2]
            generalize (2 ^ r : Nat) = z at h1
            omega
          rw [← hz] at OR0
          obtain ⟨y, hy⟩ : ∃ y : UInt8, y = c ||| UInt8.ofNat (2 ^ r) := ⟨_, rfl⟩
          rw [← hy] at OR0
          have HS : Hid (∀ X : Int, X = (y.toNat : Int) → (wr.setCell ⟨B, 1 + q, none⟩ (.int .u8 X)).ownsRow w.heap.size 5 1 (.slice (some ⟨B, 0, none⟩) n cap1) n (bc (c0 :: Bm.putK pb H (t + 1))) ∧ w.grownBy (wr.setCell ⟨B, 1 + q, none⟩ (.int .u8 X)) none ∧ (wr.setCell ⟨B, 1 + q, none⟩ (.int .u8 X)).ownsRow wo 3 1 (.slice (some ⟨gP, 0, none⟩) R cp) R (ics (spots H R MM))) := fun X hX => by
            obtain ⟨s1, s2⟩ := ho.stored (1 + q) (.int .u8 X)
            rw [hX, bc_setO, hy, hc, put_cons' c0 b' P q r hq hr' hqb, ← HK.out] at s1
            rw [hX, hy, hc] at s2 ⊢
            exact ⟨s1, grownBy_trans hg s2 (.inr ⟨_, rfl, HB.out⟩), hp.kept s2 (.inr (by simp [Value.ownBlock]; omega))⟩
          have t1 : (P : Int) / 8 = (q : Int) := by omega
          have t2 : (P : Int) % 8 = (r : Int) := by omega
          have i3 : (1 : Int) + (q : Int) < (n : Int) := by have := HN.out; omega
          have i4 : (t : Int) < (R : Int) := by omega
          have i5 : min r 8 = r := by omega
          have OR : Hid (bits .or .u8 (c.toNat : Int) (2 ^ r % 256) = (y.toNat : Int)) := OR0
          clear hq hr' hc hy ho hg hp hx ex HK hb' OR0 hz hP hqb hqm lb'
          go_wp2_with (fail)
          go_region
          go_wp2_with (fail)
          obtain ⟨s1, s2, s3⟩ := HS.out _ OR.out
          exact ⟨⟨t + 1, by omega, by go_num, s1.drew, ⟨s2.os, s2.tape, s2.output, s2.size, s2.block⟩, s3.drew⟩, by simp [intOf]; omega⟩
        · obtain rfl : t = R := by omega
          have i4 : ¬ (t : Int) < (t : Int) := by omega
          go_wp2_with (fail)
          exact ⟨⟨j + 1, by omega, by go_num, by rw [PS.out]; exact ho, hg⟩, by simp [intOf]; omega⟩
    · have ej : j = l.length := by rw [← HL.out]; omega
      have hlt' : ¬ (j : Int) < (L : Int) := by omega
      have E : Hid (BytesIn wr (.slice (some ⟨B, 0, none⟩) n cap1) (Bm.filt (keysOf l) d) ∧ Below w.heap.size w wr) := by
        subst ej
        have ln : (c0 :: part l d l.length).length = n := by rw [List.length_cons, PLN.out, HN.out]; omega
        refine ⟨?_, below_of hg⟩
        rw [← HFI.out]
        exact bytes_of_own (by rw [ln]; exact ho) (by rw [ln, HN.out]; omega)
      clear ej ho hg
      go_wp2_with (fail)
      go_ret2
      exact ⟨_, rfl, E.out.1, E.out.2⟩

set_option maxHeartbeats 800000 in
theorem rof_bad (w : World) (a : Option Addr) (n cap : Nat) (d : Int) (hl : n ≤ 1048576) (h : d < 1 ∨ 16 < d) :
    Calls Tryz.prog 34 #[.slice a n cap, .int .i64 d] w fun e w' => e = .returned (.tuple #[.slice none 0 0, .int .i64 2]) ∧ w' = w := by
  have i1 : ¬ (n : Int) > 1048576 := by omega
  by_cases h1 : d < 1
  · go_enter Tryz.func34, Tryz.ntmps34
    go_wp2_with (fail)
    go_ret2
    exact ⟨rfl, rfl⟩
  · have h2 : d > 16 := by omega
    go_enter Tryz.func34, Tryz.ntmps34
    go_wp2_with (fail)
    go_ret2
    exact ⟨rfl, rfl⟩
end Go.Proofs.YtolalicliojkfaaGreat
