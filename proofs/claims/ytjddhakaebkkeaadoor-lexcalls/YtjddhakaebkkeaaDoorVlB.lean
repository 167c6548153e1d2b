/-
  Package unicode/utf8: is a list of bytes valid?
-/
import Derived.Test.YtjddhakaebkkeaaDoorVlA
import Derived.Deep.LoopGhost
import Derived.Deep.Cut
import Derived.Deep.CutRange
import Derived.Lib.LaidU8T
namespace Go.Proofs.YtjddhakaebkkeaaDoor
open Go.RowKit Go.Shelf Go.Lib
attribute [local go_sem ↓] Go.wp_at_zero Go.wp_at_succ

theorem drewNv {B : Nat} {a w : World} (h : Below B a w) : ∀ q, Below B a (w.drewN q)
  | 0 => h
  | q + 1 => (drewNv h q).drew
theorem u8tabs_later {a b : Nat} {w w' : World} (h : Lib.Utf8Tabs a b w) (hb : Below w.heap.size w w') : Lib.Utf8Tabs a b w' :=
  ⟨fun c hc => (hb.cell (World.block_lt_of_cell? w _ (h.1 c hc))).trans (h.1 c hc), fun i hi => ⟨(hb.cell (World.block_lt_of_cell? w _ (h.2 i hi).1)).trans (h.2 i hi).1, (hb.cell (World.block_lt_of_cell? w _ (h.2 i hi).2)).trans (h.2 i hi).2⟩⟩
/-- Bytes of a slice that is as long as its room. -/
def SlAt (w : World) (v : Value) (t : ByteArray) : Prop := ∃ (a : Option Addr) (m : Nat), v = .slice a m m ∧ m = t.size ∧ (0 < m → ∃ b off, a = some ⟨b, off, none⟩ ∧ TxAt w b off t)
theorem SlAt.emp {w : World} {t : ByteArray} (a : Option Addr) (h : t.size = 0) : SlAt w (.slice a 0 0) t := ⟨a, 0, rfl, h.symm, fun h => absurd h (by omega)⟩
theorem SlAt.full {w : World} {t : ByteArray} {b off n : Nat} (hn : n = t.size) (h : TxAt w b off t) : SlAt w (.slice (some ⟨b, off, none⟩) n n) t := ⟨_, n, rfl, hn, fun _ => ⟨b, off, rfl, h⟩⟩

set_option maxHeartbeats 16000000 in
set_option maxRecDepth 1000000 in
theorem valid_any (w : World) (a : Option Addr) (cap n : Nat) (s : ByteArray) (hn : n = s.size) (hcap : n ≤ cap) (hat : 0 < n → ∃ b off, a = some ⟨b, off, none⟩ ∧ TxAt w b off s) (hs : n ≤ 1000000) (hT : Lib.Utf8Tabs 0 1 w) :
    Calls Tryd.prog 54 #[.slice a n cap] w fun e w' => e = .returned (.bool (Lib.validD s.data.toList)) ∧ Below w.heap.size w w' := by
  obtain ⟨ANS, hANS⟩ : ∃ ANS, Lib.validD s.data.toList = ANS := ⟨_, rfl⟩
  rw [hANS]
  have hci : (n : Int) ≤ (cap : Int) := by omega
  have HAT := hide hat
  have HN := hide hn
  have TT := hide hT
  clear hat hn hT
  go_enter Tryd.func54, Tryd.ntmps54
  go_wp2
  go_loopg [0] (n + 1) (fun gk s0 wx => Below w.heap.size w wx ∧ ∃ (t : ByteArray), SlAt w s0 t ∧ Lib.validD t.data.toList = ANS ∧ t.size < gk ∧ t.size ≤ 1000000)
  case atStart => exact ⟨Below.refl _ _, s, ⟨a, n, rfl, HN.out, HAT.out⟩, hANS, by have := HN.out; omega, by have := HN.out; omega⟩
  case round =>
    obtain ⟨hbw, t, ⟨a, m, rfl, hm, hat⟩, hv, hg, hts⟩ := hrel
    clear hANS HAT HN hci
    by_cases h0 : 0 < m
    · obtain ⟨g', rfl⟩ : ∃ g', gk = g' + 1 := ⟨gk - 1, by omega⟩
      obtain ⟨b, off, rfl, TA⟩ := hat h0
      clear hat
      have h0z : (0 : Int) < (m : Int) := by omega
      obtain ⟨x0, hx0⟩ : ∃ x0, t.get! 0 = x0 := ⟨_, rfl⟩
      have c0 : wr.cell? ⟨b, off, none⟩ = some (.int .u8 (x0.toNat : Int)) := by have := (TA.later hbw) 0 (by omega); rwa [hx0, Nat.add_zero] at this
      have lb : b < wr.heap.size := World.block_lt_of_cell? wr _ c0
      have hx0lt : x0.toNat < 256 := x0.toNat_lt
      by_cases hasc : x0.toNat < 128
      · as_aux_lemma =>
        have hascz : (x0.toNat : Int) < 128 := by omega
        have a1 : Lib.Asc t 1 := Lib.asc_one t (by omega) (by rw [hx0]; exact hasc)
        obtain ⟨t1, ht1⟩ : ∃ t1, t.extract 1 t.size = t1 := ⟨_, rfl⟩
        obtain ⟨n1, rfl⟩ : ∃ n1, m = n1 + 1 := ⟨m - 1, by omega⟩
        have z1 : n1 = t1.size := by rw [← ht1, Lib.ext_size]; omega
        have v1 : Lib.validD t1.data.toList = ANS := by rw [← ht1, Lib.valid_skip t 1 a1]; exact hv
        have T1 : TxAt w b (off + 1) t1 := by rw [← ht1]; exact TA.skip 1
        have hg1 : t1.size < g' := by omega
        have ht1s : t1.size ≤ 1000000 := by omega
        have HV1 := hide v1
        have HT1 := hide T1
        have HZ1 := hide z1
        clear hv a1 ht1 TA hg hts hm hx0 hasc v1 T1
        by_cases hn1 : n1 = 0
        · subst hn1
          clear z1
          go_wp2
          go_roundg g'
          case measure => omega
          case rel => exact ⟨hbw, t1, SlAt.emp _ HZ1.out.symm, HV1.out, hg1, ht1s⟩
        · by_cases c8 : 8 < n1
          · obtain ⟨n2, rfl⟩ : ∃ n2, n1 = n2 + 8 := ⟨n1 - 8, by omega⟩
            have hn2 : ¬ n2 = 0 := by omega
            have c8z : (8 : Int) < ((n2 + 8 : Nat) : Int) := by omega
            have c8y : (0 : Int) < (n2 : Int) := by omega
            obtain ⟨A1, hA1⟩ : ∃ X, Lib.leNat [t1.get! 0, t1.get! 1, t1.get! 2, t1.get! 3, t1.get! 4, t1.get! 5, t1.get! 6, t1.get! 7] = X := ⟨_, rfl⟩
            have lA1 : A1 < 18446744073709551616 := hA1 ▸ Lib.word_lt t1
            have cW1 : ∀ W, Below w.heap.size w W → Calls Tryd.prog 65 #[.slice (some ⟨b, off + 1, none⟩) (n2 + 8) (n2 + 8)] W fun e w' => e = .returned (.int .u64 A1) ∧ ∃ q, w' = W.drewN q := fun W hb => by rw [← hA1]; exact wordB_any W b (off + 1) (n2 + 8) (n2 + 8) t1 (by have := HZ1.out; omega) HZ1.out (HT1.out.later hb)
            have kA1 := Lib.word_asc t1 (by have := HZ1.out; omega)
            rw [hA1] at kA1
            have hand1 : bits .and .u64 (A1 : Int) 9259542123273814144 = ((A1 &&& 9259542123273814144 : Nat) : Int) := u64_and_nat A1 9259542123273814144 lA1 (by omega)
            obtain ⟨Z1, hZ1⟩ : ∃ Z1, A1 &&& 9259542123273814144 = Z1 := ⟨_, rfl⟩
            rw [hZ1] at hand1 kA1
            by_cases hz1 : Z1 = 0
            · have hz1b : ((Z1 : Int) == 0) = true := by simp [hz1]
              have a8 : Lib.Asc t1 8 := kA1.1 hz1
              obtain ⟨t2, ht2⟩ : ∃ t2, t1.extract 8 t1.size = t2 := ⟨_, rfl⟩
              have z2 : n2 = t2.size := by rw [← ht2, Lib.ext_size, ← HZ1.out]; omega
              have HV2 : Hid (Lib.validD t2.data.toList = ANS) := by show _ = _; rw [← ht2, Lib.valid_skip t1 8 a8]; exact HV1.out
              have HT2 : Hid (TxAt w b (off + 1 + 8) t2) := by show TxAt _ _ _ _; rw [← ht2]; exact HT1.out.skip 8
              have HZ2 := hide z2
              have hg2 : t2.size < g' := by omega
              have ht2s : t2.size ≤ 1000000 := by omega
              clear kA1 a8 ht2 hz1 hZ1 hA1 z1 z2
              go_wp2_with (go_at_call 65; refine (cW1 _ hbw).mono ?_; rintro e W1 ⟨rfl, q1, rfl⟩)
              have hb1 : Below w.heap.size w (wr.drewN q1) := drewNv hbw q1
              generalize wr.drewN q1 = wq at hb1 ⊢
              clear cW1 hbw c0 lb
              by_cases c16 : 16 < n2
              · obtain ⟨n3, rfl⟩ : ∃ n3, n2 = n3 + 16 := ⟨n2 - 16, by omega⟩
                have hn3 : ¬ n3 = 0 := by omega
                have c16z : (16 : Int) < ((n3 + 16 : Nat) : Int) := by omega
                have c16y : (0 : Int) < (n3 : Int) := by omega
                have c16x : (16 : Int) < (n3 : Int) + 16 := by omega
                have c16w : decide ((16 : Int) < (n3 : Int) + 16) = true := decide_eq_true c16x
                have s8z : (8 : Int) ≤ ((n3 + 16 : Nat) : Int) := by omega
                have s8y : (8 : Int) ≤ (n3 : Int) + 16 := by omega
                obtain ⟨t2b, ht2b⟩ : ∃ t2b, t2.extract 8 t2.size = t2b := ⟨_, rfl⟩
                have HZ2b : Hid (n3 + 8 = t2b.size) := by show _ = _; rw [← ht2b, Lib.ext_size, ← HZ2.out]; omega
                have HT2b : Hid (TxAt w b (off + 1 + 8 + 8) t2b) := by show TxAt _ _ _ _; rw [← ht2b]; exact HT2.out.skip 8
                obtain ⟨A2, hA2⟩ : ∃ X, Lib.leNat [t2.get! 0, t2.get! 1, t2.get! 2, t2.get! 3, t2.get! 4, t2.get! 5, t2.get! 6, t2.get! 7] = X := ⟨_, rfl⟩
                have lA2 : A2 < 18446744073709551616 := hA2 ▸ Lib.word_lt t2
                have cW2 : ∀ W, Below w.heap.size w W → Calls Tryd.prog 65 #[.slice (some ⟨b, off + 1 + 8, none⟩) (n3 + 16) (n3 + 16)] W fun e w' => e = .returned (.int .u64 A2) ∧ ∃ q, w' = W.drewN q := fun W hb => by rw [← hA2]; exact wordB_any W b (off + 1 + 8) (n3 + 16) (n3 + 16) t2 (by have := HZ2.out; omega) HZ2.out (HT2.out.later hb)
                have kA2 := Lib.word_asc t2 (by have := HZ2.out; omega)
                rw [hA2] at kA2
                have hand2 : bits .and .u64 (A2 : Int) 9259542123273814144 = ((A2 &&& 9259542123273814144 : Nat) : Int) := u64_and_nat A2 9259542123273814144 lA2 (by omega)
                obtain ⟨A3, hA3⟩ : ∃ X, Lib.leNat [t2b.get! 0, t2b.get! 1, t2b.get! 2, t2b.get! 3, t2b.get! 4, t2b.get! 5, t2b.get! 6, t2b.get! 7] = X := ⟨_, rfl⟩
                have lA3 : A3 < 18446744073709551616 := hA3 ▸ Lib.word_lt t2b
                have cW3 : ∀ W, Below w.heap.size w W → Calls Tryd.prog 65 #[.slice (some ⟨b, off + 1 + 8 + 8, none⟩) (n3 + 8) (n3 + 8)] W fun e w' => e = .returned (.int .u64 A3) ∧ ∃ q, w' = W.drewN q := fun W hb => by rw [← hA3]; exact wordB_any W b (off + 1 + 8 + 8) (n3 + 8) (n3 + 8) t2b (by have := HZ2b.out; omega) HZ2b.out (HT2b.out.later hb)
                have kA3 := Lib.word_asc t2b (by have := HZ2b.out; omega)
                rw [hA3] at kA3
                have hand3 : bits .and .u64 (A3 : Int) 9259542123273814144 = ((A3 &&& 9259542123273814144 : Nat) : Int) := u64_and_nat A3 9259542123273814144 lA3 (by omega)
                have hor2 : bits .or .u64 (A2 : Int) (A3 : Int) = ((A2 ||| A3 : Nat) : Int) := u64_or_nat A2 A3 lA2 lA3
                have lor2 : A2 ||| A3 < 18446744073709551616 := Nat.or_lt_two_pow (n := 64) lA2 lA3
                have handB : bits .and .u64 ((A2 ||| A3 : Nat) : Int) 9259542123273814144 = (((A2 ||| A3) &&& 9259542123273814144 : Nat) : Int) := u64_and_nat _ 9259542123273814144 lor2 (by omega)
                have k2 : (A2 ||| A3) &&& 9259542123273814144 = 0 → Lib.Asc t2 16 := fun h0' => by
                  obtain ⟨e1, e2⟩ := (Lib.or_mask A2 A3 _).1 h0'
                  exact Lib.asc_add t2 8 8 (kA2.1 e1) (by rw [ht2b]; exact kA3.1 e2)
                obtain ⟨O2, hO2⟩ : ∃ O2, A2 ||| A3 = O2 := ⟨_, rfl⟩
                rw [hO2] at hor2 handB k2
                obtain ⟨Z2, hZ2⟩ : ∃ Z2, O2 &&& 9259542123273814144 = Z2 := ⟨_, rfl⟩
                rw [hZ2] at handB k2
                clear kA2 kA3 lor2 hO2 hZ2 hand2 hand3 hA2 hA3 ht2b
                by_cases hz2 : Z2 = 0
                · have hz2b : ((Z2 : Int) == 0) = true := by simp [hz2]
                  have a16 := k2 hz2
                  obtain ⟨t3, ht3⟩ : ∃ t3, t2.extract 16 t2.size = t3 := ⟨_, rfl⟩
                  have z3 : n3 = t3.size := by rw [← ht3, Lib.ext_size, ← HZ2.out]; omega
                  have HV3 : Hid (Lib.validD t3.data.toList = ANS) := by show _ = _; rw [← ht3, Lib.valid_skip t2 16 a16]; exact HV2.out
                  have HT3 : Hid (TxAt w b (off + 1 + 8 + 16) t3) := by show TxAt _ _ _ _; rw [← ht3]; exact HT2.out.skip 16
                  have HZ3 := hide z3
                  have hg3 : t3.size < g' := by have := HZ2.out; omega
                  have ht3s : t3.size ≤ 1000000 := by have := HZ2.out; omega
                  clear k2 a16 hz2 ht3 z3
                  go_quiet (first | (go_at_call 65; with_reducible refine Calls.quiet_of (cW2 _ ?_); first | exact hb1 | exact drewNv hb1 _) | (go_at_call 65; with_reducible refine Calls.quiet_of (cW3 _ ?_); first | exact hb1 | exact drewNv hb1 _))
                  have hb2 : Below w.heap.size w (wq.drewN nq) := drewNv hb1 nq
                  generalize wq.drewN nq = wq2 at hb2 ⊢
                  clear cW2 cW3 hb1
                  go_wp2
                  go_loopg [0] (n3 + 1) (fun g2 s0 wx => Below w.heap.size w wx ∧ ∃ u : ByteArray, SlAt w s0 u ∧ Lib.validD u.data.toList = ANS ∧ u.size < g2 ∧ u.size ≤ t3.size)
                  case atStart => exact ⟨hb2, t3, SlAt.full HZ3.out HT3.out, HV3.out, by have := HZ3.out; omega, Nat.le_refl _⟩
                  case round =>
                    obtain ⟨hbu, u, ⟨a2, k, rfl, hk, hat2⟩, vu, hgu, hut⟩ := hrel
                    have HVU := hide vu
                    clear vu
                    by_cases c32 : 32 < k
                    · obtain ⟨g3, rfl⟩ : ∃ g3, gk = g3 + 1 := ⟨gk - 1, by omega⟩
                      obtain ⟨b2, off2, rfl, HTU0⟩ := hat2 (by omega)
                      have HTU := hide HTU0
                      clear hat2 HTU0
                      obtain ⟨k', rfl⟩ : ∃ k', k = k' + 32 := ⟨k - 32, by omega⟩
                      have HK := hide hk
                      have hk' : ¬ k' = 0 := by omega
                      have c32z : (32 : Int) < ((k' + 32 : Nat) : Int) := by omega
                      have c32y : (0 : Int) < (k' : Int) := by omega
                      have c32x : (32 : Int) < (k' : Int) + 32 := by omega
                      have c32w : decide ((32 : Int) < (k' : Int) + 32) = true := decide_eq_true c32x
                      have s8u : (8 : Int) ≤ (k' : Int) + 32 := by omega
                      have s16u : (16 : Int) ≤ (k' : Int) + 32 := by omega
                      have s24u : (24 : Int) ≤ (k' : Int) + 32 := by omega
                      obtain ⟨ub, hub⟩ : ∃ ub, u.extract 8 u.size = ub := ⟨_, rfl⟩
                      have HKb : Hid (k' + 24 = ub.size) := by show _ = _; rw [← hub, Lib.ext_size]; omega
                      have HTb : Hid (TxAt w b2 (off2 + 8) ub) := by show TxAt _ _ _ _; rw [← hub]; exact HTU.out.skip 8
                      obtain ⟨uc, huc⟩ : ∃ uc, u.extract 16 u.size = uc := ⟨_, rfl⟩
                      have HKc : Hid (k' + 16 = uc.size) := by show _ = _; rw [← huc, Lib.ext_size]; omega
                      have HTc : Hid (TxAt w b2 (off2 + 16) uc) := by show TxAt _ _ _ _; rw [← huc]; exact HTU.out.skip 16
                      obtain ⟨ud, hud⟩ : ∃ ud, u.extract 24 u.size = ud := ⟨_, rfl⟩
                      have HKd : Hid (k' + 8 = ud.size) := by show _ = _; rw [← hud, Lib.ext_size]; omega
                      have HTd : Hid (TxAt w b2 (off2 + 24) ud) := by show TxAt _ _ _ _; rw [← hud]; exact HTU.out.skip 24
                      obtain ⟨B0, hB0⟩ : ∃ X, Lib.leNat [u.get! 0, u.get! 1, u.get! 2, u.get! 3, u.get! 4, u.get! 5, u.get! 6, u.get! 7] = X := ⟨_, rfl⟩
                      have lB0 : B0 < 18446744073709551616 := hB0 ▸ Lib.word_lt u
                      have cB0 : ∀ W, Below w.heap.size w W → Calls Tryd.prog 65 #[.slice (some ⟨b2, off2, none⟩) (k' + 32) (k' + 32)] W fun e w' => e = .returned (.int .u64 B0) ∧ ∃ q, w' = W.drewN q := fun W hb => by rw [← hB0]; exact wordB_any W b2 (off2) (k' + 32) (k' + 32) u (by have := HK.out; omega) HK.out (HTU.out.later hb)
                      have kB0 := Lib.word_asc u (by have := HK.out; omega)
                      rw [hB0] at kB0
                      obtain ⟨B1, hB1⟩ : ∃ X, Lib.leNat [ub.get! 0, ub.get! 1, ub.get! 2, ub.get! 3, ub.get! 4, ub.get! 5, ub.get! 6, ub.get! 7] = X := ⟨_, rfl⟩
                      have lB1 : B1 < 18446744073709551616 := hB1 ▸ Lib.word_lt ub
                      have cB1 : ∀ W, Below w.heap.size w W → Calls Tryd.prog 65 #[.slice (some ⟨b2, off2 + 8, none⟩) (k' + 24) (k' + 24)] W fun e w' => e = .returned (.int .u64 B1) ∧ ∃ q, w' = W.drewN q := fun W hb => by rw [← hB1]; exact wordB_any W b2 (off2 + 8) (k' + 24) (k' + 24) ub (by have := HKb.out; omega) HKb.out (HTb.out.later hb)
                      have kB1 := Lib.word_asc ub (by have := HKb.out; omega)
                      rw [hB1] at kB1
                      obtain ⟨B2, hB2⟩ : ∃ X, Lib.leNat [uc.get! 0, uc.get! 1, uc.get! 2, uc.get! 3, uc.get! 4, uc.get! 5, uc.get! 6, uc.get! 7] = X := ⟨_, rfl⟩
                      have lB2 : B2 < 18446744073709551616 := hB2 ▸ Lib.word_lt uc
                      have cB2 : ∀ W, Below w.heap.size w W → Calls Tryd.prog 65 #[.slice (some ⟨b2, off2 + 16, none⟩) (k' + 16) (k' + 16)] W fun e w' => e = .returned (.int .u64 B2) ∧ ∃ q, w' = W.drewN q := fun W hb => by rw [← hB2]; exact wordB_any W b2 (off2 + 16) (k' + 16) (k' + 16) uc (by have := HKc.out; omega) HKc.out (HTc.out.later hb)
                      have kB2 := Lib.word_asc uc (by have := HKc.out; omega)
                      rw [hB2] at kB2
                      obtain ⟨B3, hB3⟩ : ∃ X, Lib.leNat [ud.get! 0, ud.get! 1, ud.get! 2, ud.get! 3, ud.get! 4, ud.get! 5, ud.get! 6, ud.get! 7] = X := ⟨_, rfl⟩
                      have lB3 : B3 < 18446744073709551616 := hB3 ▸ Lib.word_lt ud
                      have cB3 : ∀ W, Below w.heap.size w W → Calls Tryd.prog 65 #[.slice (some ⟨b2, off2 + 24, none⟩) (k' + 8) (k' + 8)] W fun e w' => e = .returned (.int .u64 B3) ∧ ∃ q, w' = W.drewN q := fun W hb => by rw [← hB3]; exact wordB_any W b2 (off2 + 24) (k' + 8) (k' + 8) ud (by have := HKd.out; omega) HKd.out (HTd.out.later hb)
                      have kB3 := Lib.word_asc ud (by have := HKd.out; omega)
                      rw [hB3] at kB3
                      have ho1 : bits .or .u64 (B0 : Int) (B1 : Int) = ((B0 ||| B1 : Nat) : Int) := u64_or_nat B0 B1 lB0 lB1
                      have ho2 : bits .or .u64 (B2 : Int) (B3 : Int) = ((B2 ||| B3 : Nat) : Int) := u64_or_nat B2 B3 lB2 lB3
                      have lo1 : B0 ||| B1 < 18446744073709551616 := Nat.or_lt_two_pow (n := 64) lB0 lB1
                      have lo2 : B2 ||| B3 < 18446744073709551616 := Nat.or_lt_two_pow (n := 64) lB2 lB3
                      have ho3 : bits .or .u64 ((B0 ||| B1 : Nat) : Int) ((B2 ||| B3 : Nat) : Int) = (((B0 ||| B1) ||| (B2 ||| B3) : Nat) : Int) := u64_or_nat _ _ lo1 lo2
                      have lo3 : (B0 ||| B1) ||| (B2 ||| B3) < 18446744073709551616 := Nat.or_lt_two_pow (n := 64) lo1 lo2
                      have hand3 : bits .and .u64 (((B0 ||| B1) ||| (B2 ||| B3) : Nat) : Int) 9259542123273814144 = ((((B0 ||| B1) ||| (B2 ||| B3)) &&& 9259542123273814144 : Nat) : Int) := u64_and_nat _ 9259542123273814144 lo3 (by omega)
                      have k3 : ((B0 ||| B1) ||| (B2 ||| B3)) &&& 9259542123273814144 = 0 → Lib.Asc u 32 := fun h0' => by
                        obtain ⟨e01, e23⟩ := (Lib.or_mask _ _ _).1 h0'
                        obtain ⟨e0, e1⟩ := (Lib.or_mask _ _ _).1 e01
                        obtain ⟨e2, e3⟩ := (Lib.or_mask _ _ _).1 e23
                        have s16 : Lib.Asc u 16 := Lib.asc_add u 8 8 (kB0.1 e0) (by rw [hub]; exact kB1.1 e1)
                        have s24 : Lib.Asc u 24 := Lib.asc_add u 16 8 s16 (by rw [huc]; exact kB2.1 e2)
                        exact Lib.asc_add u 24 8 s24 (by rw [hud]; exact kB3.1 e3)
                      obtain ⟨P1, hP1⟩ : ∃ P1, B0 ||| B1 = P1 := ⟨_, rfl⟩
                      obtain ⟨P2, hP2⟩ : ∃ P2, B2 ||| B3 = P2 := ⟨_, rfl⟩
                      rw [hP1, hP2] at ho3 hand3 k3
                      rw [hP1] at ho1
                      rw [hP2] at ho2
                      obtain ⟨P3, hP3⟩ : ∃ P3, P1 ||| P2 = P3 := ⟨_, rfl⟩
                      rw [hP3] at ho3 hand3 k3
                      obtain ⟨Z3, hZ3⟩ : ∃ Z3, P3 &&& 9259542123273814144 = Z3 := ⟨_, rfl⟩
                      rw [hZ3] at hand3 k3
                      clear kB0 kB1 kB2 kB3 lo1 lo2 lo3 hP1 hP2 hP3 hZ3 hB0 hB1 hB2 hB3 hub huc hud hk
                      by_cases hz3 : Z3 = 0
                      · have hz3b : ((Z3 : Int) == 0) = true := by simp [hz3]
                        have a32 := k3 hz3
                        obtain ⟨u2, hu2⟩ : ∃ u2, u.extract 32 u.size = u2 := ⟨_, rfl⟩
                        have HZU2 : Hid (k' = u2.size) := by show _ = _; rw [← hu2, Lib.ext_size, ← HK.out]; omega
                        have HVU2 : Hid (Lib.validD u2.data.toList = ANS) := by show _ = _; rw [← hu2, Lib.valid_skip u 32 a32]; exact HVU.out
                        have HTU2 : Hid (TxAt w b2 (off2 + 32) u2) := by show TxAt _ _ _ _; rw [← hu2]; exact HTU.out.skip 32
                        have l1 : u2.size < g3 := by have := HZU2.out; have := HK.out; omega
                        have l2 : u2.size ≤ t3.size := by have := HZU2.out; have := HK.out; omega
                        clear k3 a32 hu2 hz3
                        go_wp2_with fail
                        go_quiet (first | (go_at_call 65; with_reducible refine Calls.quiet_of (cB0 _ ?_); first | exact hbu | exact drewNv hbu _) | (go_at_call 65; with_reducible refine Calls.quiet_of (cB1 _ ?_); first | exact hbu | exact drewNv hbu _) | (go_at_call 65; with_reducible refine Calls.quiet_of (cB2 _ ?_); first | exact hbu | exact drewNv hbu _) | (go_at_call 65; with_reducible refine Calls.quiet_of (cB3 _ ?_); first | exact hbu | exact drewNv hbu _))
                        go_wp2
                        go_roundg g3
                        case measure => omega
                        case rel => exact ⟨drewNv hbu nq, u2, SlAt.full HZU2.out HTU2.out, HVU2.out, l1, l2⟩
                      · have hz3b : ((Z3 : Int) == 0) = false := by simp; omega
                        clear k3 hz3
                        go_wp2_with fail
                        go_quiet (first | (go_at_call 65; with_reducible refine Calls.quiet_of (cB0 _ ?_); first | exact hbu | exact drewNv hbu _) | (go_at_call 65; with_reducible refine Calls.quiet_of (cB1 _ ?_); first | exact hbu | exact drewNv hbu _) | (go_at_call 65; with_reducible refine Calls.quiet_of (cB2 _ ?_); first | exact hbu | exact drewNv hbu _) | (go_at_call 65; with_reducible refine Calls.quiet_of (cB3 _ ?_); first | exact hbu | exact drewNv hbu _))
                        go_wp2
                        go_roundg g'
                        case measure => omega
                        case rel => exact ⟨drewNv hbu nq, u, SlAt.full HK.out HTU.out, HVU.out, by have := HK.out; omega, by have := HK.out; omega⟩
                    · have c32z : ¬ ((32 : Int) < (k : Int)) := by omega
                      have c32b : decide ((32 : Int) < (k : Int)) = false := decide_eq_false c32z
                      have HK := hide hk
                      have HAT2 := hide hat2
                      have l1 : u.size < g' := by omega
                      have l2 : u.size ≤ 1000000 := by omega
                      clear hk hat2
                      go_wp2_with fail
                      go_quiet (fail)
                      go_wp2
                      go_roundg g'
                      case measure => omega
                      case rel => exact ⟨drewNv hbu nq, u, ⟨_, k, rfl, HK.out, HAT2.out⟩, HVU.out, l1, l2⟩
                · have hz2b : ((Z2 : Int) == 0) = false := by simp; omega
                  clear k2 hz2
                  go_quiet (first | (go_at_call 65; with_reducible refine Calls.quiet_of (cW2 _ ?_); first | exact hb1 | exact drewNv hb1 _) | (go_at_call 65; with_reducible refine Calls.quiet_of (cW3 _ ?_); first | exact hb1 | exact drewNv hb1 _))
                  go_wp2
                  go_roundg g'
                  case measure => omega
                  case rel => exact ⟨drewNv hb1 nq, t2, SlAt.full HZ2.out HT2.out, HV2.out, hg2, ht2s⟩
              · have c16z : ¬ ((16 : Int) < (n2 : Int)) := by omega
                have c16b : decide ((16 : Int) < (n2 : Int)) = false := decide_eq_false c16z
                go_quiet (fail)
                go_wp2
                go_roundg g'
                case measure => omega
                case rel => exact ⟨drewNv hb1 nq, t2, SlAt.full HZ2.out HT2.out, HV2.out, hg2, ht2s⟩
            · have hz1b : ((Z1 : Int) == 0) = false := by simp; omega
              clear kA1 hz1 hZ1 hA1 z1
              go_wp2_with (go_at_call 65; refine (cW1 _ hbw).mono ?_; rintro e W1 ⟨rfl, q1, rfl⟩)
              go_roundg g'
              case measure => omega
              case rel => exact ⟨drewNv hbw q1, t1, SlAt.full HZ1.out HT1.out, HV1.out, hg1, ht1s⟩
          · have c8z : ¬ ((8 : Int) < (n1 : Int)) := by omega
            clear z1
            go_wp2
            go_roundg g'
            case measure => omega
            case rel => exact ⟨hbw, t1, SlAt.full HZ1.out HT1.out, HV1.out, hg1, ht1s⟩
      · as_aux_lemma =>
        have hge : 128 ≤ x0.toNat := by omega
        have hascz : ¬ ((x0.toNat : Int) < 128) := by omega
        obtain ⟨x1, hx1⟩ : ∃ x1, t.get! 1 = x1 := ⟨_, rfl⟩
        obtain ⟨x2, hx2⟩ : ∃ x2, t.get! 2 = x2 := ⟨_, rfl⟩
        obtain ⟨x3, hx3⟩ : ∃ x3, t.get! 3 = x3 := ⟨_, rfl⟩
        have l1 := x1.toNat_lt; have l2 := x2.toNat_lt; have l3 := x3.toNat_lt
        have hne : t.data.toList ≠ [] := fun h => by rw [hm, Lib.size_eq, h] at h0; simp at h0
        have hlead := Lib.validD_lead t.data.toList hne (by rw [Lib.getD_get!', hx0]; exact hge)
        rw [Lib.getD_get!', Lib.getD_get!', Lib.getD_get!', Lib.getD_get!', hx0, hx1, hx2, hx3, ← Lib.size_eq, hv, ← hm] at hlead
        have hTr := u8tabs_later TT.out hbw
        have hc0 := hTr.1 x0.toNat hx0lt
        have hXlt : Lib.firstT x0.toNat < 256 := by rcases Lib.firstT_cases x0.toNat with h | h | h | h | h | h | h | h | h <;> omega
        obtain ⟨X, hX⟩ : ∃ X, Lib.firstT x0.toNat = X := ⟨_, rfl⟩
        rw [hX] at hc0 hXlt hlead
        have h7 := Go.Proofs.and7 ⟨X, hXlt⟩
        simp only at h7
        have ha0 : wr.cell? ⟨1, X / 16 * 2, none⟩ = some (.int .u8 (Lib.accLo (X / 16))) := by rw [Nat.mul_comm]; exact (hTr.2 (X / 16) (by omega)).1
        have ha1 : wr.cell? ⟨1, X / 16 * 2 + 1, none⟩ = some (.int .u8 (Lib.accHi (X / 16))) := by rw [Nat.mul_comm]; exact (hTr.2 (X / 16) (by omega)).2
        obtain ⟨LO, hLO⟩ : ∃ LO, Lib.accLo (X / 16) = LO := ⟨_, rfl⟩
        obtain ⟨HI, hHI⟩ : ∃ HI, Lib.accHi (X / 16) = HI := ⟨_, rfl⟩
        rw [hLO] at ha0 hlead
        rw [hHI] at ha1 hlead
        obtain ⟨SZ, hSZ⟩ : ∃ SZ, X % 8 = SZ := ⟨_, rfl⟩
        rw [hSZ] at hlead
        have hbA : Below wr.heap.size wr (wr.alloc (.cells #[.int .u8 LO, .int .u8 HI] 86)) := (Below.refl _ _).alloc (Nat.le_refl _) _
        have D1 : 1 < m → (wr.alloc (.cells #[.int .u8 LO, .int .u8 HI] 86)).cell? ⟨b, off + 1, none⟩ = some (.int .u8 (x1.toNat : Int)) := fun h => by
          have := ((TA.later hbw).later hbA) 1 (by omega); rwa [hx1] at this
        have D2 : 2 < m → (wr.alloc (.cells #[.int .u8 LO, .int .u8 HI] 86)).cell? ⟨b, off + 2, none⟩ = some (.int .u8 (x2.toNat : Int)) := fun h => by
          have := ((TA.later hbw).later hbA) 2 (by omega); rwa [hx2] at this
        have D3 : 3 < m → (wr.alloc (.cells #[.int .u8 LO, .int .u8 HI] 86)).cell? ⟨b, off + 3, none⟩ = some (.int .u8 (x3.toNat : Int)) := fun h => by
          have := ((TA.later hbw).later hbA) 3 (by omega); rwa [hx3] at this
        have HD1 := hide D1
        have HD2 := hide D2
        have HD3 := hide D3
        have HTA := hide TA
        have HM := hide hm
        have HGS := hide hg
        have HTS := hide hts
        clear hTr hX hv hLO hHI hne hbA D1 D2 D3 TA hm hg hts hx0 hx1 hx2 hx3 hge hasc
        by_cases s2 : SZ = 2
        · subst s2
          have hSZz : (X : Int) % 8 = 2 := by omega
          simp only [Lib.checkN, Nat.reduceEqDiff, if_true, if_false] at hlead
          have HLD := hide hlead
          clear hlead
          go_upto_region 18 with fail
          go_cut [103] from 85 to 103 (fun c wx => c = .bool (decide (m < 2 ∨ x1.toNat < LO ∨ HI < x1.toNat)) ∧ Below w.heap.size w wx)
          case first =>
            by_cases q0 : m < 2
            · have q0z : (m : Int) < 2 := by omega
              go_quiet (fail)
              go_wp2
              go_meet
              exact ⟨congrArg Value.bool (decide_eq_true (p := m < 2 ∨ x1.toNat < LO ∨ HI < x1.toNat) (by omega)).symm, drewNv (hbw.alloc hbw.size _) _⟩
            · have q0z : ¬ ((m : Int) < 2) := by omega
              have hz1 : (1 : Int) < (m : Int) := by omega
              have d1 := HD1.out (by omega)
              by_cases q1 : x1.toNat < LO
              · have q1z : (x1.toNat : Int) < (LO : Int) := by omega
                go_quiet (fail)
                go_wp2
                go_meet
                exact ⟨congrArg Value.bool (decide_eq_true (p := m < 2 ∨ x1.toNat < LO ∨ HI < x1.toNat) (by omega)).symm, drewNv (hbw.alloc hbw.size _) _⟩
              · have q1z : ¬ ((x1.toNat : Int) < (LO : Int)) := by omega
                by_cases q2 : HI < x1.toNat
                · have q2z : (HI : Int) < (x1.toNat : Int) := by omega
                  go_quiet (fail)
                  go_wp2
                  go_meet
                  exact ⟨congrArg Value.bool (decide_eq_true (p := m < 2 ∨ x1.toNat < LO ∨ HI < x1.toNat) (by omega)).symm, drewNv (hbw.alloc hbw.size _) _⟩
                · have q2z : ¬ ((HI : Int) < (x1.toNat : Int)) := by omega
                  go_quiet (fail)
                  go_wp2
                  go_meet
                  exact ⟨congrArg Value.bool (decide_eq_false (p := m < 2 ∨ x1.toNat < LO ∨ HI < x1.toNat) (by omega)).symm, drewNv (hbw.alloc hbw.size _) _⟩
          case rest =>
            obtain ⟨rfl, hbc⟩ := hcut
            have hlead := HLD.out
            by_cases hb : m < 2 ∨ x1.toNat < LO ∨ HI < x1.toNat
            · have hbd : decide (m < 2 ∨ x1.toNat < LO ∨ HI < x1.toNat) = true := decide_eq_true hb
              rw [if_pos hb] at hlead
              go_wp2
              all_goals (go_ret; exact ⟨by first | rfl | rw [hlead], hbc⟩)
            · have hbd : decide (m < 2 ∨ x1.toNat < LO ∨ HI < x1.toNat) = false := decide_eq_false hb
              rw [if_neg hb] at hlead
              obtain ⟨n2, rfl⟩ : ∃ n2, m = n2 + 2 := ⟨m - 2, by omega⟩
              have HL2 := hide hlead
              have HB := hide hb
              have ze : (t.extract 2 t.size).size = n2 := by rw [Lib.ext_size, ← HM.out]; omega
              have HZE := hide ze
              have lt2 : (t.extract 2 t.size).size < g' := by have := HGS.out; have := HM.out; omega
              have le2 : (t.extract 2 t.size).size ≤ 1000000 := by have := HTS.out; have := HM.out; omega
              clear hlead hb ze
              by_cases hz : n2 = 0
              · subst hz
                go_wp2
                go_roundg g'
                case measure => omega
                case rel => exact ⟨hbc, _, SlAt.emp _ HZE.out, by rw [Lib.ext_list, HL2.out], lt2, le2⟩
              · go_wp2
                go_roundg g'
                case measure => omega
                case rel => exact ⟨hbc, _, SlAt.full HZE.out.symm (HTA.out.skip 2), by rw [Lib.ext_list, HL2.out], lt2, le2⟩
        by_cases s3 : SZ = 3
        · subst s3
          have hSZz : (X : Int) % 8 = 3 := by omega
          simp only [Lib.checkN, Nat.reduceEqDiff, if_true, if_false] at hlead
          have HLD := hide hlead
          clear hlead
          go_upto_region 22 with fail
          go_cut [138] from 108 to 138 (fun c wx => c = .bool (decide (m < 3 ∨ x1.toNat < LO ∨ HI < x1.toNat ∨ x2.toNat < 128 ∨ 191 < x2.toNat)) ∧ Below w.heap.size w wx)
          case first =>
            by_cases q0 : m < 3
            · have q0z : (m : Int) < 3 := by omega
              go_quiet (fail)
              go_wp2
              go_meet
              exact ⟨congrArg Value.bool (decide_eq_true (p := m < 3 ∨ x1.toNat < LO ∨ HI < x1.toNat ∨ x2.toNat < 128 ∨ 191 < x2.toNat) (by omega)).symm, drewNv (hbw.alloc hbw.size _) _⟩
            · have q0z : ¬ ((m : Int) < 3) := by omega
              have hz1 : (1 : Int) < (m : Int) := by omega
              have d1 := HD1.out (by omega)
              have hz2 : (2 : Int) < (m : Int) := by omega
              have d2 := HD2.out (by omega)
              by_cases q1 : x1.toNat < LO
              · have q1z : (x1.toNat : Int) < (LO : Int) := by omega
                go_quiet (fail)
                go_wp2
                go_meet
                exact ⟨congrArg Value.bool (decide_eq_true (p := m < 3 ∨ x1.toNat < LO ∨ HI < x1.toNat ∨ x2.toNat < 128 ∨ 191 < x2.toNat) (by omega)).symm, drewNv (hbw.alloc hbw.size _) _⟩
              · have q1z : ¬ ((x1.toNat : Int) < (LO : Int)) := by omega
                by_cases q2 : HI < x1.toNat
                · have q2z : (HI : Int) < (x1.toNat : Int) := by omega
                  go_quiet (fail)
                  go_wp2
                  go_meet
                  exact ⟨congrArg Value.bool (decide_eq_true (p := m < 3 ∨ x1.toNat < LO ∨ HI < x1.toNat ∨ x2.toNat < 128 ∨ 191 < x2.toNat) (by omega)).symm, drewNv (hbw.alloc hbw.size _) _⟩
                · have q2z : ¬ ((HI : Int) < (x1.toNat : Int)) := by omega
                  by_cases q3 : x2.toNat < 128
                  · have q3z : (x2.toNat : Int) < 128 := by omega
                    go_quiet (fail)
                    go_wp2
                    go_meet
                    exact ⟨congrArg Value.bool (decide_eq_true (p := m < 3 ∨ x1.toNat < LO ∨ HI < x1.toNat ∨ x2.toNat < 128 ∨ 191 < x2.toNat) (by omega)).symm, drewNv (hbw.alloc hbw.size _) _⟩
                  · have q3z : ¬ ((x2.toNat : Int) < 128) := by omega
                    by_cases q4 : 191 < x2.toNat
                    · have q4z : (191 : Int) < (x2.toNat : Int) := by omega
                      go_quiet (fail)
                      go_wp2
                      go_meet
                      exact ⟨congrArg Value.bool (decide_eq_true (p := m < 3 ∨ x1.toNat < LO ∨ HI < x1.toNat ∨ x2.toNat < 128 ∨ 191 < x2.toNat) (by omega)).symm, drewNv (hbw.alloc hbw.size _) _⟩
                    · have q4z : ¬ ((191 : Int) < (x2.toNat : Int)) := by omega
                      go_quiet (fail)
                      go_wp2
                      go_meet
                      exact ⟨congrArg Value.bool (decide_eq_false (p := m < 3 ∨ x1.toNat < LO ∨ HI < x1.toNat ∨ x2.toNat < 128 ∨ 191 < x2.toNat) (by omega)).symm, drewNv (hbw.alloc hbw.size _) _⟩
          case rest =>
            obtain ⟨rfl, hbc⟩ := hcut
            have hlead := HLD.out
            by_cases hb : m < 3 ∨ x1.toNat < LO ∨ HI < x1.toNat ∨ x2.toNat < 128 ∨ 191 < x2.toNat
            · have hbd : decide (m < 3 ∨ x1.toNat < LO ∨ HI < x1.toNat ∨ x2.toNat < 128 ∨ 191 < x2.toNat) = true := decide_eq_true hb
              rw [if_pos hb] at hlead
              go_wp2
              all_goals (go_ret; exact ⟨by first | rfl | rw [hlead], hbc⟩)
            · have hbd : decide (m < 3 ∨ x1.toNat < LO ∨ HI < x1.toNat ∨ x2.toNat < 128 ∨ 191 < x2.toNat) = false := decide_eq_false hb
              rw [if_neg hb] at hlead
              obtain ⟨n2, rfl⟩ : ∃ n2, m = n2 + 3 := ⟨m - 3, by omega⟩
              have HL2 := hide hlead
              have HB := hide hb
              have ze : (t.extract 3 t.size).size = n2 := by rw [Lib.ext_size, ← HM.out]; omega
              have HZE := hide ze
              have lt2 : (t.extract 3 t.size).size < g' := by have := HGS.out; have := HM.out; omega
              have le2 : (t.extract 3 t.size).size ≤ 1000000 := by have := HTS.out; have := HM.out; omega
              clear hlead hb ze
              by_cases hz : n2 = 0
              · subst hz
                go_wp2
                go_roundg g'
                case measure => omega
                case rel => exact ⟨hbc, _, SlAt.emp _ HZE.out, by rw [Lib.ext_list, HL2.out], lt2, le2⟩
              · go_wp2
                go_roundg g'
                case measure => omega
                case rel => exact ⟨hbc, _, SlAt.full HZE.out.symm (HTA.out.skip 3), by rw [Lib.ext_list, HL2.out], lt2, le2⟩
        by_cases s4 : SZ = 4
        · subst s4
          have hSZz : (X : Int) % 8 = 4 := by omega
          simp only [Lib.checkN, Nat.reduceEqDiff, if_true, if_false] at hlead
          have HLD := hide hlead
          clear hlead
          go_upto_region 26 with fail
          go_cut [185] from 143 to 185 (fun c wx => c = .bool (decide (m < 4 ∨ x1.toNat < LO ∨ HI < x1.toNat ∨ x2.toNat < 128 ∨ 191 < x2.toNat ∨ x3.toNat < 128 ∨ 191 < x3.toNat)) ∧ Below w.heap.size w wx)
          case first =>
            by_cases q0 : m < 4
            · have q0z : (m : Int) < 4 := by omega
              go_quiet (fail)
              go_wp2
              go_meet
              exact ⟨congrArg Value.bool (decide_eq_true (p := m < 4 ∨ x1.toNat < LO ∨ HI < x1.toNat ∨ x2.toNat < 128 ∨ 191 < x2.toNat ∨ x3.toNat < 128 ∨ 191 < x3.toNat) (by omega)).symm, drewNv (hbw.alloc hbw.size _) _⟩
            · have q0z : ¬ ((m : Int) < 4) := by omega
              have hz1 : (1 : Int) < (m : Int) := by omega
              have d1 := HD1.out (by omega)
              have hz2 : (2 : Int) < (m : Int) := by omega
              have d2 := HD2.out (by omega)
              have hz3 : (3 : Int) < (m : Int) := by omega
              have d3 := HD3.out (by omega)
              by_cases q1 : x1.toNat < LO
              · have q1z : (x1.toNat : Int) < (LO : Int) := by omega
                go_quiet (fail)
                go_wp2
                go_meet
                exact ⟨congrArg Value.bool (decide_eq_true (p := m < 4 ∨ x1.toNat < LO ∨ HI < x1.toNat ∨ x2.toNat < 128 ∨ 191 < x2.toNat ∨ x3.toNat < 128 ∨ 191 < x3.toNat) (by omega)).symm, drewNv (hbw.alloc hbw.size _) _⟩
              · have q1z : ¬ ((x1.toNat : Int) < (LO : Int)) := by omega
                by_cases q2 : HI < x1.toNat
                · have q2z : (HI : Int) < (x1.toNat : Int) := by omega
                  go_quiet (fail)
                  go_wp2
                  go_meet
                  exact ⟨congrArg Value.bool (decide_eq_true (p := m < 4 ∨ x1.toNat < LO ∨ HI < x1.toNat ∨ x2.toNat < 128 ∨ 191 < x2.toNat ∨ x3.toNat < 128 ∨ 191 < x3.toNat) (by omega)).symm, drewNv (hbw.alloc hbw.size _) _⟩
                · have q2z : ¬ ((HI : Int) < (x1.toNat : Int)) := by omega
                  by_cases q3 : x2.toNat < 128
                  · have q3z : (x2.toNat : Int) < 128 := by omega
                    go_quiet (fail)
                    go_wp2
                    go_meet
                    exact ⟨congrArg Value.bool (decide_eq_true (p := m < 4 ∨ x1.toNat < LO ∨ HI < x1.toNat ∨ x2.toNat < 128 ∨ 191 < x2.toNat ∨ x3.toNat < 128 ∨ 191 < x3.toNat) (by omega)).symm, drewNv (hbw.alloc hbw.size _) _⟩
                  · have q3z : ¬ ((x2.toNat : Int) < 128) := by omega
                    by_cases q4 : 191 < x2.toNat
                    · have q4z : (191 : Int) < (x2.toNat : Int) := by omega
                      go_quiet (fail)
                      go_wp2
                      go_meet
                      exact ⟨congrArg Value.bool (decide_eq_true (p := m < 4 ∨ x1.toNat < LO ∨ HI < x1.toNat ∨ x2.toNat < 128 ∨ 191 < x2.toNat ∨ x3.toNat < 128 ∨ 191 < x3.toNat) (by omega)).symm, drewNv (hbw.alloc hbw.size _) _⟩
                    · have q4z : ¬ ((191 : Int) < (x2.toNat : Int)) := by omega
                      by_cases q5 : x3.toNat < 128
                      · have q5z : (x3.toNat : Int) < 128 := by omega
                        go_quiet (fail)
                        go_wp2
                        go_meet
                        exact ⟨congrArg Value.bool (decide_eq_true (p := m < 4 ∨ x1.toNat < LO ∨ HI < x1.toNat ∨ x2.toNat < 128 ∨ 191 < x2.toNat ∨ x3.toNat < 128 ∨ 191 < x3.toNat) (by omega)).symm, drewNv (hbw.alloc hbw.size _) _⟩
                      · have q5z : ¬ ((x3.toNat : Int) < 128) := by omega
                        by_cases q6 : 191 < x3.toNat
                        · have q6z : (191 : Int) < (x3.toNat : Int) := by omega
                          go_quiet (fail)
                          go_wp2
                          go_meet
                          exact ⟨congrArg Value.bool (decide_eq_true (p := m < 4 ∨ x1.toNat < LO ∨ HI < x1.toNat ∨ x2.toNat < 128 ∨ 191 < x2.toNat ∨ x3.toNat < 128 ∨ 191 < x3.toNat) (by omega)).symm, drewNv (hbw.alloc hbw.size _) _⟩
                        · have q6z : ¬ ((191 : Int) < (x3.toNat : Int)) := by omega
                          go_quiet (fail)
                          go_wp2
                          go_meet
                          exact ⟨congrArg Value.bool (decide_eq_false (p := m < 4 ∨ x1.toNat < LO ∨ HI < x1.toNat ∨ x2.toNat < 128 ∨ 191 < x2.toNat ∨ x3.toNat < 128 ∨ 191 < x3.toNat) (by omega)).symm, drewNv (hbw.alloc hbw.size _) _⟩
          case rest =>
            obtain ⟨rfl, hbc⟩ := hcut
            have hlead := HLD.out
            by_cases hb : m < 4 ∨ x1.toNat < LO ∨ HI < x1.toNat ∨ x2.toNat < 128 ∨ 191 < x2.toNat ∨ x3.toNat < 128 ∨ 191 < x3.toNat
            · have hbd : decide (m < 4 ∨ x1.toNat < LO ∨ HI < x1.toNat ∨ x2.toNat < 128 ∨ 191 < x2.toNat ∨ x3.toNat < 128 ∨ 191 < x3.toNat) = true := decide_eq_true hb
              rw [if_pos hb] at hlead
              go_wp2
              all_goals (go_ret; exact ⟨by first | rfl | rw [hlead], hbc⟩)
            · have hbd : decide (m < 4 ∨ x1.toNat < LO ∨ HI < x1.toNat ∨ x2.toNat < 128 ∨ 191 < x2.toNat ∨ x3.toNat < 128 ∨ 191 < x3.toNat) = false := decide_eq_false hb
              rw [if_neg hb] at hlead
              obtain ⟨n2, rfl⟩ : ∃ n2, m = n2 + 4 := ⟨m - 4, by omega⟩
              have HL2 := hide hlead
              have HB := hide hb
              have ze : (t.extract 4 t.size).size = n2 := by rw [Lib.ext_size, ← HM.out]; omega
              have HZE := hide ze
              have lt2 : (t.extract 4 t.size).size < g' := by have := HGS.out; have := HM.out; omega
              have le2 : (t.extract 4 t.size).size ≤ 1000000 := by have := HTS.out; have := HM.out; omega
              clear hlead hb ze
              by_cases hz : n2 = 0
              · subst hz
                go_wp2
                go_roundg g'
                case measure => omega
                case rel => exact ⟨hbc, _, SlAt.emp _ HZE.out, by rw [Lib.ext_list, HL2.out], lt2, le2⟩
              · go_wp2
                go_roundg g'
                case measure => omega
                case rel => exact ⟨hbc, _, SlAt.full HZE.out.symm (HTA.out.skip 4), by rw [Lib.ext_list, HL2.out], lt2, le2⟩
        · have e2 : ¬ ((X : Int) % 8 = 2) := by omega
          have e3 : ¬ ((X : Int) % 8 = 3) := by omega
          have e4 : ¬ ((X : Int) % 8 = 4) := by omega
          have e2b : (((X : Int) % 8) == 2) = false := by simp; omega
          have e3b : (((X : Int) % 8) == 3) = false := by simp; omega
          have e4b : (((X : Int) % 8) == 4) = false := by simp; omega
          simp only [Lib.checkN, s2, s3, s4, if_false] at hlead
          go_wp2
          all_goals (go_ret; exact ⟨by first | rfl | rw [hlead], hbw.alloc hbw.size _⟩)
    · have h0z : ¬ ((0 : Int) < (m : Int)) := by omega
      have ht0 : t.data.toList = [] := List.eq_nil_of_length_eq_zero (by rw [← Lib.size_eq]; omega)
      rw [ht0, Lib.validD_nil] at hv
      subst hv
      go_wp2
      go_ret
      exact ⟨rfl, hbw⟩
end Go.Proofs.YtjddhakaebkkeaaDoor
