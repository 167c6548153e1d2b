/-
  A key's bits made 1 in a filter: what the program's call does to a list that the caller owns.
-/
import Derived.Test.YtanpnibabnedbaaBmBit
import Derived.Test.YtanpnibabnedbaaKOver
namespace Go.Proofs.Ytanpnibabnedbaa
open Go.RowKit

theorem or_u8 (c : UInt8) (r : Nat) (hr : r < 8) : bits .or .u8 (c.toNat : Int) ((2 ^ r : Nat) : Int) = ((c ||| UInt8.ofNat (2 ^ r)).toNat : Int) := by
  have hb := Bm.bit_lt r hr
  rw [u8_or_nat _ _ (UInt8.toNat_lt c) hb, UInt8.toNat_or, UInt8.toNat_ofNat', Nat.mod_eq_of_lt hb]

theorem put_cons (c0 : UInt8) (b : List UInt8) (p : Nat) (h : p / 8 < b.length) : (c0 :: b).set (1 + p / 8) (b[p / 8] ||| UInt8.ofNat (2 ^ (p % 8))) = c0 :: Bm.put b p := by
  unfold Bm.put
  rw [Nat.add_comm, List.set_cons_succ]
  congr 2
  simp [List.getD, h]

set_option maxHeartbeats 1600000 in
theorem set_any (w : World) (base g n cap h : Nat) (c0 : UInt8) (b : List UInt8) (hn : n = b.length + 1) (hb0 : 0 < b.length) (hown : w.ownsRow base 5 1 (.slice (some ⟨g, 0, none⟩) n cap) n (bc (c0 :: b))) (hnc : n ≤ cap) (hcap : n ≤ 140737488355328) (hh : h < 18446744073709551616) :
    Calls Try.prog 26 #[.slice (some ⟨g, 0, none⟩) n cap, .int .u64 (h : Int)] w fun e w' => e = .returned (.tuple #[]) ∧ w'.ownsRow base 5 1 (.slice (some ⟨g, 0, none⟩) n cap) n (bc (c0 :: Bm.putK b h c0.toNat)) ∧ w.grownBy w' (some g) := by
  obtain ⟨k, hk⟩ : ∃ k : Nat, k = c0.toNat := ⟨_, rfl⟩
  have hk256 : k < 256 := by rw [hk]; exact UInt8.toNat_lt _
  have d00 : w.cell? ⟨g, 0, none⟩ = some (.int .u8 (k : Int)) := by rw [hown.cellAt 0 (by omega), bc_get _ 0 (by simp), hk]; rfl
  rw [← hk]
  have BT : Hid (∀ wx i, i < k → Calls Try.prog 27 #[.slice (some ⟨g, 1, none⟩) (n - 1) (cap - 1), .int .u64 (h : Int), .int .u8 (i : Int)] wx fun e w' => e = .returned (.tuple #[.int .u64 ((Bm.place h i (8 * b.length) / 8 : Nat) : Int), .int .u8 ((2 ^ (Bm.place h i (8 * b.length) % 8) : Nat) : Int)]) ∧ w' = wx) := fun wx i hi => by
    have := bit_any wx (some ⟨g, 1, none⟩) (n - 1) (cap - 1) h i (by omega) (by omega) hh (by omega)
    rwa [show n - 1 = b.length from by omega] at this ⊢
  have HN : Hid (n = b.length + 1) := hn
  have i1 : (1 : Int) ≤ (n : Int) := by omega
  have i2 : (n : Int) ≤ (cap : Int) := by omega
  have i3 : ¬ cap = 1 := by omega
  have i4 : (0 : Int) < (n : Int) := by omega
  have hm : n - 1 = b.length := by omega
  obtain ⟨m, hm'⟩ : ∃ m, m = n - 1 := ⟨_, rfl⟩
  have hmb : Hid (m = b.length) := by show _ = _; omega
  rw [← hm'] at BT
  have e1 : n - 1 = m := hm'.symm
  clear hk hn hm hm'
  go_enter Try.func26, Try.ntmps26
  go_wp2_with (fail)
  go_loopw [13] (fun i wr => ∃ j : Nat, j ≤ k ∧ i = .int .u8 j ∧ wr.ownsRow base 5 1 (.slice (some ⟨g, 0, none⟩) n cap) n (bc (c0 :: Bm.putK b h j)) ∧ w.grownBy wr (some g)) (fun i _ => k - (intOf i).toNat)
  case atStart => exact ⟨0, Nat.zero_le _, rfl, hown, World.grownBy.refl _ _⟩
  case round =>
    obtain ⟨j, hj, rfl, ho, hg⟩ := hrel
    clear hown d00
    by_cases hlt : j < k
    · obtain ⟨P, hP⟩ : ∃ P, P = Bm.place h j (8 * b.length) := ⟨_, rfl⟩
      have hPl : P < 8 * b.length := by rw [hP]; exact Bm.place_lt _ _ _ (by omega)
      have BJ : Hid (∀ wx, Calls Try.prog 27 #[.slice (some ⟨g, 1, none⟩) m (cap - 1), .int .u64 (h : Int), .int .u8 (j : Int)] wx fun e w' => e = .returned (.tuple #[.int .u64 ((P / 8 : Nat) : Int), .int .u8 ((2 ^ (P % 8) : Nat) : Int)]) ∧ w' = wx) := fun wx => by rw [hP]; exact BT.out wx j hlt
      have HK : Hid (Bm.putK b h (j + 1) = Bm.put (Bm.putK b h j) P) := by show _ = _; rw [Bm.putK, hP]
      obtain ⟨b', hb'⟩ : ∃ b', b' = Bm.putK b h j := ⟨_, rfl⟩
      have lb' : b'.length = b.length := by rw [hb', Bm.putK_length]
      rw [← hb'] at ho HK
      obtain ⟨q, hq⟩ : ∃ q, q = P / 8 := ⟨_, rfl⟩
      obtain ⟨r, hr⟩ : ∃ r, r = P % 8 := ⟨_, rfl⟩
      have hqb : q < b'.length := by omega
      have hr8 : r < 8 := by omega
      obtain ⟨c, hc⟩ : ∃ c : UInt8, c = b'[q] := ⟨_, rfl⟩
      have d0 : wr.cell? ⟨g, 1 + q, none⟩ = some (.int .u8 (c.toNat : Int)) := by
        rw [ho.cellAt _ (by have := HN.out; omega), bc_get _ _ (by simp; omega), hc]
        congr 3
        simp [Nat.add_comm 1 q]
      have f0 := ho.frozenAt (1 + q)
      obtain ⟨z, hz⟩ : ∃ z, z = 2 ^ r := ⟨_, rfl⟩
      have OR : bits .or .u8 (c.toNat : Int) (z : Int) = ((c ||| UInt8.ofNat (2 ^ r)).toNat : Int) := by rw [hz]; exact or_u8 c r hr8
      obtain ⟨x, hx⟩ : ∃ x : UInt8, x = c ||| UInt8.ofNat (2 ^ r) := ⟨_, rfl⟩
      rw [← hx] at OR
      have HS : Hid ((wr.setCell ⟨g, 1 + q, none⟩ (.int .u8 (x.toNat : Int))).ownsRow base 5 1 (.slice (some ⟨g, 0, none⟩) n cap) n (bc (c0 :: Bm.putK b h (j + 1))) ∧ w.grownBy (wr.setCell ⟨g, 1 + q, none⟩ (.int .u8 (x.toNat : Int))) (some g)) := by
        obtain ⟨s1, s2⟩ := ho.stored (1 + q) (.int .u8 (x.toNat : Int))
        have e := put_cons c0 b' P (by omega)
        subst hq
        subst hr
        rw [bc_set, hx, hc, e, ← HK.out] at s1
        rw [hx, hc] at s2 ⊢
        exact ⟨s1, grownBy_trans hg s2 (.inl rfl)⟩
      have i6 : (q : Int) < (m : Int) := by have := hmb.out; omega
      have i7 : (j : Int) < (k : Int) := by omega
      have i8 : IntKind.u8.wrap ((j : Int) + 1) = ((j + 1 : Nat) : Int) := by rw [IntKind.wrap_u8]; omega
      rw [← hq, ← hr, ← hz] at BJ
      clear hP hPl hb' lb' hq hr hqb hr8 hc hz hx HK BT ho hg
      go_wp2_with (go_at_call 27; refine (BJ.out _).mono ?_; rintro e w1 ⟨rfl, rfl⟩)
      exact ⟨⟨j + 1, by omega, by go_num, HS.out.1, HS.out.2⟩, by simp [intOf]; omega⟩
    · have ej : j = k := by omega
      subst ej
      have i7 : ¬ (j : Int) < (j : Int) := by omega
      go_wp2_with (fail)
      go_end0
      exact ⟨rfl, ho, hg⟩
end Go.Proofs.Ytanpnibabnedbaa
