/-
  The document's own questions of entries and of lists: may an entry be, is a list a block; how many first bytes two keys share.
-/
import Derived.Test.YtanhmebjfockjaaBAsk0
import Derived.Test.YtanhmebjfockjaaBChk
namespace Go.Proofs.Ytanhmebjfockjaa
open Go.RowKit

theorem mayBe_is (k v : List UInt8) (d : Bool) : Wl.mayBe ⟨k, v, d⟩ = true ↔ 1 ≤ k.length ∧ k.length ≤ 512 ∧ v.length ≤ 4096 ∧ (d = true → v = []) := by
  unfold Wl.mayBe
  simp only [Bool.and_eq_true, decide_eq_true_eq, Bool.or_eq_true, Bool.not_eq_true']
  constructor
  · rintro ⟨⟨⟨h1, h2⟩, h3⟩, h4⟩
    refine ⟨List.length_pos_iff.2 h1, h2, h3, fun hd => ?_⟩
    rcases h4 with h | h
    · rw [hd] at h; cases h
    · exact h
  · rintro ⟨h1, h2, h3, h4⟩
    refine ⟨⟨⟨List.length_pos_iff.1 h1, h2⟩, h3⟩, ?_⟩
    cases d
    · exact .inl rfl
    · exact .inr (h4 rfl)

set_option maxHeartbeats 1600000 in
theorem fine_any (w : World) (k v : List UInt8) (d : Bool) : Calls Try.prog 49 #[.agg #[str k, str v, .bool d]] w fun e w' => e = .returned (.bool (Wl.mayBe ⟨k, v, d⟩)) ∧ Below w.heap.size w w' := by
  have B0 : ∀ o, Below w.heap.size w (w.alloc o) := fun o => (Below.refl _ _).alloc (Nat.le_refl _) o
  have hm := mayBe_is k v d
  obtain ⟨R, hR⟩ : ∃ R, R = Wl.mayBe ⟨k, v, d⟩ := ⟨_, rfl⟩
  rw [← hR] at hm ⊢
  clear hR
  by_cases h1 : k.length < 1
  · have hF : Hid (R = false) := by cases R; rfl; have := hm.1 rfl; omega
    have i1 : ¬ (1 : Int) ≤ (k.length : Int) := by omega
    clear hm
    go_enter Try.func49, Try.ntmps49
    go_wp2_with (fail)
    go_ret
    rw [hF.out]
    exact ⟨rfl, B0 _⟩
  · have i1 : (1 : Int) ≤ (k.length : Int) := by omega
    by_cases h2 : 512 < k.length
    · have hF : Hid (R = false) := by cases R; rfl; have := hm.1 rfl; omega
      have i2 : ¬ (k.length : Int) ≤ 512 := by omega
      clear hm
      go_enter Try.func49, Try.ntmps49
      go_wp2_with (fail)
      go_ret
      rw [hF.out]
      exact ⟨rfl, B0 _⟩
    · have i2 : (k.length : Int) ≤ 512 := by omega
      by_cases h3 : 4096 < v.length
      · have hF : Hid (R = false) := by cases R; rfl; have := hm.1 rfl; omega
        have i3 : ¬ (v.length : Int) ≤ 4096 := by omega
        clear hm
        go_enter Try.func49, Try.ntmps49
        go_wp2_with (fail)
        go_ret
        rw [hF.out]
        exact ⟨rfl, B0 _⟩
      · have i3 : (v.length : Int) ≤ 4096 := by omega
        cases d
        · have hF : Hid (R = true) := hm.2 ⟨by omega, by omega, by omega, fun h => by cases h⟩
          clear hm
          go_enter Try.func49, Try.ntmps49
          go_wp2_with (fail)
          go_ret
          rw [hF.out]
          exact ⟨rfl, B0 _⟩
        · by_cases h4 : v = []
          · have hF : Hid (R = true) := hm.2 ⟨by omega, by omega, by omega, fun _ => h4⟩
            subst h4
            clear hm
            go_enter Try.func49, Try.ntmps49
            go_wp2_with (fail)
            go_ret
            rw [hF.out]
            exact ⟨rfl, B0 _⟩
          · have hF : Hid (R = false) := by cases R; rfl; exact absurd ((hm.1 rfl).2.2.2 rfl) h4
            have hb : (v == ([] : List UInt8)) = false := by simp [h4]
            have hv : ¬ v = [] := h4
            clear hm
            go_enter Try.func49, Try.ntmps49
            go_wp2_with (fail)
            go_ret
            rw [hF.out]
            exact ⟨by first | rfl | simp, B0 _⟩

set_option maxHeartbeats 1600000 in
theorem rmcheck_any (w : World) (e : Mm.Ent) : Calls Try.prog 13 #[entV e] w fun r w' => r = .returned (.int .i64 (Mm.checkE e)) ∧ Below w.heap.size w w' := by
  obtain ⟨k, v, s, d⟩ := e
  have FI := hide fun (wx : World) => fine_any wx k v d
  have B0 : ∀ o, Below w.heap.size w (w.alloc o) := fun o => (Below.refl _ _).alloc (Nat.le_refl _) o
  have HE : Mm.checkE ⟨k, v, s, d⟩ = if (decide (1 ≤ s) && decide (s ≤ 1073741824) && Wl.mayBe ⟨k, v, d⟩) = true then 0 else 2 := rfl
  obtain ⟨E, hE⟩ : ∃ E, E = Mm.checkE ⟨k, v, s, d⟩ := ⟨_, rfl⟩
  rw [← hE] at HE ⊢
  obtain ⟨M, hM⟩ : ∃ M, M = Wl.mayBe ⟨k, v, d⟩ := ⟨_, rfl⟩
  rw [← hM] at HE FI
  clear hE hM
  show Calls Try.prog 13 #[.agg #[str k, str v, .int .i64 s, .bool d]] w _
  by_cases h1 : s < 1
  · have hF : Hid (E = 2) := by show _ = _; rw [HE, decide_eq_false (by omega : ¬ 1 ≤ s)]; rfl
    clear HE
    go_enter Try.func13, Try.ntmps13
    go_wp2_with (fail)
    go_ret
    rw [hF.out]
    exact ⟨rfl, B0 _⟩
  · by_cases h2 : s > 1073741824
    · have hF : Hid (E = 2) := by show _ = _; rw [HE, decide_eq_false (by omega : ¬ s ≤ 1073741824), Bool.and_false]; rfl
      clear HE
      go_enter Try.func13, Try.ntmps13
      go_wp2_with (fail)
      go_ret
      rw [hF.out]
      exact ⟨rfl, B0 _⟩
    · have hF : Hid (E = if M = true then 0 else 2) := by show _ = _; rw [HE, decide_eq_true (by omega : 1 ≤ s), decide_eq_true (by omega : s ≤ 1073741824)]; rfl
      clear HE
      cases M
      all_goals
        go_enter Try.func13, Try.ntmps13
        go_wp2_with (go_at_call 49; refine (FI.out _).mono ?_; rintro e w1 ⟨rfl, b1⟩; have B1 := (B0 _).trans (b1.mono (by simp)))
        go_ret
        rw [hF.out]
        exact ⟨rfl, B1⟩

set_option maxRecDepth 100000 in
set_option maxHeartbeats 4000000 in
theorem rshared_any (w : World) (a k : List UInt8) (ha : a.length ≤ 1000000) (_hk : k.length ≤ 1000000) : Calls Try.prog 74 #[str a, str k] w fun e w' => e = .returned (.int .i64 ((Bk.cp a k : Nat) : Int)) ∧ Below w.heap.size w w' := by
  have LE := Bk.cp_le a k
  go_enter Try.func74, Try.ntmps74
  go_wp2_with (fail)
  go_loopw [5] (fun i wr => Below w.heap.size w wr ∧ ∃ n : Nat, i = .int .i64 n ∧ n ≤ Bk.cp a k) (fun i _ => Bk.cp a k - (intOf i).toNat)
  case atStart => exact ⟨Below.refl _ _, 0, rfl, Nat.zero_le _⟩
  case round =>
    obtain ⟨bx, n, rfl, hn⟩ := hrel
    have ST : Hid _ := Bk.cp_step a k n hn
    by_cases h1 : n < a.length
    · have m2 : (n : Int) < (a.length : Int) := by omega
      have m4 : (0 : Int) ≤ (n : Int) := by omega
      by_cases h2 : n < k.length
      · have m3 : (n : Int) < (k.length : Int) := by omega
        have q1 : n < (⟨a.toArray⟩ : ByteArray).size := by show n < a.toArray.size; simpa using h1
        have q2 : n < (⟨k.toArray⟩ : ByteArray).size := by show n < k.toArray.size; simpa using h2
        have q3 : (⟨a.toArray⟩ : ByteArray)[n] = a[n] := by show a.toArray[n] = a[n]; simp
        have q4 : (⟨k.toArray⟩ : ByteArray)[n] = k[n] := by show k.toArray[n] = k[n]; simp
        by_cases h3 : a[n] = k[n]
        · have HN : Hid (n < Bk.cp a k) := ST.out.2 ⟨h1, h2, h3⟩
          have e3 : (((⟨a.toArray⟩ : ByteArray)[n].toNat : Int) == ((⟨k.toArray⟩ : ByteArray)[n].toNat : Int)) = true := by rw [q3, q4, h3]; simp
          clear ST q3 q4 h3
          go_wp2_with (fail)
          go_quiet (fail)
          go_wp2_with (fail)
          exact ⟨⟨below_drewN bx _, n + 1, by go_num, HN.out⟩, by simp [intOf]; have := HN.out; omega⟩
        · have HN : Hid (n = Bk.cp a k) := by
            show _ = _
            have := mt ST.out.1 (fun h => h3 h.2.2)
            omega
          have e3 : (((⟨a.toArray⟩ : ByteArray)[n].toNat : Int) == ((⟨k.toArray⟩ : ByteArray)[n].toNat : Int)) = false := by
            rw [q3, q4]
            have h4 : ¬ a[n].toNat = k[n].toNat := fun e => h3 (UInt8.toNat_inj.1 e)
            simp; omega
          clear ST q3 q4 h3
          go_wp2_with (fail)
          go_quiet (fail)
          go_wp2_with (fail)
          go_ret
          exact ⟨by rw [← HN.out]; rfl, below_drewN bx _⟩
      · have HN : Hid (n = Bk.cp a k) := by
          show _ = _
          have := mt ST.out.1 (fun h => h2 h.2.1)
          omega
        have m3 : ¬ (n : Int) < (k.length : Int) := by omega
        clear ST
        go_wp2_with (fail)
        go_quiet (fail)
        go_wp2_with (fail)
        go_ret
        exact ⟨by rw [← HN.out]; rfl, below_drewN bx _⟩
    · have HN : Hid (n = Bk.cp a k) := by
        show _ = _
        have := mt ST.out.1 (fun h => h1 h.1)
        omega
      have m2 : ¬ (n : Int) < (a.length : Int) := by omega
      clear ST
      go_wp2_with (fail)
      go_quiet (fail)
      go_wp2_with (fail)
      go_ret
      exact ⟨by rw [← HN.out]; rfl, below_drewN bx _⟩

set_option maxRecDepth 100000 in
set_option maxHeartbeats 4000000 in
theorem rbcheck_any (w : World) (a : Option Addr) (c n : Nat) (l : List Mm.Ent) (h : EntsAt w (.slice a n c) l) (hn : n = l.length) (hl : n ≤ 1000000) (S : Int) (HS : Hid (S = Bk.checkE l)) :
    Calls Try.prog 34 #[.slice a n c] w fun e w' => e = .returned (.int .i64 S) ∧ Below w.heap.size w w' := by
  have H := hide h
  have HN : Hid (n = l.length) := hn
  have CK : Hid (∀ wx e, Calls Try.prog 13 #[entV e] wx fun r w' => r = .returned (.int .i64 (Mm.checkE e)) ∧ Below wx.heap.size wx w') := fun wx e => rmcheck_any wx e
  have IO : Hid (∀ wx, Below w.heap.size w wx → Calls Try.prog 81 #[.slice a n c] wx fun e w' => e = .returned (.bool (Bk.inOrd l)) ∧ Below wx.heap.size wx w') := fun wx hw => rinOrder_any wx a c n l (h.later hw) hn hl _ rfl
  clear h hn
  by_cases h0 : n = 0
  · have hF : Hid (S = 2) := by show _ = _; rw [HS.out]; unfold Bk.checkE; rw [if_pos (by rw [← HN.out]; exact h0)]
    subst h0
    clear HS CK IO
    go_enter Try.func34, Try.ntmps34
    go_wp2_with (fail)
    go_ret
    rw [hF.out]
    exact ⟨rfl, Below.refl _ _⟩
  · have n0 : ((n : Int) == 0) = false := by simp; omega
    by_cases h64 : 64 < n
    · have hF : Hid (S = 3) := by show _ = _; rw [HS.out]; unfold Bk.checkE; rw [if_neg (by rw [← HN.out]; exact h0), if_pos (by rw [← HN.out]; exact h64)]
      have i64 : (n : Int) > 64 := by omega
      clear HS CK IO
      go_enter Try.func34, Try.ntmps34
      go_wp2_with (fail)
      go_ret
      rw [hF.out]
      exact ⟨rfl, Below.refl _ _⟩
    · have i64 : ¬ (n : Int) > 64 := by omega
      have hS2 : Hid (S = if l.all Bk.may then if Bk.inOrd l then 0 else 10 else 2) := by
        show _ = _
        rw [HS.out]
        unfold Bk.checkE
        rw [if_neg (by rw [← HN.out]; exact h0), if_neg (by rw [← HN.out]; omega)]
      clear HS
      go_enter Try.func34, Try.ntmps34
      go_wp2_with (fail)
      go_loopw [3] (fun i wr => ∃ j : Nat, j ≤ n ∧ i = .int .i64 j ∧ Below w.heap.size w wr ∧ Hid ((l.take j).all Bk.may = true)) (fun i _ => n - (intOf i).toNat)
      case atStart => exact ⟨0, Nat.zero_le _, rfl, Below.refl _ _, rfl⟩
      case round =>
        obtain ⟨j, hj, rfl, bx, HA⟩ := hrel
        by_cases hlt : j < n
        · have jl : j < l.length := by have := HN.out; omega
          obtain ⟨b, off, rfl⟩ := H.out.some (by omega)
          obtain ⟨c0, c1, c2, c3⟩ := (H.out.later bx).cells j jl
          have CJ := hide (CK.out wr l[j])
          have jn : (j : Int) < (n : Int) := by omega
          cases hm : Bk.may l[j]
          · have hF : Hid (S = 2) := by show _ = _; rw [hS2.out, all_no_e jl hm]; rfl
            rw [checkE_may, hm] at CJ
            have CJ' : Hid (Calls Try.prog 13 #[entV l[j]] wr fun r w' => r = .returned (.int .i64 2) ∧ Below wr.heap.size wr w') := CJ.out
            generalize l[j] = x at *
            clear HA hm CK IO CJ jl hS2
            go_wp2_with (go_at_call 13; refine CJ'.out.mono ?_; rintro r w1 ⟨rfl, b1⟩)
            go_ret
            rw [hF.out]
            exact ⟨rfl, bx.trans (b1.mono bx.size)⟩
          · have HA' : Hid ((l.take (j + 1)).all Bk.may = true) := by show _ = _; rw [all_take_e jl HA.out]; exact hm
            rw [checkE_may, hm] at CJ
            have CJ' : Hid (Calls Try.prog 13 #[entV l[j]] wr fun r w' => r = .returned (.int .i64 0) ∧ Below wr.heap.size wr w') := CJ.out
            generalize l[j] = x at *
            clear HA hm CK CJ jl
            go_wp2_with (go_at_call 13; refine CJ'.out.mono ?_; rintro r w1 ⟨rfl, b1⟩)
            exact ⟨⟨j + 1, by omega, by go_num, bx.trans (b1.mono bx.size), HA'⟩, by simp [intOf]; omega⟩
        · have jn : ¬ (j : Int) < (n : Int) := by omega
          have hall : l.all Bk.may = true := by
            have := HA.out
            rwa [List.take_of_length_le (by have := HN.out; omega)] at this
          have IJ := hide (IO.out wr bx)
          cases hi : Bk.inOrd l
          · have hF : Hid (S = 10) := by show _ = _; rw [hS2.out, hall, hi]; rfl
            rw [hi] at IJ
            clear HA hall hi CK IO H hS2
            go_wp2_with (go_at_call 81; refine IJ.out.mono ?_; rintro r w1 ⟨rfl, b1⟩)
            go_ret
            rw [hF.out]
            exact ⟨rfl, bx.trans (b1.mono bx.size)⟩
          · have hF : Hid (S = 0) := by show _ = _; rw [hS2.out, hall, hi]; rfl
            rw [hi] at IJ
            clear HA hall hi CK IO H hS2
            go_wp2_with (go_at_call 81; refine IJ.out.mono ?_; rintro r w1 ⟨rfl, b1⟩)
            go_ret
            rw [hF.out]
            exact ⟨rfl, bx.trans (b1.mono bx.size)⟩
end Go.Proofs.Ytanhmebjfockjaa
