/-
  Package stagepostref13: the token at a place.
-/
import Derived.Test.YtjddhakaebkkeaaDoorLyF
namespace Go.Proofs.YtjddhakaebkkeaaDoor
open Go.RowKit
attribute [local go_sem ↓] Go.wp_at_zero Go.wp_at_succ

theorem two_is {l : List UInt8} (h : l.length = 2) : Lx.isS l = ([[60, 62], [60, 61], [62, 61], [124, 124]] : List (List UInt8)).contains l := by
  match l, h with
  | [a, b], _ =>
    unfold Lx.isS Lx.signs
    simp
theorem one_is (c : UInt8) : Lx.isS [c] = oneB.data.toList.contains c := by
  unfold Lx.isS Lx.signs oneB
  simp
theorem ext_at (s : ByteArray) (p n : Nat) : s.extract p (p + n) = ⟨((s.data.toList.drop p).take n).toArray⟩ := by
  apply ByteArray.ext
  rw [ByteArray.data_extract]
  apply Array.toList_inj.1
  rw [Array.toList_extract]
  simp [List.extract_eq_take_drop]
theorem next_at {l q : List UInt8} {c : UInt8} (h : l = c :: q) : Lx.next l = if Lx.lt c then Lx.wordN l else if Lx.dg c then Lx.numN l else if c = 39 then Lx.textN l else Lx.signN l := by
  subst h; rfl
theorem rnx_form {y : Lx.Nx} {p : Nat} {v : Value} (h : rnx y p v) : ∃ (k : Int) (t : ByteArray) (n a i e : Int), v = .tuple #[.agg #[.int .u8 k, .string t, .int .u64 n, .int .i64 a], .int .i64 i, .int .i64 e] := by
  cases y with
  | tok x n => exact ⟨_, _, _, _, _, _, h⟩
  | err e => obtain ⟨i, hi⟩ := h; exact ⟨_, _, _, _, _, _, hi⟩

set_option maxRecDepth 20000 in
set_option maxHeartbeats 6400000 in
theorem rnext_at (w : World) (s : ByteArray) (p : Nat) (hp : p < s.size) (hs : s.size ≤ 100000) (hT : Tab2 w) : Calls Tryd.prog 15 #[.string s, .int .i64 p] w fun e w' => ∃ v, e = .returned v ∧ rnx (Lx.next (s.data.toList.drop p)) p v ∧ Below w.heap.size w w' := by
  have hd := drop_next hp
  obtain ⟨c, hc⟩ : ∃ c, c = s[p]'hp := ⟨_, rfl⟩
  rw [← hc] at hd
  have hsj : s[p]'hp = c := hc.symm
  clear hc
  rw [next_at hd]
  have hpi : (p : Int) < s.size := by omega
  have B0 : Below w.heap.size w (w.alloc tk0) := (Below.refl _ _).alloc (Nat.le_refl _) _
  have P0 : (w.alloc tk0).heap[w.heap.size]? = some tk0 := by show (w.heap.push _)[w.heap.size]? = _; simp
  have TT := hide (hT.later B0)
  have LC := hide (fun wx => letterC_any wx c)
  have DC := hide (fun wx => digitC_any wx c)
  cases hlc : Lx.lt c
  · rw [hlc] at LC
    rw [if_neg (by simp)]
    cases hdc : Lx.dg c
    · rw [hdc] at DC
      rw [if_neg (by simp)]
      by_cases h39 : c = 39
      · rw [if_pos h39]
        have h39i : (c.toNat : Int) = 39 := by rw [h39]; rfl
        rw [h39i] at LC DC
        have TX := hide (rtext_at (w.alloc tk0) s p hp hs TT.out)
        clear hd h39 hlc hdc
        go_enter Tryd.func15, Tryd.ntmps15
        go_wp2_with (first
          | (go_at_call 29; refine (LC.out _).mono ?_; rintro e w2 ⟨rfl, h2⟩; subst h2)
          | (go_at_call 31; refine (DC.out _).mono ?_; rintro e w3 ⟨rfl, h3⟩; subst h3)
          | (go_at_call 33; refine TX.out.mono ?_; rintro e w4 ⟨v, rfl, hr, hb⟩; obtain ⟨k, t, n, a, i, e2, rfl⟩ := rnx_form hr; have HR := hide hr; obtain ⟨pz, bb⟩ := tk_mid hb; obtain ⟨y0, y1, y2, y3, u0, u1, u2, u3, ltw⟩ := slot4 pz; clear hr hb))
        exact bodyPost_ret (v := .tuple #[.agg #[.int .u8 k, .string t, .int .u64 n, .int .i64 a], .int .i64 i, .int .i64 e2]) (by simp [results, Tryd.results15, go_sem, y0, y1, y2, y3]; try rfl) rfl ⟨_, rfl, HR.out, by first | exact bb | exact below4 bb (Nat.le_refl _) _ _ _ _⟩
      · rw [if_neg h39]
        have h39i : ¬ (c.toNat : Int) = 39 := by intro h; exact h39 (UInt8.toNat_inj.mp (by show _ = 39; omega))
        obtain ⟨y0, y1, y2, y3, u0, u1, u2, u3, ltw⟩ := slot4 P0
        obtain ⟨S1, h1⟩ : ∃ S1, Lx.isS ((s.data.toList.drop p).take 1) = S1 := ⟨_, rfl⟩
        obtain ⟨S2, h2⟩ : ∃ S2, Lx.isS ((s.data.toList.drop p).take 2) = S2 := ⟨_, rfl⟩
        have HS : Hid (Lx.signN (s.data.toList.drop p) = if p + 2 ≤ s.size ∧ S2 = true then .tok ⟨4, (s.data.toList.drop p).take 2, 0, 0⟩ 2 else if S1 = true then .tok ⟨4, (s.data.toList.drop p).take 1, 0, 0⟩ 1 else .err 230) := by
          show _ = _
          unfold Lx.signN
          rw [h1, h2, List.length_drop, l_size]
          by_cases hy : p + 2 ≤ s.size ∧ S2 = true
          · have c1 : 2 ≤ s.size - p ∧ S2 = true := ⟨by omega, hy.2⟩
            rw [if_pos c1, if_pos hy]
          · have c1 : ¬ (2 ≤ s.size - p ∧ S2 = true) := fun h => hy ⟨by omega, h.2⟩
            rw [if_neg c1, if_neg hy]
        have ON := hide (fun wx => one_any wx c)
        rw [← one_is, show [c] = (s.data.toList.drop p).take 1 from by rw [hd]; rfl, h1] at ON
        have X1 := hide (ext_at s p 1)
        have X2 := hide (ext_at s p 2)
        have hp1 : (p : Int) + 1 ≤ s.size := by omega
        by_cases hp2 : p + 2 ≤ s.size
        · have TW := hide (fun wx => two_any wx (s.extract p (p + 2)))
          have e2 : (s.extract p (p + 2)).data.toList = (s.data.toList.drop p).take 2 := by rw [ext_at]
          rw [e2, ← two_is (by rw [List.length_take, List.length_drop, l_size]; omega), h2] at TW
          have hp2i : (p : Int) + 2 ≤ s.size := by omega
          clear h1 h2 e2 hd hlc hdc h39
          cases S2
          · cases S1
            · have FIN : Hid (Lx.signN (s.data.toList.drop p) = .err 230) := HS.out.trans (by simp)
              clear HS
              go_enter Tryd.func15, Tryd.ntmps15
              go_wp2_with (first
                | (go_at_call 29; refine (LC.out _).mono ?_; rintro e w2 ⟨rfl, h2⟩; subst h2)
                | (go_at_call 31; refine (DC.out _).mono ?_; rintro e w3 ⟨rfl, h3⟩; subst h3)
                | (go_at_call 34; refine (TW.out _).mono ?_; rintro e w4 ⟨rfl, h4⟩; subst h4)
                | (go_at_call 35; refine (ON.out _).mono ?_; rintro e w5 ⟨rfl, h5⟩; subst h5))
              exact bodyPost_ret (v := .tuple #[noTok, .int .i64 (p : Int), .int .i64 230]) (by simp [results, Tryd.results15, go_sem, y0, y1, y2, y3, noTok]; try rfl) rfl ⟨_, rfl, by rw [FIN.out]; exact ⟨_, rfl⟩, by first | exact B0 | exact below4 B0 (Nat.le_refl _) _ _ _ _⟩
            · have FIN : Hid (Lx.signN (s.data.toList.drop p) = .tok ⟨4, (s.data.toList.drop p).take 1, 0, 0⟩ 1) := HS.out.trans (by simp)
              clear HS
              go_enter Tryd.func15, Tryd.ntmps15
              go_wp2_with (first
                | (go_at_call 29; refine (LC.out _).mono ?_; rintro e w2 ⟨rfl, h2⟩; subst h2)
                | (go_at_call 31; refine (DC.out _).mono ?_; rintro e w3 ⟨rfl, h3⟩; subst h3)
                | (go_at_call 34; refine (TW.out _).mono ?_; rintro e w4 ⟨rfl, h4⟩; subst h4)
                | (go_at_call 35; refine (ON.out _).mono ?_; rintro e w5 ⟨rfl, h5⟩; subst h5))
              exact bodyPost_ret (v := .tuple #[.agg #[.int .u8 4, .string (s.extract p (p + 1)), .int .u64 0, .int .i64 (p : Int)], .int .i64 ((p : Int) + 1), .int .i64 0]) (by simp [results, Tryd.results15, go_sem]; try rfl) rfl ⟨_, rfl, by rw [FIN.out, X1.out]; rfl, by first | exact B0 | exact below4 B0 (Nat.le_refl _) _ _ _ _ | exact (Below.refl _ _).alloc (Nat.le_refl _) _⟩
          · have FIN : Hid (Lx.signN (s.data.toList.drop p) = .tok ⟨4, (s.data.toList.drop p).take 2, 0, 0⟩ 2) := HS.out.trans (if_pos ⟨hp2, rfl⟩)
            clear HS
            go_enter Tryd.func15, Tryd.ntmps15
            go_wp2_with (first
              | (go_at_call 29; refine (LC.out _).mono ?_; rintro e w2 ⟨rfl, h2⟩; subst h2)
              | (go_at_call 31; refine (DC.out _).mono ?_; rintro e w3 ⟨rfl, h3⟩; subst h3)
              | (go_at_call 34; refine (TW.out _).mono ?_; rintro e w4 ⟨rfl, h4⟩; subst h4))
            exact bodyPost_ret (v := .tuple #[.agg #[.int .u8 4, .string (s.extract p (p + 2)), .int .u64 0, .int .i64 (p : Int)], .int .i64 ((p : Int) + 2), .int .i64 0]) (by simp [results, Tryd.results15, go_sem]; try rfl) rfl ⟨_, rfl, by rw [FIN.out, X2.out]; rfl, by first | exact B0 | exact below4 B0 (Nat.le_refl _) _ _ _ _ | exact (Below.refl _ _).alloc (Nat.le_refl _) _⟩
        · have hp2i : ¬ (p : Int) + 2 ≤ s.size := by omega
          clear h1 h2 hd hlc hdc h39
          cases S1
          · have FIN : Hid (Lx.signN (s.data.toList.drop p) = .err 230) := HS.out.trans (by simp [hp2])
            clear HS
            go_enter Tryd.func15, Tryd.ntmps15
            go_wp2_with (first
              | (go_at_call 29; refine (LC.out _).mono ?_; rintro e w2 ⟨rfl, h2⟩; subst h2)
              | (go_at_call 31; refine (DC.out _).mono ?_; rintro e w3 ⟨rfl, h3⟩; subst h3)
              | (go_at_call 35; refine (ON.out _).mono ?_; rintro e w5 ⟨rfl, h5⟩; subst h5))
            exact bodyPost_ret (v := .tuple #[noTok, .int .i64 (p : Int), .int .i64 230]) (by simp [results, Tryd.results15, go_sem, y0, y1, y2, y3, noTok]; try rfl) rfl ⟨_, rfl, by rw [FIN.out]; exact ⟨_, rfl⟩, by first | exact B0 | exact below4 B0 (Nat.le_refl _) _ _ _ _⟩
          · have FIN : Hid (Lx.signN (s.data.toList.drop p) = .tok ⟨4, (s.data.toList.drop p).take 1, 0, 0⟩ 1) := HS.out.trans (by simp [hp2])
            clear HS
            go_enter Tryd.func15, Tryd.ntmps15
            go_wp2_with (first
              | (go_at_call 29; refine (LC.out _).mono ?_; rintro e w2 ⟨rfl, h2⟩; subst h2)
              | (go_at_call 31; refine (DC.out _).mono ?_; rintro e w3 ⟨rfl, h3⟩; subst h3)
              | (go_at_call 35; refine (ON.out _).mono ?_; rintro e w5 ⟨rfl, h5⟩; subst h5))
            exact bodyPost_ret (v := .tuple #[.agg #[.int .u8 4, .string (s.extract p (p + 1)), .int .u64 0, .int .i64 (p : Int)], .int .i64 ((p : Int) + 1), .int .i64 0]) (by simp [results, Tryd.results15, go_sem]; try rfl) rfl ⟨_, rfl, by rw [FIN.out, X1.out]; rfl, by first | exact B0 | exact below4 B0 (Nat.le_refl _) _ _ _ _ | exact (Below.refl _ _).alloc (Nat.le_refl _) _⟩
    · rw [hdc] at DC
      rw [if_pos rfl]
      have TX := hide (rnumber_at (w.alloc tk0) s p (Nat.le_of_lt hp) hs)
      clear hd hlc hdc
      go_enter Tryd.func15, Tryd.ntmps15
      go_wp2_with (first
        | (go_at_call 29; refine (LC.out _).mono ?_; rintro e w2 ⟨rfl, h2⟩; subst h2)
        | (go_at_call 31; refine (DC.out _).mono ?_; rintro e w3 ⟨rfl, h3⟩; subst h3)
        | (go_at_call 32; refine TX.out.mono ?_; rintro e w4 ⟨v, rfl, hr, hb⟩; obtain ⟨k, t, n, a, i, e2, rfl⟩ := rnx_form hr; have HR := hide hr; obtain ⟨pz, bb⟩ := tk_mid hb; obtain ⟨y0, y1, y2, y3, u0, u1, u2, u3, ltw⟩ := slot4 pz; clear hr hb))
      exact bodyPost_ret (v := .tuple #[.agg #[.int .u8 k, .string t, .int .u64 n, .int .i64 a], .int .i64 i, .int .i64 e2]) (by simp [results, Tryd.results15, go_sem, y0, y1, y2, y3]; try rfl) rfl ⟨_, rfl, HR.out, by first | exact bb | exact below4 bb (Nat.le_refl _) _ _ _ _⟩
  · rw [hlc] at LC
    rw [if_pos rfl]
    have TX := hide (rword_at (w.alloc tk0) s p (Nat.le_of_lt hp) hs)
    clear hd hlc
    go_enter Tryd.func15, Tryd.ntmps15
    go_wp2_with (first
      | (go_at_call 29; refine (LC.out _).mono ?_; rintro e w2 ⟨rfl, h2⟩; subst h2)
      | (go_at_call 30; refine TX.out.mono ?_; rintro e w4 ⟨v, rfl, hr, hb⟩; obtain ⟨k, t, n, a, i, e2, rfl⟩ := rnx_form hr; have HR := hide hr; obtain ⟨pz, bb⟩ := tk_mid hb; obtain ⟨y0, y1, y2, y3, u0, u1, u2, u3, ltw⟩ := slot4 pz; clear hr hb))
    exact bodyPost_ret (v := .tuple #[.agg #[.int .u8 k, .string t, .int .u64 n, .int .i64 a], .int .i64 i, .int .i64 e2]) (by simp [results, Tryd.results15, go_sem, y0, y1, y2, y3]; try rfl) rfl ⟨_, rfl, HR.out, by first | exact bb | exact below4 bb (Nat.le_refl _) _ _ _ _⟩
end Go.Proofs.YtjddhakaebkkeaaDoor
