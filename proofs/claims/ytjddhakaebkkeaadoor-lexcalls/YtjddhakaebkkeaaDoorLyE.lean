/-
  Package stagepostref13: a word at a place.
-/
import Derived.Test.YtjddhakaebkkeaaDoorLyD
import Derived.Test.YtjddhakaebkkeaaDoorUQo
namespace Go.Proofs.YtjddhakaebkkeaaDoor
open Go.RowKit
attribute [local go_sem ↓] Go.wp_at_zero Go.wp_at_succ

set_option maxRecDepth 20000 in
set_option maxHeartbeats 6400000 in
theorem rword_at (w : World) (s : ByteArray) (p : Nat) (hp : p ≤ s.size) (hs : s.size ≤ 100000) : Calls Tryd.prog 30 #[.string s, .int .i64 p] w fun e w' => ∃ v, e = .returned v ∧ rnx (Lx.wordN (s.data.toList.drop p)) p v ∧ Below w.heap.size w w' := by
  have DG := hide (fun c wx => digitC_any wx c)
  have LG := hide (fun c wx => letterC_any wx c)
  obtain ⟨L, hL⟩ : ∃ L, L = s.data.toList.drop p := ⟨_, rfl⟩
  have hLl : L.length = s.size - p := by rw [hL, List.length_drop, l_size]
  have HD : Hid (∀ k, L.drop k = s.data.toList.drop (p + k)) := by intro k; rw [hL, List.drop_drop]
  rw [← hL]
  clear hL
  go_enter Tryd.func30, Tryd.ntmps30
  go_wp2
  go_loopw [7, 8, 9] (fun bv iv _ wr => ∃ (J k : Nat), iv = .int .i64 J ∧ Hid (J = p + k) ∧ J ≤ s.size ∧ Hid (Bys (w.heap.size + 1) (w.alloc tk0) wr bv ((L.take k).map Lx.low)) ∧ Hid (∀ c ∈ L.take k, Lx.inw c = true)) (fun _ iv _ _ => s.size - (intOf iv).toNat)
  case atStart => exact ⟨p, 0, rfl, rfl, hp, hide (Bys.nil (Below.refl _ _) (by simp)), hide (by intro c hc; simp at hc)⟩
  case round =>
    obtain ⟨J, k, rfl, HJ, hJ, BO, HA⟩ := hrel
    have hk : k ≤ L.length := by have := HJ.out; omega
    have stop : (L.length ≤ k ∨ ∃ c r, L.drop k = c :: r ∧ Lx.inw c = false) → Hid (Lx.wordW L = k) := fun h => tw_full Lx.inw L k hk HA.out h
    by_cases hlt : J < s.size
    · have hd : L.drop k = s[J]'hlt :: L.drop (k + 1) := by
        have e := HJ.out
        subst e
        rw [HD.out k, HD.out (k + 1), drop_next hlt]; rfl
      have hlti : (J : Int) < s.size := by omega
      obtain ⟨c, hc⟩ : ∃ c, c = s[J]'hlt := ⟨_, rfl⟩
      rw [← hc] at hd
      have hsj : s[J]'hlt = c := hc.symm
      clear hc
      have DC := hide (DG.out c)
      have LC := hide (LG.out c)
      cases hlc : Lx.lt c
      · rw [hlc] at LC
        cases hdc : Lx.dg c
        · rw [hdc] at DC
          have hin : Lx.inw c = false := by unfold Lx.inw; rw [hlc, hdc]; rfl
          have FW := stop (.inr ⟨c, _, hd, hin⟩)
          have hkl : ((L.take k).map Lx.low).length = k := by rw [List.length_map, List.length_take]; omega
          have bel := BO.out.bel
          obtain ⟨pz, bb⟩ := tk_mid (w := w) (w2 := wr) (by simpa using bel)
          obtain ⟨y0, y1, y2, y3, u0, u1, u2, u3, ltw⟩ := slot4 pz
          obtain ⟨ad, cp, hsh⟩ := BO.out.shape
          rw [hkl] at hsh
          subst hsh
          have CV := BO.out.str
          obtain ⟨T, hT⟩ : ∃ T : ByteArray, T = ⟨((L.take k).map Lx.low).toArray⟩ := ⟨_, rfl⟩
          rw [← hT] at CV
          have HT := hide hT
          clear hT hkl pz bel stop hd hin HA HD DG LG
          by_cases h32 : k > 32
          · have FIN : Hid (Lx.wordN L = .err 3) := by show _ = _; unfold Lx.wordN; rw [FW.out, if_pos h32]
            have h32i : (32 : Int) < (k : Int) := by omega
            clear h32 FW
            go_wp2_with (first | (go_at_call 29; refine (LC.out _).mono ?_; rintro e w2 ⟨rfl, h2⟩; subst h2) | (go_at_call 31; refine (DC.out _).mono ?_; rintro e w3 ⟨rfl, h3⟩; subst h3))
            exact bodyPost_ret (v := .tuple #[noTok, .int .i64 (J : Int), .int .i64 3]) (by simp [results, Tryd.results30, go_sem, y0, y1, y2, y3, noTok]; try rfl) rfl ⟨_, rfl, by rw [FIN.out]; exact ⟨_, rfl⟩, by first | exact bb | exact below4 bb (Nat.le_refl _) _ _ _ _⟩
          · have FIN : Hid (Lx.wordN L = .tok ⟨1, (L.take k).map Lx.low, 0, 0⟩ k) := by show _ = _; unfold Lx.wordN; rw [FW.out, if_neg h32]
            have h32i : ¬ (32 : Int) < (k : Int) := by omega
            clear h32 FW
            go_wp2_with (first | (go_at_call 29; refine (LC.out _).mono ?_; rintro e w2 ⟨rfl, h2⟩; subst h2) | (go_at_call 31; refine (DC.out _).mono ?_; rintro e w3 ⟨rfl, h3⟩; subst h3))
            exact bodyPost_ret (v := .tuple #[.agg #[.int .u8 1, .string T, .int .u64 0, .int .i64 (p : Int)], .int .i64 (J : Int), .int .i64 0]) (by simp [results, Tryd.results30, go_sem, y0, y1, y2, y3]; try rfl) rfl ⟨_, rfl, by rw [FIN.out, HT.out, HJ.out]; rfl, by first | exact bb | exact below4 bb (Nat.le_refl _) _ _ _ _⟩
        · rw [hdc] at DC
          have hin : Lx.inw c = true := by unfold Lx.inw; rw [hlc, hdc]; rfl
          have HA2 := hide (take_all_succ HA.out hd hin)
          have HN : Hid ((L.take k).map Lx.low ++ [Lx.low c] = (L.take (k + 1)).map Lx.low) := by
            have hk2 : k < L.length := by
              rcases Nat.lt_or_ge k L.length with h' | h'
              · exact h'
              · rw [List.drop_of_length_le h'] at hd; cases hd
            have e : L[k] = c := by rw [List.drop_eq_getElem_cons hk2] at hd; exact (List.cons.inj hd).1
            show _ = _
            rw [List.take_succ_eq_append_getElem hk2, List.map_append, e]; rfl
          have hroom : ((L.take k).map Lx.low).length + 1 ≤ 140737488355328 := by rw [List.length_map, List.length_take]; omega
          have HJ2 : Hid (J + 1 = p + (k + 1)) := by show _ = _; rw [HJ.out]; rfl
          have BE := BO.out.bel
          clear stop hd HA HD hin
          by_cases hcp : Lx.cap c = true
          · have hcc := (Lx.cap_iff _).1 hcp
            have HY : Hid ((c.toNat : Int) + 32 = ((Lx.low c).toNat : Int)) := by show _ = _; unfold Lx.low; rw [if_pos hcp, Lx.add32 hcp]; rfl
            have h65 : (65 : Int) ≤ (c.toNat : Int) := by omega
            have h90 : (c.toNat : Int) ≤ 90 := by omega
            have c8 : c.toNat + 32 < 256 := by omega
            clear hcp hcc
            go_wp2_with (first | (go_at_call 29; refine (LC.out _).mono ?_; rintro e w2 ⟨rfl, h2⟩; subst h2) | (go_at_call 31; refine (DC.out _).mono ?_; rintro e w3 ⟨rfl, h3⟩; subst h3) | (at_builtin; refine wpList_byte _ rfl (.tmp 38) (.tmp 40) rfl (w.heap.size + 1) (w.alloc tk0) _ _ rfl (BO.out.alloc _) _ 1 1 rfl rfl (Lx.low c) ((c.toNat : Int) + 32) HY.out (new_cell _ _ _) rfl hroom ?_; intro v5 w5 b5; rw [HN.out] at b5; have B5 := hide b5; clear b5))
            go_roundw
            case rel => exact ⟨J + 1, k + 1, by go_num, HJ2, by omega, B5, HA2⟩
            case measure => simp [intOf]; omega
          · have HY : Hid ((c.toNat : Int) = ((Lx.low c).toNat : Int)) := by show _ = _; unfold Lx.low; rw [if_neg hcp]
            have hcc : ¬ (65 ≤ c.toNat ∧ c.toNat ≤ 90) := fun h => hcp ((Lx.cap_iff _).2 h)
            have c8 : c.toNat < 256 := c.toNat_lt
            clear hcp
            by_cases h65 : (65 : Int) ≤ (c.toNat : Int)
            · have h90 : ¬ (c.toNat : Int) ≤ 90 := by omega
              clear hcc
              go_wp2_with (first | (go_at_call 29; refine (LC.out _).mono ?_; rintro e w2 ⟨rfl, h2⟩; subst h2) | (go_at_call 31; refine (DC.out _).mono ?_; rintro e w3 ⟨rfl, h3⟩; subst h3) | (at_builtin; refine wpList_byte _ rfl (.tmp 38) (.tmp 40) rfl (w.heap.size + 1) (w.alloc tk0) _ _ rfl (BO.out.alloc _) _ 1 1 rfl rfl (Lx.low c) ((c.toNat : Int)) HY.out (new_cell _ _ _) rfl hroom ?_; intro v5 w5 b5; rw [HN.out] at b5; have B5 := hide b5; clear b5))
              go_roundw
              case rel => exact ⟨J + 1, k + 1, by go_num, HJ2, by omega, B5, HA2⟩
              case measure => simp [intOf]; omega
            · clear hcc
              go_wp2_with (first | (go_at_call 29; refine (LC.out _).mono ?_; rintro e w2 ⟨rfl, h2⟩; subst h2) | (go_at_call 31; refine (DC.out _).mono ?_; rintro e w3 ⟨rfl, h3⟩; subst h3) | (at_builtin; refine wpList_byte _ rfl (.tmp 38) (.tmp 40) rfl (w.heap.size + 1) (w.alloc tk0) _ _ rfl (BO.out.alloc _) _ 1 1 rfl rfl (Lx.low c) ((c.toNat : Int)) HY.out (new_cell _ _ _) rfl hroom ?_; intro v5 w5 b5; rw [HN.out] at b5; have B5 := hide b5; clear b5))
              go_roundw
              case rel => exact ⟨J + 1, k + 1, by go_num, HJ2, by omega, B5, HA2⟩
              case measure => simp [intOf]; omega
      · rw [hlc] at LC
        have hin : Lx.inw c = true := by unfold Lx.inw; rw [hlc]; rfl
        have HA2 := hide (take_all_succ HA.out hd hin)
        have HN : Hid ((L.take k).map Lx.low ++ [Lx.low c] = (L.take (k + 1)).map Lx.low) := by
          have hk2 : k < L.length := by
            rcases Nat.lt_or_ge k L.length with h' | h'
            · exact h'
            · rw [List.drop_of_length_le h'] at hd; cases hd
          have e : L[k] = c := by rw [List.drop_eq_getElem_cons hk2] at hd; exact (List.cons.inj hd).1
          show _ = _
          rw [List.take_succ_eq_append_getElem hk2, List.map_append, e]; rfl
        have hroom : ((L.take k).map Lx.low).length + 1 ≤ 140737488355328 := by rw [List.length_map, List.length_take]; omega
        have HJ2 : Hid (J + 1 = p + (k + 1)) := by show _ = _; rw [HJ.out]; rfl
        have BE := BO.out.bel
        clear stop hd HA HD hin
        by_cases hcp : Lx.cap c = true
        · have hcc := (Lx.cap_iff _).1 hcp
          have HY : Hid ((c.toNat : Int) + 32 = ((Lx.low c).toNat : Int)) := by show _ = _; unfold Lx.low; rw [if_pos hcp, Lx.add32 hcp]; rfl
          have h65 : (65 : Int) ≤ (c.toNat : Int) := by omega
          have h90 : (c.toNat : Int) ≤ 90 := by omega
          have c8 : c.toNat + 32 < 256 := by omega
          clear hcp hcc
          go_wp2_with (first | (go_at_call 29; refine (LC.out _).mono ?_; rintro e w2 ⟨rfl, h2⟩; subst h2) | (at_builtin; refine wpList_byte _ rfl (.tmp 38) (.tmp 40) rfl (w.heap.size + 1) (w.alloc tk0) _ _ rfl (BO.out.alloc _) _ 1 1 rfl rfl (Lx.low c) ((c.toNat : Int) + 32) HY.out (new_cell _ _ _) rfl hroom ?_; intro v5 w5 b5; rw [HN.out] at b5; have B5 := hide b5; clear b5))
          go_roundw
          case rel => exact ⟨J + 1, k + 1, by go_num, HJ2, by omega, B5, HA2⟩
          case measure => simp [intOf]; omega
        · have HY : Hid ((c.toNat : Int) = ((Lx.low c).toNat : Int)) := by show _ = _; unfold Lx.low; rw [if_neg hcp]
          have hcc : ¬ (65 ≤ c.toNat ∧ c.toNat ≤ 90) := fun h => hcp ((Lx.cap_iff _).2 h)
          have c8 : c.toNat < 256 := c.toNat_lt
          clear hcp
          by_cases h65 : (65 : Int) ≤ (c.toNat : Int)
          · have h90 : ¬ (c.toNat : Int) ≤ 90 := by omega
            clear hcc
            go_wp2_with (first | (go_at_call 29; refine (LC.out _).mono ?_; rintro e w2 ⟨rfl, h2⟩; subst h2) | (at_builtin; refine wpList_byte _ rfl (.tmp 38) (.tmp 40) rfl (w.heap.size + 1) (w.alloc tk0) _ _ rfl (BO.out.alloc _) _ 1 1 rfl rfl (Lx.low c) ((c.toNat : Int)) HY.out (new_cell _ _ _) rfl hroom ?_; intro v5 w5 b5; rw [HN.out] at b5; have B5 := hide b5; clear b5))
            go_roundw
            case rel => exact ⟨J + 1, k + 1, by go_num, HJ2, by omega, B5, HA2⟩
            case measure => simp [intOf]; omega
          · clear hcc
            go_wp2_with (first | (go_at_call 29; refine (LC.out _).mono ?_; rintro e w2 ⟨rfl, h2⟩; subst h2) | (at_builtin; refine wpList_byte _ rfl (.tmp 38) (.tmp 40) rfl (w.heap.size + 1) (w.alloc tk0) _ _ rfl (BO.out.alloc _) _ 1 1 rfl rfl (Lx.low c) ((c.toNat : Int)) HY.out (new_cell _ _ _) rfl hroom ?_; intro v5 w5 b5; rw [HN.out] at b5; have B5 := hide b5; clear b5))
            go_roundw
            case rel => exact ⟨J + 1, k + 1, by go_num, HJ2, by omega, B5, HA2⟩
            case measure => simp [intOf]; omega
    · have hlti : ¬ (J : Int) < s.size := by omega
      have FW := stop (.inl (by have := HJ.out; omega))
      have hkl : ((L.take k).map Lx.low).length = k := by rw [List.length_map, List.length_take]; omega
      have bel := BO.out.bel
      obtain ⟨pz, bb⟩ := tk_mid (w := w) (w2 := wr) (by simpa using bel)
      obtain ⟨y0, y1, y2, y3, u0, u1, u2, u3, ltw⟩ := slot4 pz
      obtain ⟨ad, cp, hsh⟩ := BO.out.shape
      rw [hkl] at hsh
      subst hsh
      have CV := BO.out.str
      obtain ⟨T, hT⟩ : ∃ T : ByteArray, T = ⟨((L.take k).map Lx.low).toArray⟩ := ⟨_, rfl⟩
      rw [← hT] at CV
      have HT := hide hT
      clear hT hkl pz bel stop HA HD DG LG
      by_cases h32 : k > 32
      · have FIN : Hid (Lx.wordN L = .err 3) := by show _ = _; unfold Lx.wordN; rw [FW.out, if_pos h32]
        have h32i : (32 : Int) < (k : Int) := by omega
        clear h32 FW
        go_wp2
        exact bodyPost_ret (v := .tuple #[noTok, .int .i64 (J : Int), .int .i64 3]) (by simp [results, Tryd.results30, go_sem, y0, y1, y2, y3, noTok]; try rfl) rfl ⟨_, rfl, by rw [FIN.out]; exact ⟨_, rfl⟩, by first | exact bb | exact below4 bb (Nat.le_refl _) _ _ _ _⟩
      · have FIN : Hid (Lx.wordN L = .tok ⟨1, (L.take k).map Lx.low, 0, 0⟩ k) := by show _ = _; unfold Lx.wordN; rw [FW.out, if_neg h32]
        have h32i : ¬ (32 : Int) < (k : Int) := by omega
        clear h32 FW
        go_wp2
        exact bodyPost_ret (v := .tuple #[.agg #[.int .u8 1, .string T, .int .u64 0, .int .i64 (p : Int)], .int .i64 (J : Int), .int .i64 0]) (by simp [results, Tryd.results30, go_sem, y0, y1, y2, y3]; try rfl) rfl ⟨_, rfl, by rw [FIN.out, HT.out, HJ.out]; rfl, by first | exact bb | exact below4 bb (Nat.le_refl _) _ _ _ _⟩
end Go.Proofs.YtjddhakaebkkeaaDoor
