/-
  Package lexer: the sign that a text begins with; the token that it begins with.
-/
import Derived.Test.YtfkfljpajeeclaaDoorLxH
namespace Go.Proofs.YtfkfljpajeeclaaDoor
open Go.RowKit
attribute [local go_sem ↓] Go.wp_at_zero Go.wp_at_succ

theorem signAt_any (s : ByteArray) (k : Nat) (b : Bool) (hb : Lx.isS (s.data.toList.take k) = b) (w : World) : Calls Tryd.prog 43 #[.string (s.extract 0 k)] w fun e w' => e = .returned (.bool b) ∧ w' = w := by
  have := isSign_any w (s.extract 0 k)
  rw [take_ext] at this ⊢
  rw [show (⟨(s.data.toList.take k).toArray⟩ : ByteArray).data.toList = s.data.toList.take k from by simp, hb] at this
  exact this
theorem cloneAt_any (s : ByteArray) (k : Nat) (hs : s.size ≤ 100000) (w : World) : Calls Tryd.prog 69 #[.string (s.extract 0 k)] w fun e w' => e = .returned (.string (s.extract 0 k)) ∧ Below w.heap.size w w' :=
  clone_any w _ (by rw [ByteArray.size_extract]; omega)

set_option maxRecDepth 100000 in
set_option maxHeartbeats 6400000 in
theorem firstSign_any (w : World) (s : ByteArray) (h0 : 0 < s.size) (hs : s.size ≤ 100000) : Calls Tryd.prog 39 #[.string s] w fun e w' => e = .returned (nxV (Lx.signN s.data.toList)) ∧ Below w.heap.size w w' := by
  obtain ⟨S1, h1⟩ : ∃ S1, Lx.isS (s.data.toList.take 1) = S1 := ⟨_, rfl⟩
  obtain ⟨S2, h2⟩ : ∃ S2, Lx.isS (s.data.toList.take 2) = S2 := ⟨_, rfl⟩
  have I1 := hide (signAt_any s 1 S1 h1)
  have I2 := hide (signAt_any s 2 S2 h2)
  have C1 := hide (cloneAt_any s 1 hs)
  have C2 := hide (cloneAt_any s 2 hs)
  have e1 : (⟨(s.data.toList.take 1).toArray⟩ : ByteArray) = s.extract 0 1 := (take_ext s 1).symm
  have e2 : (⟨(s.data.toList.take 2).toArray⟩ : ByteArray) = s.extract 0 2 := (take_ext s 2).symm
  have HR : Hid (nxV (Lx.signN s.data.toList) = if 2 ≤ s.size ∧ S2 = true then .tuple #[.agg #[.int .u8 4, .string (s.extract 0 2), .int .u64 0, .int .i64 0], .int .i64 2, .int .i64 0] else if S1 = true then .tuple #[.agg #[.int .u8 4, .string (s.extract 0 1), .int .u64 0, .int .i64 0], .int .i64 1, .int .i64 0] else .tuple #[noTok, .int .i64 0, .int .i64 230]) := by
    show _ = _
    unfold Lx.signN
    rw [h1, h2, l_size, ← e1, ← e2]
    split
    · rfl
    · split <;> rfl
  clear h1 h2 e1 e2
  have B0 : Below w.heap.size w (w.alloc tk0) := (Below.refl _ _).alloc (Nat.le_refl _) _
  have P0 : (w.alloc tk0).heap[w.heap.size]? = some tk0 := by show (w.heap.push _)[w.heap.size]? = _; simp
  obtain ⟨R, hR⟩ : ∃ R, R = nxV (Lx.signN s.data.toList) := ⟨_, rfl⟩
  rw [← hR] at HR ⊢
  clear hR
  have hx1 : (1 : Int) ≤ s.size := by omega
  by_cases hz : s.size = 1
  · have hn2 : ¬ (2 ≤ s.size ∧ S2 = true) := by omega
    rw [if_neg hn2] at HR
    have hzi : (s.size : Int) = 1 := by omega
    clear hn2 I2 C2 hz h0
    cases S1
    · have HR2 : Hid (R = .tuple #[noTok, .int .i64 0, .int .i64 230]) := HR.out
      clear HR
      go_enter Tryd.func39, Tryd.ntmps39
      go_wp2
      go_loop [5] (fun v => v = .int .i64 1 ∨ v = .int .i64 0) (fun v => (intOf v).toNat)
      case atStart => first | exact .inl rfl | exact .inl (by simp [*]; try omega)
      case round =>
        rcases hrel with rfl | rfl
        · go_wp2_with (go_at_call 43; refine (I1.out _).mono ?_; rintro e w' ⟨rfl, rfl⟩)
          go_round
          case rel => exact .inr rfl
          case measure => decide
        · obtain ⟨y0, y1, y2, y3, u0, u1, u2, u3, lt⟩ := slot4 P0
          go_wp2
          exact bodyPost_ret (v := .tuple #[noTok, .int .i64 0, .int .i64 230]) (by simp [results, Tryd.results39, go_sem, y0, y1, y2, y3, noTok]; try rfl) rfl ⟨by rw [HR2.out], by first | exact B0 | exact below4 B0 (Nat.le_refl _) _ _ _ _⟩
    · have HR2 : Hid (R = .tuple #[.agg #[.int .u8 4, .string (s.extract 0 1), .int .u64 0, .int .i64 0], .int .i64 1, .int .i64 0]) := HR.out
      clear HR
      go_enter Tryd.func39, Tryd.ntmps39
      go_wp2
      go_loop [5] (fun v => v = .int .i64 1) (fun v => (intOf v).toNat)
      case atStart => first | exact rfl | exact (by simp [*]; try omega)
      case round =>
        subst hrel
        go_wp2_with (first
          | (go_at_call 43; refine (I1.out _).mono ?_; rintro e w' ⟨rfl, rfl⟩)
          | (go_at_call 69; refine (C1.out _).mono ?_; rintro e w2 ⟨rfl, hz⟩; obtain ⟨p, b⟩ := tk_mid hz; obtain ⟨y0, y1, y2, y3, u0, u1, u2, u3, lt⟩ := slot4 p; clear hz))
        exact bodyPost_ret (v := .tuple #[.agg #[.int .u8 4, .string (s.extract 0 1), .int .u64 0, .int .i64 0], .int .i64 1, .int .i64 0]) (by simp [results, Tryd.results39, go_sem, y0, y1, y2, y3]; try rfl) rfl ⟨by rw [HR2.out], by first | exact b | exact below4 b (Nat.le_refl _) _ _ _ _⟩
  · have hx2 : (2 : Int) ≤ s.size := by omega
    have hx3 : ¬ (s.size : Int) < 2 := by omega
    have h2 : 2 ≤ s.size := by omega
    clear hz h0
    cases S2
    · have HR : Hid (R = if S1 = true then .tuple #[.agg #[.int .u8 4, .string (s.extract 0 1), .int .u64 0, .int .i64 0], .int .i64 1, .int .i64 0] else .tuple #[noTok, .int .i64 0, .int .i64 230]) := by show _ = _; rw [HR.out, if_neg (by simp)]
      cases S1
      · have HR2 : Hid (R = .tuple #[noTok, .int .i64 0, .int .i64 230]) := HR.out
        clear HR
        go_enter Tryd.func39, Tryd.ntmps39
        go_wp2
        go_loop [5] (fun v => v = .int .i64 2 ∨ v = .int .i64 1 ∨ v = .int .i64 0) (fun v => (intOf v).toNat)
        case atStart => first | exact .inl rfl | exact .inl (by simp [*]; try omega)
        case round =>
          rcases hrel with rfl | rfl | rfl
          · go_wp2_with (go_at_call 43; refine (I2.out _).mono ?_; rintro e w' ⟨rfl, rfl⟩)
            go_round
            case rel => exact .inr (.inl rfl)
            case measure => decide
          · go_wp2_with (go_at_call 43; refine (I1.out _).mono ?_; rintro e w' ⟨rfl, rfl⟩)
            go_round
            case rel => exact .inr (.inr rfl)
            case measure => decide
          · obtain ⟨y0, y1, y2, y3, u0, u1, u2, u3, lt⟩ := slot4 P0
            go_wp2
            exact bodyPost_ret (v := .tuple #[noTok, .int .i64 0, .int .i64 230]) (by simp [results, Tryd.results39, go_sem, y0, y1, y2, y3, noTok]; try rfl) rfl ⟨by rw [HR2.out], by first | exact B0 | exact below4 B0 (Nat.le_refl _) _ _ _ _⟩
      · have HR2 : Hid (R = .tuple #[.agg #[.int .u8 4, .string (s.extract 0 1), .int .u64 0, .int .i64 0], .int .i64 1, .int .i64 0]) := HR.out
        clear HR
        go_enter Tryd.func39, Tryd.ntmps39
        go_wp2
        go_loop [5] (fun v => v = .int .i64 2 ∨ v = .int .i64 1) (fun v => (intOf v).toNat)
        case atStart => first | exact .inl rfl | exact .inl (by simp [*]; try omega)
        case round =>
          rcases hrel with rfl | rfl
          · go_wp2_with (go_at_call 43; refine (I2.out _).mono ?_; rintro e w' ⟨rfl, rfl⟩)
            go_round
            case rel => exact .inr rfl
            case measure => decide
          · go_wp2_with (first
              | (go_at_call 43; refine (I1.out _).mono ?_; rintro e w' ⟨rfl, rfl⟩)
              | (go_at_call 69; refine (C1.out _).mono ?_; rintro e w2 ⟨rfl, hz⟩; obtain ⟨p, b⟩ := tk_mid hz; obtain ⟨y0, y1, y2, y3, u0, u1, u2, u3, lt⟩ := slot4 p; clear hz))
            exact bodyPost_ret (v := .tuple #[.agg #[.int .u8 4, .string (s.extract 0 1), .int .u64 0, .int .i64 0], .int .i64 1, .int .i64 0]) (by simp [results, Tryd.results39, go_sem, y0, y1, y2, y3]; try rfl) rfl ⟨by rw [HR2.out], by first | exact b | exact below4 b (Nat.le_refl _) _ _ _ _⟩
    · have HR : Hid (R = .tuple #[.agg #[.int .u8 4, .string (s.extract 0 2), .int .u64 0, .int .i64 0], .int .i64 2, .int .i64 0]) := by show _ = _; rw [HR.out, if_pos ⟨h2, rfl⟩]
      have HR2 : Hid (R = .tuple #[.agg #[.int .u8 4, .string (s.extract 0 2), .int .u64 0, .int .i64 0], .int .i64 2, .int .i64 0]) := HR.out
      clear HR
      go_enter Tryd.func39, Tryd.ntmps39
      go_wp2
      go_loop [5] (fun v => v = .int .i64 2) (fun v => (intOf v).toNat)
      case atStart => first | exact rfl | exact (by simp [*]; try omega)
      case round =>
        subst hrel
        go_wp2_with (first
          | (go_at_call 43; refine (I2.out _).mono ?_; rintro e w' ⟨rfl, rfl⟩)
          | (go_at_call 69; refine (C2.out _).mono ?_; rintro e w2 ⟨rfl, hz⟩; obtain ⟨p, b⟩ := tk_mid hz; obtain ⟨y0, y1, y2, y3, u0, u1, u2, u3, lt⟩ := slot4 p; clear hz))
        exact bodyPost_ret (v := .tuple #[.agg #[.int .u8 4, .string (s.extract 0 2), .int .u64 0, .int .i64 0], .int .i64 2, .int .i64 0]) (by simp [results, Tryd.results39, go_sem, y0, y1, y2, y3]; try rfl) rfl ⟨by rw [HR2.out], by first | exact b | exact below4 b (Nat.le_refl _) _ _ _ _⟩
end Go.Proofs.YtfkfljpajeeclaaDoor
