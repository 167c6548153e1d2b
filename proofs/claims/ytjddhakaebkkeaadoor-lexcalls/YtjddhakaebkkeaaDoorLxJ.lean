/-
  Package lexer: the token that a text begins with.
-/
import Derived.Test.YtjddhakaebkkeaaDoorXC
namespace Go.Proofs.YtjddhakaebkkeaaDoor
open Go.RowKit
attribute [local go_sem ↓] Go.wp_at_zero Go.wp_at_succ

theorem nx_cases (y : Lx.Nx) : (∃ x n, y = .tok x n) ∨ (∃ e, y = .err e) := by
  cases y with
  | tok x n => exact .inl ⟨x, n, rfl⟩
  | err e => exact .inr ⟨e, rfl⟩

set_option maxRecDepth 100000 in
set_option maxHeartbeats 6400000 in
theorem first_any (w : World) (s : ByteArray) (r : Int) (h0 : 0 < s.size) (hs : s.size ≤ 100000) (hr : r = ((Utf8.decode s 0).1 : Nat)) (hT : Tab2 w) : Calls Tryd.prog 13 #[.string s, .int .i32 r] w fun e w' => e = .returned (nxV (Lx.next s.data.toList)) ∧ Below w.heap.size w w' := by
  obtain ⟨c, q, hq⟩ : ∃ c q, s.data.toList = c :: q := ⟨_, _, Lx.drop_at s 0 h0⟩
  have hc : s[0]'h0 = c := by
    have := Lx.drop_at s 0 h0
    rw [List.drop_zero, hq] at this
    exact (List.cons.inj this).1.symm
  have hl := Lx.rune_pred Lx.ltR_c Lx.ltR_hi s 0 h0
  have hd := Lx.rune_pred Lx.dgR_c Lx.dgR_hi s 0 h0
  rw [hc, ← hr] at hl hd
  have h39 : r = 39 ↔ c = 39 := by
    constructor
    · intro h
      have := (Lx.rune_39 s 0 h0 (by omega)).1
      rw [hc] at this; exact this
    · intro h
      have ha : (s[0]'h0).toNat < 128 := by rw [hc, h]; decide
      rw [hr, decode_ascii s 0 h0 ha, hc, h]; rfl
  have FW := hide (fun wx => firstWord_any wx s (by omega))
  have FN := hide (fun wx => firstNumber_any wx s (by omega))
  have FS := hide (fun wx => firstSign_any wx s h0 hs)
  have IL := hide (fun wx => isLetter_any wx r)
  have ID := hide (fun wx => isDigit_any wx r)
  have B0 : Below w.heap.size w (w.alloc tk0) := (Below.refl _ _).alloc (Nat.le_refl _) _
  rw [hl] at IL
  rw [hd] at ID
  have hN : Lx.next s.data.toList = if Lx.lt c then Lx.wordN s.data.toList else if Lx.dg c then Lx.numN s.data.toList else if c = 39 then Lx.textN s.data.toList else Lx.signN s.data.toList := by rw [hq]; rfl
  rw [hN]
  clear hN hr hl hd
  cases hlc : Lx.lt c
  · rw [hlc] at IL
    rw [if_neg (by simp)]
    cases hdc : Lx.dg c
    · rw [hdc] at ID
      rw [if_neg (by simp)]
      by_cases hcc : c = 39
      · have hr39 := h39.2 hcc
        have FT := hide (fun wx h => firstText_any wx s q hs (by rw [hq, hcc]) h)
        rw [if_pos hcc]
        clear hq hc hcc h39 hlc hdc FW FN FS
        subst hr39
        rcases nx_cases (Lx.textN s.data.toList) with ⟨x, n, hx⟩ | ⟨x, hx⟩
        · rw [hx] at FT ⊢
          have HV : Hid (nxV (.tok x n) = .tuple #[.agg #[.int .u8 x.k, .string ⟨x.t.toArray⟩, .int .u64 x.n, .int .i64 x.at'], .int .i64 n, .int .i64 0]) := rfl
          rw [HV.out]
          have F2 : Hid (∀ (wx : World) (h : Tab2 wx), Calls Tryd.prog 27 #[.string s] wx fun e w' => e = .returned (.tuple #[.agg #[.int .u8 x.k, .string ⟨x.t.toArray⟩, .int .u64 x.n, .int .i64 x.at'], .int .i64 n, .int .i64 0]) ∧ Below wx.heap.size wx w') := fun wx h => FT.out wx h
          clear hx HV FT
          go_enter Tryd.func13, Tryd.ntmps13
          go_wp2_with (first
            | (go_at_call 23; refine (IL.out _).mono ?_; rintro e w' ⟨rfl, rfl⟩)
            | (go_at_call 25; refine (ID.out _).mono ?_; rintro e w' ⟨rfl, rfl⟩)
            | (go_at_call 27; refine (F2.out _ (hT.later B0)).mono ?_; rintro e w2 ⟨rfl, hz⟩; obtain ⟨p, b⟩ := tk_mid hz; obtain ⟨y0, y1, y2, y3, u0, u1, u2, u3, lt⟩ := slot4 p; clear hz))
          exact bodyPost_ret (v := .tuple #[.agg #[.int .u8 x.k, .string ⟨x.t.toArray⟩, .int .u64 x.n, .int .i64 x.at'], .int .i64 n, .int .i64 0]) (by simp [results, Tryd.results13, go_sem, y0, y1, y2, y3]; try rfl) rfl ⟨rfl, by first | exact b | exact below4 b (Nat.le_refl _) _ _ _ _⟩
        · rw [hx] at FT ⊢
          have HV : Hid (nxV (.err x) = .tuple #[.agg #[.int .u8 0, .string ⟨#[]⟩, .int .u64 0, .int .i64 0], .int .i64 0, .int .i64 x]) := rfl
          rw [HV.out]
          have F2 : Hid (∀ (wx : World) (h : Tab2 wx), Calls Tryd.prog 27 #[.string s] wx fun e w' => e = .returned (.tuple #[.agg #[.int .u8 0, .string ⟨#[]⟩, .int .u64 0, .int .i64 0], .int .i64 0, .int .i64 x]) ∧ Below wx.heap.size wx w') := fun wx h => FT.out wx h
          clear hx HV FT
          go_enter Tryd.func13, Tryd.ntmps13
          go_wp2_with (first
            | (go_at_call 23; refine (IL.out _).mono ?_; rintro e w' ⟨rfl, rfl⟩)
            | (go_at_call 25; refine (ID.out _).mono ?_; rintro e w' ⟨rfl, rfl⟩)
            | (go_at_call 27; refine (F2.out _ (hT.later B0)).mono ?_; rintro e w2 ⟨rfl, hz⟩; obtain ⟨p, b⟩ := tk_mid hz; obtain ⟨y0, y1, y2, y3, u0, u1, u2, u3, lt⟩ := slot4 p; clear hz))
          exact bodyPost_ret (v := .tuple #[.agg #[.int .u8 0, .string ⟨#[]⟩, .int .u64 0, .int .i64 0], .int .i64 0, .int .i64 x]) (by simp [results, Tryd.results13, go_sem, y0, y1, y2, y3]; try rfl) rfl ⟨rfl, by first | exact b | exact below4 b (Nat.le_refl _) _ _ _ _⟩
      · have hr39 : ¬ r = 39 := fun h => hcc (h39.1 h)
        rw [if_neg hcc]
        clear hq hc hcc h39 hlc hdc FW FN
        rcases nx_cases (Lx.signN s.data.toList) with ⟨x, n, hx⟩ | ⟨x, hx⟩
        · rw [hx] at FS ⊢
          have HV : Hid (nxV (.tok x n) = .tuple #[.agg #[.int .u8 x.k, .string ⟨x.t.toArray⟩, .int .u64 x.n, .int .i64 x.at'], .int .i64 n, .int .i64 0]) := rfl
          rw [HV.out]
          have F2 : Hid (∀ (wx : World), Calls Tryd.prog 28 #[.string s] wx fun e w' => e = .returned (.tuple #[.agg #[.int .u8 x.k, .string ⟨x.t.toArray⟩, .int .u64 x.n, .int .i64 x.at'], .int .i64 n, .int .i64 0]) ∧ Below wx.heap.size wx w') := fun wx => FS.out wx
          clear hx HV FS
          go_enter Tryd.func13, Tryd.ntmps13
          go_wp2_with (first
            | (go_at_call 23; refine (IL.out _).mono ?_; rintro e w' ⟨rfl, rfl⟩)
            | (go_at_call 25; refine (ID.out _).mono ?_; rintro e w' ⟨rfl, rfl⟩)
            | (go_at_call 28; refine (F2.out _).mono ?_; rintro e w2 ⟨rfl, hz⟩; obtain ⟨p, b⟩ := tk_mid hz; obtain ⟨y0, y1, y2, y3, u0, u1, u2, u3, lt⟩ := slot4 p; clear hz))
          exact bodyPost_ret (v := .tuple #[.agg #[.int .u8 x.k, .string ⟨x.t.toArray⟩, .int .u64 x.n, .int .i64 x.at'], .int .i64 n, .int .i64 0]) (by simp [results, Tryd.results13, go_sem, y0, y1, y2, y3]; try rfl) rfl ⟨rfl, by first | exact b | exact below4 b (Nat.le_refl _) _ _ _ _⟩
        · rw [hx] at FS ⊢
          have HV : Hid (nxV (.err x) = .tuple #[.agg #[.int .u8 0, .string ⟨#[]⟩, .int .u64 0, .int .i64 0], .int .i64 0, .int .i64 x]) := rfl
          rw [HV.out]
          have F2 : Hid (∀ (wx : World), Calls Tryd.prog 28 #[.string s] wx fun e w' => e = .returned (.tuple #[.agg #[.int .u8 0, .string ⟨#[]⟩, .int .u64 0, .int .i64 0], .int .i64 0, .int .i64 x]) ∧ Below wx.heap.size wx w') := fun wx => FS.out wx
          clear hx HV FS
          go_enter Tryd.func13, Tryd.ntmps13
          go_wp2_with (first
            | (go_at_call 23; refine (IL.out _).mono ?_; rintro e w' ⟨rfl, rfl⟩)
            | (go_at_call 25; refine (ID.out _).mono ?_; rintro e w' ⟨rfl, rfl⟩)
            | (go_at_call 28; refine (F2.out _).mono ?_; rintro e w2 ⟨rfl, hz⟩; obtain ⟨p, b⟩ := tk_mid hz; obtain ⟨y0, y1, y2, y3, u0, u1, u2, u3, lt⟩ := slot4 p; clear hz))
          exact bodyPost_ret (v := .tuple #[.agg #[.int .u8 0, .string ⟨#[]⟩, .int .u64 0, .int .i64 0], .int .i64 0, .int .i64 x]) (by simp [results, Tryd.results13, go_sem, y0, y1, y2, y3]; try rfl) rfl ⟨rfl, by first | exact b | exact below4 b (Nat.le_refl _) _ _ _ _⟩
    · rw [hdc] at ID
      rw [if_pos rfl]
      clear hq hc h39 hlc hdc FW FS
      rcases nx_cases (Lx.numN s.data.toList) with ⟨x, n, hx⟩ | ⟨x, hx⟩
      · rw [hx] at FN ⊢
        have HV : Hid (nxV (.tok x n) = .tuple #[.agg #[.int .u8 x.k, .string ⟨x.t.toArray⟩, .int .u64 x.n, .int .i64 x.at'], .int .i64 n, .int .i64 0]) := rfl
        rw [HV.out]
        have F2 : Hid (∀ (wx : World), Calls Tryd.prog 26 #[.string s] wx fun e w' => e = .returned (.tuple #[.agg #[.int .u8 x.k, .string ⟨x.t.toArray⟩, .int .u64 x.n, .int .i64 x.at'], .int .i64 n, .int .i64 0]) ∧ Below wx.heap.size wx w') := fun wx => FN.out wx
        clear hx HV FN
        go_enter Tryd.func13, Tryd.ntmps13
        go_wp2_with (first
          | (go_at_call 23; refine (IL.out _).mono ?_; rintro e w' ⟨rfl, rfl⟩)
          | (go_at_call 25; refine (ID.out _).mono ?_; rintro e w' ⟨rfl, rfl⟩)
          | (go_at_call 26; refine (F2.out _).mono ?_; rintro e w2 ⟨rfl, hz⟩; obtain ⟨p, b⟩ := tk_mid hz; obtain ⟨y0, y1, y2, y3, u0, u1, u2, u3, lt⟩ := slot4 p; clear hz))
        exact bodyPost_ret (v := .tuple #[.agg #[.int .u8 x.k, .string ⟨x.t.toArray⟩, .int .u64 x.n, .int .i64 x.at'], .int .i64 n, .int .i64 0]) (by simp [results, Tryd.results13, go_sem, y0, y1, y2, y3]; try rfl) rfl ⟨rfl, by first | exact b | exact below4 b (Nat.le_refl _) _ _ _ _⟩
      · rw [hx] at FN ⊢
        have HV : Hid (nxV (.err x) = .tuple #[.agg #[.int .u8 0, .string ⟨#[]⟩, .int .u64 0, .int .i64 0], .int .i64 0, .int .i64 x]) := rfl
        rw [HV.out]
        have F2 : Hid (∀ (wx : World), Calls Tryd.prog 26 #[.string s] wx fun e w' => e = .returned (.tuple #[.agg #[.int .u8 0, .string ⟨#[]⟩, .int .u64 0, .int .i64 0], .int .i64 0, .int .i64 x]) ∧ Below wx.heap.size wx w') := fun wx => FN.out wx
        clear hx HV FN
        go_enter Tryd.func13, Tryd.ntmps13
        go_wp2_with (first
          | (go_at_call 23; refine (IL.out _).mono ?_; rintro e w' ⟨rfl, rfl⟩)
          | (go_at_call 25; refine (ID.out _).mono ?_; rintro e w' ⟨rfl, rfl⟩)
          | (go_at_call 26; refine (F2.out _).mono ?_; rintro e w2 ⟨rfl, hz⟩; obtain ⟨p, b⟩ := tk_mid hz; obtain ⟨y0, y1, y2, y3, u0, u1, u2, u3, lt⟩ := slot4 p; clear hz))
        exact bodyPost_ret (v := .tuple #[.agg #[.int .u8 0, .string ⟨#[]⟩, .int .u64 0, .int .i64 0], .int .i64 0, .int .i64 x]) (by simp [results, Tryd.results13, go_sem, y0, y1, y2, y3]; try rfl) rfl ⟨rfl, by first | exact b | exact below4 b (Nat.le_refl _) _ _ _ _⟩
  · rw [hlc] at IL
    rw [if_pos rfl]
    clear hq hc h39 hlc FN FS ID
    rcases nx_cases (Lx.wordN s.data.toList) with ⟨x, n, hx⟩ | ⟨x, hx⟩
    · rw [hx] at FW ⊢
      have HV : Hid (nxV (.tok x n) = .tuple #[.agg #[.int .u8 x.k, .string ⟨x.t.toArray⟩, .int .u64 x.n, .int .i64 x.at'], .int .i64 n, .int .i64 0]) := rfl
      rw [HV.out]
      have F2 : Hid (∀ (wx : World), Calls Tryd.prog 24 #[.string s] wx fun e w' => e = .returned (.tuple #[.agg #[.int .u8 x.k, .string ⟨x.t.toArray⟩, .int .u64 x.n, .int .i64 x.at'], .int .i64 n, .int .i64 0]) ∧ Below wx.heap.size wx w') := fun wx => FW.out wx
      clear hx HV FW
      go_enter Tryd.func13, Tryd.ntmps13
      go_wp2_with (first
        | (go_at_call 23; refine (IL.out _).mono ?_; rintro e w' ⟨rfl, rfl⟩)
        | (go_at_call 24; refine (F2.out _).mono ?_; rintro e w2 ⟨rfl, hz⟩; obtain ⟨p, b⟩ := tk_mid hz; obtain ⟨y0, y1, y2, y3, u0, u1, u2, u3, lt⟩ := slot4 p; clear hz))
      exact bodyPost_ret (v := .tuple #[.agg #[.int .u8 x.k, .string ⟨x.t.toArray⟩, .int .u64 x.n, .int .i64 x.at'], .int .i64 n, .int .i64 0]) (by simp [results, Tryd.results13, go_sem, y0, y1, y2, y3]; try rfl) rfl ⟨rfl, by first | exact b | exact below4 b (Nat.le_refl _) _ _ _ _⟩
    · rw [hx] at FW ⊢
      have HV : Hid (nxV (.err x) = .tuple #[.agg #[.int .u8 0, .string ⟨#[]⟩, .int .u64 0, .int .i64 0], .int .i64 0, .int .i64 x]) := rfl
      rw [HV.out]
      have F2 : Hid (∀ (wx : World), Calls Tryd.prog 24 #[.string s] wx fun e w' => e = .returned (.tuple #[.agg #[.int .u8 0, .string ⟨#[]⟩, .int .u64 0, .int .i64 0], .int .i64 0, .int .i64 x]) ∧ Below wx.heap.size wx w') := fun wx => FW.out wx
      clear hx HV FW
      go_enter Tryd.func13, Tryd.ntmps13
      go_wp2_with (first
        | (go_at_call 23; refine (IL.out _).mono ?_; rintro e w' ⟨rfl, rfl⟩)
        | (go_at_call 24; refine (F2.out _).mono ?_; rintro e w2 ⟨rfl, hz⟩; obtain ⟨p, b⟩ := tk_mid hz; obtain ⟨y0, y1, y2, y3, u0, u1, u2, u3, lt⟩ := slot4 p; clear hz))
      exact bodyPost_ret (v := .tuple #[.agg #[.int .u8 0, .string ⟨#[]⟩, .int .u64 0, .int .i64 0], .int .i64 0, .int .i64 x]) (by simp [results, Tryd.results13, go_sem, y0, y1, y2, y3]; try rfl) rfl ⟨rfl, by first | exact b | exact below4 b (Nat.le_refl _) _ _ _ _⟩
end Go.Proofs.YtjddhakaebkkeaaDoor
