/-
  Package lexer: the text and the sign that a text begins with.
-/
import Derived.Test.YtfkfljpajeeclaaDoorLxG
namespace Go.Proofs.YtfkfljpajeeclaaDoor
open Go.RowKit
attribute [local go_sem ↓] Go.wp_at_zero Go.wp_at_succ

theorem clone_any (w : World) (s : ByteArray) (h : s.size ≤ 281474976710656) : Calls Tryd.prog 69 #[.string s] w fun e w' => e = .returned (.string s) ∧ Below w.heap.size w w' := by
  have C := hide (fun wx => Tryd.stringslite_Clone s wx h)
  go_enter Tryd.func69, Tryd.ntmps69
  go_wp2_with (go_at_call 83; refine (C.out _).mono ?_; rintro e w1 ⟨rfl, hz⟩)
  go_ret
  exact ⟨rfl, hz⟩

theorem ext_mid (s : ByteArray) (n : Nat) (c : UInt8) (r : List UInt8) (h : s.data.toList = c :: r) : s.extract 1 (n + 1) = ⟨(r.take n).toArray⟩ := by
  apply ByteArray.ext
  rw [ByteArray.data_extract]
  apply Array.toList_inj.1
  rw [Array.toList_extract, h]
  simp [List.extract_eq_take_drop]
theorem tw_len (t : List UInt8) : (Lx.tw t).length ≤ 2 * t.length := by
  induction t with
  | nil => simp [Lx.tw]
  | cons c s ih => rw [Lx.tw_cons, List.length_append, List.length_cons]; split <;> simp <;> omega
theorem tw_ge (t : List UInt8) : t.length ≤ (Lx.tw t).length := by
  induction t with
  | nil => simp [Lx.tw]
  | cons c s ih => rw [Lx.tw_cons, List.length_append, List.length_cons]; split <;> simp <;> omega

theorem single_any (w : World) (said : List UInt8) (hl : (Lx.tw said).length ≤ 1000000) (hT : Tab2 w) : Calls Tryd.prog 67 #[.string ⟨(Lx.tw said).toArray⟩, .string ⟨#[39, 39]⟩, .string ⟨#[39]⟩] w fun e w' => e = .returned (.string ⟨said.toArray⟩) ∧ Below w.heap.size w w' := by
  obtain ⟨m, hm⟩ := hT.max
  have hz : (⟨(Lx.tw said).toArray⟩ : ByteArray).size ≤ 1000000 := by show (Lx.tw said).toArray.size ≤ _; rw [List.size_toArray]; exact hl
  have c := Lib.countB_mul_le ⟨#[39, 39]⟩ (by decide) _ (⟨(Lx.tw said).toArray⟩ : ByteArray) (Nat.le_refl _)
  have hs : (⟨#[39, 39]⟩ : ByteArray).size = 2 := rfl
  have hs2 : (⟨#[39]⟩ : ByteArray).size = 1 := rfl
  have := Tryd.strings_ReplaceAll ⟨(Lx.tw said).toArray⟩ ⟨#[39, 39]⟩ ⟨#[39]⟩ m w (by omega) hm (by decide) (by rw [hs2]; rw [hs] at c; omega)
  rw [show (⟨#[39, 39]⟩ : ByteArray).data.toList = [39, 39] from rfl, show (⟨#[39]⟩ : ByteArray).data.toList = [39] from rfl, show (⟨(Lx.tw said).toArray⟩ : ByteArray).data.toList = Lx.tw said from by simp, Lx.replaceAll_tw] at this
  exact this

set_option maxRecDepth 100000 in
set_option maxHeartbeats 6400000 in
theorem firstText_any (w : World) (s : ByteArray) (r : List UInt8) (hs : s.size ≤ 100000) (h39 : s.data.toList = 39 :: r) (hT : Tab2 w) : Calls Tryd.prog 38 #[.string s] w fun e w' => e = .returned (nxV (Lx.textN s.data.toList)) ∧ Below w.heap.size w w' := by
  have HW := hide (fun wx => widthText_any wx s (by unfold maxLen; omega))
  have hlen := l_size s
  rw [h39] at HW hlen
  simp only [List.length_cons] at hlen
  have hw : Lx.wt false (39 :: r) 0 = Lx.wt true r 1 := rfl
  rw [hw, Lx.wt_scan] at HW
  have hTN : Lx.textN (39 :: r) = match Lx.scanT r with
    | none => .err 231
    | some (said, n) => if Lib.validD said then (if said.length > 64 then .err 3 else .tok ⟨3, said, 0, 0⟩ (n + 1)) else .err 232 := rfl
  rw [h39, hTN]
  have TT := hide hT
  clear hT
  cases hsc : Lx.scanT r with
  | none =>
    rw [hsc] at HW
    simp only at HW ⊢
    have HN : Hid (nxV (.err 231) = .tuple #[noTok, .int .i64 0, .int .i64 231]) := rfl
    rw [HN.out]
    clear hsc hTN hw HN h39 hlen
    go_enter Tryd.func38, Tryd.ntmps38
    go_wp2_with (go_at_call 66; refine (HW.out _).mono ?_; rintro e w1 ⟨rfl, hz⟩; obtain ⟨p, b⟩ := tk_mid hz; obtain ⟨y0, y1, y2, y3, u0, u1, u2, u3, lt⟩ := slot4 p; clear hz)
    exact bodyPost_ret (v := .tuple #[noTok, .int .i64 0, .int .i64 231]) (by simp [results, Tryd.results38, go_sem, y0, y1, y2, y3, noTok]; try rfl) rfl ⟨rfl, by first | exact b | exact below4 b (Nat.le_refl _) _ _ _ _⟩
  | some x =>
    obtain ⟨said, n⟩ := x
    rw [hsc] at HW
    simp only at HW ⊢
    have hle := Lx.scanT_le r said n hsc
    have htk := Lx.scan_take r said n hsc
    obtain ⟨m, rfl⟩ : ∃ m, n = m + 1 := ⟨n - 1, by omega⟩
    rw [Nat.add_sub_cancel] at htk
    have htl : (Lx.tw said).length ≤ m := by rw [← htk]; exact List.length_take_le _ _
    have hsl : said.length ≤ m := Nat.le_trans (tw_ge said) htl
    have hex := ext_mid s m 39 r h39
    rw [htk] at hex
    have RA := hide (fun wx h => single_any wx said (by omega) h)
    rw [← hex] at RA
    have hsz : (⟨said.toArray⟩ : ByteArray).size = said.length := by show said.toArray.size = _; rw [List.size_toArray]
    have UT := hide (fun wx h => isUTF8_any wx ⟨said.toArray⟩ (by unfold maxLen; rw [hsz]; omega) h)
    rw [show (⟨said.toArray⟩ : ByteArray).data.toList = said from by simp] at UT
    have CL := hide (fun wx => clone_any wx ⟨said.toArray⟩ (by rw [hsz]; omega))
    obtain ⟨S, hS⟩ : ∃ S : ByteArray, S = ⟨said.toArray⟩ := ⟨_, rfl⟩
    rw [← hS] at RA UT CL hsz
    rw [show 1 + (m + 1) = m + 2 from by omega] at HW
    have hms : m + 2 ≤ s.size := by omega
    obtain ⟨L, hL⟩ : ∃ L, L = said.length := ⟨_, rfl⟩
    rw [← hL] at hsz
    cases hv : Lib.validD said
    · rw [hv] at UT
      simp only [Bool.false_eq_true, if_false]
      have HN : Hid (nxV (.err 232) = .tuple #[noTok, .int .i64 0, .int .i64 232]) := rfl
      rw [HN.out]
      clear hsc hTN hw HN h39 hlen hS hle htk htl hsl hex hv CL hL
      go_enter Tryd.func38, Tryd.ntmps38
      go_wp2_with (first
        | (go_at_call 66; refine (HW.out _).mono ?_; rintro e w1 ⟨rfl, hz⟩; obtain ⟨p, b⟩ := tk_mid hz; clear hz)
        | (go_at_call 67; refine (RA.out _ (TT.out.later b)).mono ?_; rintro e w2 ⟨rfl, hz⟩; obtain ⟨p2, b2⟩ := tk_more p b (Nat.le_refl _) hz; clear hz)
        | (go_at_call 68; refine (UT.out _ (TT.out.later b2).utf).mono ?_; rintro e w3 ⟨rfl, hz⟩; obtain ⟨p3, b3⟩ := tk_more p2 b2 (Nat.le_refl _) hz; obtain ⟨y0, y1, y2, y3, u0, u1, u2, u3, lt⟩ := slot4 p3; clear hz))
      exact bodyPost_ret (v := .tuple #[noTok, .int .i64 0, .int .i64 232]) (by simp [results, Tryd.results38, go_sem, y0, y1, y2, y3, noTok]; try rfl) rfl ⟨rfl, by first | exact b3 | exact below4 b3 (Nat.le_refl _) _ _ _ _⟩
    · rw [hv] at UT
      rw [if_pos rfl]
      rw [← hL]
      by_cases h64 : L > 64
      · rw [if_pos h64]
        have HN : Hid (nxV (.err 3) = .tuple #[noTok, .int .i64 0, .int .i64 3]) := rfl
        rw [HN.out]
        have h64i : (S.size : Int) > 64 := by omega
        clear hsc hTN hw HN h39 hlen hS hle htk htl hsl hex hv CL hL hsz h64
        go_enter Tryd.func38, Tryd.ntmps38
        go_wp2_with (first
          | (go_at_call 66; refine (HW.out _).mono ?_; rintro e w1 ⟨rfl, hz⟩; obtain ⟨p, b⟩ := tk_mid hz; clear hz)
          | (go_at_call 67; refine (RA.out _ (TT.out.later b)).mono ?_; rintro e w2 ⟨rfl, hz⟩; obtain ⟨p2, b2⟩ := tk_more p b (Nat.le_refl _) hz; clear hz)
          | (go_at_call 68; refine (UT.out _ (TT.out.later b2).utf).mono ?_; rintro e w3 ⟨rfl, hz⟩; obtain ⟨p3, b3⟩ := tk_more p2 b2 (Nat.le_refl _) hz; obtain ⟨y0, y1, y2, y3, u0, u1, u2, u3, lt⟩ := slot4 p3; clear hz))
        exact bodyPost_ret (v := .tuple #[noTok, .int .i64 0, .int .i64 3]) (by simp [results, Tryd.results38, go_sem, y0, y1, y2, y3, noTok]; try rfl) rfl ⟨rfl, by first | exact b3 | exact below4 b3 (Nat.le_refl _) _ _ _ _⟩
      · rw [if_neg h64]
        have HN : Hid (nxV (.tok ⟨3, said, 0, 0⟩ (m + 1 + 1)) = .tuple #[.agg #[.int .u8 3, .string S, .int .u64 0, .int .i64 0], .int .i64 ((m : Int) + 2), .int .i64 0]) := by rw [hS]; rfl
        rw [HN.out]
        have h64i : ¬ (S.size : Int) > 64 := by omega
        clear hsc hTN hw HN h39 hlen hS hle htk htl hsl hex hv hL hsz h64
        go_enter Tryd.func38, Tryd.ntmps38
        go_wp2_with (first
          | (go_at_call 66; refine (HW.out _).mono ?_; rintro e w1 ⟨rfl, hz⟩; obtain ⟨p, b⟩ := tk_mid hz; clear hz)
          | (go_at_call 67; refine (RA.out _ (TT.out.later b)).mono ?_; rintro e w2 ⟨rfl, hz⟩; obtain ⟨p2, b2⟩ := tk_more p b (Nat.le_refl _) hz; clear hz)
          | (go_at_call 68; refine (UT.out _ (TT.out.later b2).utf).mono ?_; rintro e w3 ⟨rfl, hz⟩; obtain ⟨p3, b3⟩ := tk_more p2 b2 (Nat.le_refl _) hz; clear hz)
          | (go_at_call 69; refine (CL.out _).mono ?_; rintro e w4 ⟨rfl, hz⟩; obtain ⟨p4, b4⟩ := tk_more p3 b3 (Nat.le_refl _) hz; obtain ⟨y0, y1, y2, y3, u0, u1, u2, u3, lt⟩ := slot4 p4; clear hz))
        exact bodyPost_ret (v := .tuple #[.agg #[.int .u8 3, .string S, .int .u64 0, .int .i64 0], .int .i64 ((m : Int) + 2), .int .i64 0]) (by simp [results, Tryd.results38, go_sem, y0, y1, y2, y3]; try rfl) rfl ⟨rfl, by first | exact b4 | exact below4 b4 (Nat.le_refl _) _ _ _ _⟩
end Go.Proofs.YtfkfljpajeeclaaDoor
