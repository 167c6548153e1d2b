/-
  Package lexer: the token that a text begins with: a word, a number, a text, a sign. .. and what follows from it.
-/
import Derived.Test.YtedamaccflhmfaaGreatDoorLxF
import Derived.Lib.SmallJoins
namespace Go.Proofs.YtedamaccflhmfaaGreatDoor
open Go.RowKit
attribute [local go_sem ↓] Go.wp_at_zero Go.wp_at_succ

theorem slot4 {w : World} {B : Nat} {x y z u : Value} {t : TypeId} (h : w.heap[B]? = some (.cells #[x, y, z, u] t (0, 0))) : w.cell? ⟨B, 0, none⟩ = some x ∧ w.cell? ⟨B, 1, none⟩ = some y ∧ w.cell? ⟨B, 2, none⟩ = some z ∧ w.cell? ⟨B, 3, none⟩ = some u ∧ w.frozen? ⟨B, 0, none⟩ = false ∧ w.frozen? ⟨B, 1, none⟩ = false ∧ w.frozen? ⟨B, 2, none⟩ = false ∧ w.frozen? ⟨B, 3, none⟩ = false ∧ B < w.heap.size :=
  ⟨Joins.cell_of_block h 0, Joins.cell_of_block h 1, Joins.cell_of_block h 2, Joins.cell_of_block h 3, Joins.unfrozen_of_block h 0, Joins.unfrozen_of_block h 1, Joins.unfrozen_of_block h 2, Joins.unfrozen_of_block h 3, (Array.getElem?_eq_some_iff.1 h).1⟩
/-- A token as a value; what the reading of one answers. -/
def tokV (x : Lx.Tk) : Value := .agg #[.int .u8 x.k, .string ⟨x.t.toArray⟩, .int .u64 x.n, .int .i64 x.at']
def noTok : Value := .agg #[.int .u8 0, .string ⟨#[]⟩, .int .u64 0, .int .i64 0]
def nxV : Lx.Nx → Value
  | .tok x n => .tuple #[tokV x, .int .i64 n, .int .i64 0]
  | .err e => .tuple #[noTok, .int .i64 0, .int .i64 e]
/-- The call's own result, four cells that nobody has written yet. -/
abbrev tk0 : Obj := .cells #[.int .u8 0, .string ⟨#[]⟩, .int .u64 0, .int .i64 0] 60
theorem tk_mid {w w2 : World} {x y z u : Value} {t : TypeId} (hb : Below (w.alloc (.cells #[x, y, z, u] t)).heap.size (w.alloc (.cells #[x, y, z, u] t)) w2) : w2.heap[w.heap.size]? = some (.cells #[x, y, z, u] t (0, 0)) ∧ Below w.heap.size w w2 := by
  refine ⟨(hb.block _ (by simp)).trans ?_, ((Below.refl _ w).alloc (Nat.le_refl _) _).trans (hb.mono (by simp))⟩
  show (w.heap.push _)[w.heap.size]? = _
  simp
theorem tk_more {w w2 w3 : World} {B : Nat} {o : Obj} (h : w2.heap[w.heap.size]? = some o) (hb : Below B w w2) (hB : B ≤ w.heap.size) (h3 : Below w2.heap.size w2 w3) : w3.heap[w.heap.size]? = some o ∧ Below B w w3 := by
  have hl := (Array.getElem?_eq_some_iff.1 h).1
  exact ⟨(h3.block _ hl).trans h, hb.trans (h3.mono (by omega))⟩
theorem below4 {w w2 : World} {B : Nat} (hb : Below B w w2) (hB : B ≤ w.heap.size) (a b c d : Value) : Below B w ((((w2.setCell ⟨w.heap.size, 0, none⟩ a).setCell ⟨w.heap.size, 1, none⟩ b).setCell ⟨w.heap.size, 2, none⟩ c).setCell ⟨w.heap.size, 3, none⟩ d) :=
  (((hb.setCell hB _).setCell hB _).setCell hB _).setCell hB _

theorem take_ext (s : ByteArray) (n : Nat) : s.extract 0 n = ⟨(s.data.toList.take n).toArray⟩ := by
  apply ByteArray.ext
  rw [ByteArray.data_extract]
  apply Array.toList_inj.1
  simp

set_option maxRecDepth 100000 in
set_option maxHeartbeats 3200000 in
theorem firstWord_any (w : World) (s : ByteArray) (hs : s.size ≤ 1099511627776) : Calls Tryz.prog 57 #[.string s] w fun e w' => e = .returned (nxV (Lx.wordN s.data.toList)) ∧ Below w.heap.size w w' := by
  obtain ⟨W, hW⟩ : ∃ W, W = Lx.wordW s.data.toList := ⟨_, rfl⟩
  have hle : W ≤ s.size := by rw [hW, ← l_size]; exact Lx.tw_le _ _
  have HW := hide (fun wx => widthWord_any wx s (by unfold maxLen; omega))
  rw [← hW] at HW
  by_cases h32 : W > 32
  · have HN : Hid (nxV (Lx.wordN s.data.toList) = .tuple #[noTok, .int .i64 0, .int .i64 3]) := by
      show _ = _
      unfold Lx.wordN; rw [← hW, if_pos h32]; rfl
    rw [HN.out]
    have h32i : (W : Int) > 32 := by omega
    clear h32 hW HN
    go_enter Tryz.func57, Tryz.ntmps57
    go_wp2_with (go_at_call 98; refine (HW.out _).mono ?_; rintro e w1 ⟨rfl, hz⟩; obtain ⟨p, b⟩ := tk_mid hz; obtain ⟨y0, y1, y2, y3, u0, u1, u2, u3, lt⟩ := slot4 p; clear hz)
    exact bodyPost_ret (v := .tuple #[noTok, .int .i64 0, .int .i64 3]) (by simp [results, Tryz.results57, go_sem, y0, y1, y2, y3, noTok]; try rfl) rfl ⟨rfl, by first | exact b | exact below4 b (Nat.le_refl _) _ _ _ _⟩
  · have HN : Hid (nxV (Lx.wordN s.data.toList) = .tuple #[.agg #[.int .u8 1, .string ⟨((s.data.toList.take W).map Lx.low).toArray⟩, .int .u64 0, .int .i64 0], .int .i64 W, .int .i64 0]) := by
      show _ = _
      unfold Lx.wordN; rw [← hW, if_neg h32]; rfl
    rw [HN.out]
    have h32i : ¬ (W : Int) > 32 := by omega
    have SM : Hid (∀ wx, Calls Tryz.prog 100 #[.string (s.extract 0 W)] wx fun e w' => e = .returned (.string ⟨((s.data.toList.take W).map Lx.low).toArray⟩) ∧ Below wx.heap.size wx w') := fun wx => by
      have := small_any wx (s.extract 0 W) (by rw [ByteArray.size_extract]; omega) (by
        rw [take_ext]
        intro c hc
        have e : s.data.toList.take W = s.data.toList.takeWhile Lx.inw := by rw [hW]; exact Lx.take_tw _ _
        simp only at hc
        rw [List.toList_toArray, e] at hc
        exact Lx.tw_all _ _ c hc)
      rw [take_ext] at this ⊢
      simpa using this
    obtain ⟨T, hT⟩ : ∃ T : ByteArray, T = ⟨((s.data.toList.take W).map Lx.low).toArray⟩ := ⟨_, rfl⟩
    rw [← hT] at SM ⊢
    clear h32 hW HN hT
    go_enter Tryz.func57, Tryz.ntmps57
    go_wp2_with (first
      | (go_at_call 98; refine (HW.out _).mono ?_; rintro e w1 ⟨rfl, hz⟩; obtain ⟨p, b⟩ := tk_mid hz; clear hz)
      | (go_at_call 100; refine (SM.out _).mono ?_; rintro e w2 ⟨rfl, hz⟩; obtain ⟨p2, b2⟩ := tk_more p b (Nat.le_refl _) hz; obtain ⟨y0, y1, y2, y3, u0, u1, u2, u3, lt⟩ := slot4 p2; clear hz))
    exact bodyPost_ret (v := .tuple #[.agg #[.int .u8 1, .string T, .int .u64 0, .int .i64 0], .int .i64 W, .int .i64 0]) (by simp [results, Tryz.results57, go_sem, y0, y1, y2, y3]; try rfl) rfl ⟨rfl, by first | exact b2 | exact below4 b2 (Nat.le_refl _) _ _ _ _⟩

set_option maxRecDepth 100000 in
set_option maxHeartbeats 3200000 in
theorem firstNumber_any (w : World) (s : ByteArray) (hs : s.size ≤ 1099511627776) : Calls Tryz.prog 59 #[.string s] w fun e w' => e = .returned (nxV (Lx.numN s.data.toList)) ∧ Below w.heap.size w w' := by
  obtain ⟨W, hW⟩ : ∃ W, W = Lx.numW s.data.toList := ⟨_, rfl⟩
  have hle : W ≤ s.size := by rw [hW, ← l_size]; exact Lx.tw_le _ _
  have HW := hide (fun wx => widthNum_any wx s (by unfold maxLen; omega))
  rw [← hW] at HW
  have NU : Hid (∀ wx, Calls Tryz.prog 101 #[.string (s.extract 0 W)] wx fun e w' => e = .returned (.tuple #[.int .u64 (digV (s.data.toList.take W)), .int .i64 (digE (s.data.toList.take W))]) ∧ Below wx.heap.size wx w') := fun wx => by
    have := numberOf_any wx (s.extract 0 W) (by unfold maxLen; rw [ByteArray.size_extract]; omega) (by
      rw [take_ext]
      intro c hc
      have e : s.data.toList.take W = s.data.toList.takeWhile Lx.dg := by rw [hW]; exact Lx.take_tw _ _
      simp only at hc
      rw [List.toList_toArray, e] at hc
      exact Lx.tw_all _ _ c hc)
    rw [take_ext] at this ⊢
    simpa using this
  cases hg : Lx.numG (s.data.toList.take W) 0 with
  | none =>
    have HN : Hid (nxV (Lx.numN s.data.toList) = .tuple #[noTok, .int .i64 0, .int .i64 233]) := by
      show _ = _
      unfold Lx.numN; rw [← hW, hg]; rfl
    rw [HN.out]
    obtain ⟨V, hV⟩ : ∃ V : Int, V = (digV (s.data.toList.take W) : Nat) := ⟨_, rfl⟩
    rw [← hV, show digE (s.data.toList.take W) = 233 from by unfold digE; rw [hg]; rfl] at NU
    clear hW HN hg hV
    go_enter Tryz.func59, Tryz.ntmps59
    go_wp2_with (first
      | (go_at_call 98; refine (HW.out _).mono ?_; rintro e w1 ⟨rfl, hz⟩; obtain ⟨p, b⟩ := tk_mid hz; clear hz)
      | (go_at_call 101; refine (NU.out _).mono ?_; rintro e w2 ⟨rfl, hz⟩; obtain ⟨p2, b2⟩ := tk_more p b (Nat.le_refl _) hz; obtain ⟨y0, y1, y2, y3, u0, u1, u2, u3, lt⟩ := slot4 p2; clear hz))
    exact bodyPost_ret (v := .tuple #[noTok, .int .i64 0, .int .i64 233]) (by simp [results, Tryz.results59, go_sem, y0, y1, y2, y3, noTok]; try rfl) rfl ⟨rfl, by first | exact b2 | exact below4 b2 (Nat.le_refl _) _ _ _ _⟩
  | some n =>
    have HN : Hid (nxV (Lx.numN s.data.toList) = .tuple #[.agg #[.int .u8 2, .string ⟨#[]⟩, .int .u64 n, .int .i64 0], .int .i64 W, .int .i64 0]) := by
      show _ = _
      unfold Lx.numN; rw [← hW, hg]; rfl
    rw [HN.out]
    rw [show digV (s.data.toList.take W) = n from by unfold digV; rw [hg]; rfl, show digE (s.data.toList.take W) = 0 from by unfold digE; rw [hg]; rfl] at NU
    clear hW HN hg
    go_enter Tryz.func59, Tryz.ntmps59
    go_wp2_with (first
      | (go_at_call 98; refine (HW.out _).mono ?_; rintro e w1 ⟨rfl, hz⟩; obtain ⟨p, b⟩ := tk_mid hz; clear hz)
      | (go_at_call 101; refine (NU.out _).mono ?_; rintro e w2 ⟨rfl, hz⟩; obtain ⟨p2, b2⟩ := tk_more p b (Nat.le_refl _) hz; obtain ⟨y0, y1, y2, y3, u0, u1, u2, u3, lt⟩ := slot4 p2; clear hz))
    exact bodyPost_ret (v := .tuple #[.agg #[.int .u8 2, .string ⟨#[]⟩, .int .u64 n, .int .i64 0], .int .i64 W, .int .i64 0]) (by simp [results, Tryz.results59, go_sem, y0, y1, y2, y3]; try rfl) rfl ⟨rfl, by first | exact b2 | exact below4 b2 (Nat.le_refl _) _ _ _ _⟩
end Go.Proofs.YtedamaccflhmfaaGreatDoor
namespace Go.Proofs.YtedamaccflhmfaaGreatDoor
open Go.RowKit
attribute [local go_sem ↓] Go.wp_at_zero Go.wp_at_succ

theorem clone_any (w : World) (s : ByteArray) (h : s.size ≤ 281474976710656) : Calls Tryz.prog 105 #[.string s] w fun e w' => e = .returned (.string s) ∧ Below w.heap.size w w' := by
  have C := hide (fun wx => Tryz.stringslite_Clone s wx h)
  go_enter Tryz.func105, Tryz.ntmps105
  go_wp2_with (go_at_call 154; refine (C.out _).mono ?_; rintro e w1 ⟨rfl, hz⟩)
  go_ret
  exact ⟨rfl, hz⟩

theorem ext_mid (s : ByteArray) (n : Nat) (c : UInt8) (r : List UInt8) (h : s.data.toList = c :: r) : s.extract 1 (n + 1) = ⟨(r.take n).toArray⟩ := by
  apply ByteArray.ext
  rw [ByteArray.data_extract]
  apply Array.toList_inj.1
  rw [Array.toList_extract, h]
  simp [List.extract_eq_take_drop]
theorem tw_len (t : List UInt8) : (Lx.tw t).length ≤ 2 * t.length := by
  induction t with
  | nil => simp [Lx.tw]
  | cons c s ih => rw [Lx.tw_cons, List.length_append, List.length_cons]; split <;> simp <;> omega
theorem tw_ge (t : List UInt8) : t.length ≤ (Lx.tw t).length := by
  induction t with
  | nil => simp [Lx.tw]
  | cons c s ih => rw [Lx.tw_cons, List.length_append, List.length_cons]; split <;> simp <;> omega

theorem single_any (w : World) (said : List UInt8) (hl : (Lx.tw said).length ≤ 1000000) (hT : Tab2 w) : Calls Tryz.prog 103 #[.string ⟨(Lx.tw said).toArray⟩, .string ⟨#[39, 39]⟩, .string ⟨#[39]⟩] w fun e w' => e = .returned (.string ⟨said.toArray⟩) ∧ Below w.heap.size w w' := by
  obtain ⟨m, hm⟩ := hT.max
  have hz : (⟨(Lx.tw said).toArray⟩ : ByteArray).size ≤ 1000000 := by show (Lx.tw said).toArray.size ≤ _; rw [List.size_toArray]; exact hl
  have c := Lib.countB_mul_le ⟨#[39, 39]⟩ (by decide) _ (⟨(Lx.tw said).toArray⟩ : ByteArray) (Nat.le_refl _)
  have hs : (⟨#[39, 39]⟩ : ByteArray).size = 2 := rfl
  have hs2 : (⟨#[39]⟩ : ByteArray).size = 1 := rfl
  have := Tryz.strings_ReplaceAll ⟨(Lx.tw said).toArray⟩ ⟨#[39, 39]⟩ ⟨#[39]⟩ m w (by omega) hm (by decide) (by rw [hs2]; rw [hs] at c; omega)
  rw [show (⟨#[39, 39]⟩ : ByteArray).data.toList = [39, 39] from rfl, show (⟨#[39]⟩ : ByteArray).data.toList = [39] from rfl, show (⟨(Lx.tw said).toArray⟩ : ByteArray).data.toList = Lx.tw said from by simp, Lx.replaceAll_tw] at this
  exact this

set_option maxRecDepth 100000 in
set_option maxHeartbeats 6400000 in
theorem firstText_any (w : World) (s : ByteArray) (r : List UInt8) (hs : s.size ≤ 100000) (h39 : s.data.toList = 39 :: r) (hT : Tab2 w) : Calls Tryz.prog 60 #[.string s] w fun e w' => e = .returned (nxV (Lx.textN s.data.toList)) ∧ Below w.heap.size w w' := by
  have HW := hide (fun wx => widthText_any wx s (by unfold maxLen; omega))
  have hlen := l_size s
  rw [h39] at HW hlen
  simp only [List.length_cons] at hlen
  have hw : Lx.wt false (39 :: r) 0 = Lx.wt true r 1 := rfl
  rw [hw, Lx.wt_scan] at HW
  have hTN : Lx.textN (39 :: r) = match Lx.scanT r with
    | none => .err 231
    | some (said, n) => if Lib.validD said then (if said.length > 64 then .err 3 else .tok ⟨3, said, 0, 0⟩ (n + 1)) else .err 232 := rfl
  rw [h39, hTN]
  have TT := hide hT
  clear hT
  cases hsc : Lx.scanT r with
  | none =>
    rw [hsc] at HW
    simp only at HW ⊢
    have HN : Hid (nxV (.err 231) = .tuple #[noTok, .int .i64 0, .int .i64 231]) := rfl
    rw [HN.out]
    clear hsc hTN hw HN h39 hlen
    go_enter Tryz.func60, Tryz.ntmps60
    go_wp2_with (go_at_call 102; refine (HW.out _).mono ?_; rintro e w1 ⟨rfl, hz⟩; obtain ⟨p, b⟩ := tk_mid hz; obtain ⟨y0, y1, y2, y3, u0, u1, u2, u3, lt⟩ := slot4 p; clear hz)
    exact bodyPost_ret (v := .tuple #[noTok, .int .i64 0, .int .i64 231]) (by simp [results, Tryz.results60, go_sem, y0, y1, y2, y3, noTok]; try rfl) rfl ⟨rfl, by first | exact b | exact below4 b (Nat.le_refl _) _ _ _ _⟩
  | some x =>
    obtain ⟨said, n⟩ := x
    rw [hsc] at HW
    simp only at HW ⊢
    have hle := Lx.scanT_le r said n hsc
    have htk := Lx.scan_take r said n hsc
    obtain ⟨m, rfl⟩ : ∃ m, n = m + 1 := ⟨n - 1, by omega⟩
    rw [Nat.add_sub_cancel] at htk
    have htl : (Lx.tw said).length ≤ m := by rw [← htk]; exact List.length_take_le _ _
    have hsl : said.length ≤ m := Nat.le_trans (tw_ge said) htl
    have hex := ext_mid s m 39 r h39
    rw [htk] at hex
    have RA := hide (fun wx h => single_any wx said (by omega) h)
    rw [← hex] at RA
    have hsz : (⟨said.toArray⟩ : ByteArray).size = said.length := by show said.toArray.size = _; rw [List.size_toArray]
    have UT := hide (fun wx h => isUTF8_any wx ⟨said.toArray⟩ (by unfold maxLen; rw [hsz]; omega) h)
    rw [show (⟨said.toArray⟩ : ByteArray).data.toList = said from by simp] at UT
    have CL := hide (fun wx => clone_any wx ⟨said.toArray⟩ (by rw [hsz]; omega))
    obtain ⟨S, hS⟩ : ∃ S : ByteArray, S = ⟨said.toArray⟩ := ⟨_, rfl⟩
    rw [← hS] at RA UT CL hsz
    rw [show 1 + (m + 1) = m + 2 from by omega] at HW
    have hms : m + 2 ≤ s.size := by omega
    obtain ⟨L, hL⟩ : ∃ L, L = said.length := ⟨_, rfl⟩
    rw [← hL] at hsz
    cases hv : Lib.validD said
    · rw [hv] at UT
      simp only [Bool.false_eq_true, if_false]
      have HN : Hid (nxV (.err 232) = .tuple #[noTok, .int .i64 0, .int .i64 232]) := rfl
      rw [HN.out]
      clear hsc hTN hw HN h39 hlen hS hle htk htl hsl hex hv CL hL
      go_enter Tryz.func60, Tryz.ntmps60
      go_wp2_with (first
        | (go_at_call 102; refine (HW.out _).mono ?_; rintro e w1 ⟨rfl, hz⟩; obtain ⟨p, b⟩ := tk_mid hz; clear hz)
        | (go_at_call 103; refine (RA.out _ (TT.out.later b)).mono ?_; rintro e w2 ⟨rfl, hz⟩; obtain ⟨p2, b2⟩ := tk_more p b (Nat.le_refl _) hz; clear hz)
        | (go_at_call 104; refine (UT.out _ (TT.out.later b2).utf).mono ?_; rintro e w3 ⟨rfl, hz⟩; obtain ⟨p3, b3⟩ := tk_more p2 b2 (Nat.le_refl _) hz; obtain ⟨y0, y1, y2, y3, u0, u1, u2, u3, lt⟩ := slot4 p3; clear hz))
      exact bodyPost_ret (v := .tuple #[noTok, .int .i64 0, .int .i64 232]) (by simp [results, Tryz.results60, go_sem, y0, y1, y2, y3, noTok]; try rfl) rfl ⟨rfl, by first | exact b3 | exact below4 b3 (Nat.le_refl _) _ _ _ _⟩
    · rw [hv] at UT
      rw [if_pos rfl]
      rw [← hL]
      by_cases h64 : L > 64
      · rw [if_pos h64]
        have HN : Hid (nxV (.err 3) = .tuple #[noTok, .int .i64 0, .int .i64 3]) := rfl
        rw [HN.out]
        have h64i : (S.size : Int) > 64 := by omega
        clear hsc hTN hw HN h39 hlen hS hle htk htl hsl hex hv CL hL hsz h64
        go_enter Tryz.func60, Tryz.ntmps60
        go_wp2_with (first
          | (go_at_call 102; refine (HW.out _).mono ?_; rintro e w1 ⟨rfl, hz⟩; obtain ⟨p, b⟩ := tk_mid hz; clear hz)
          | (go_at_call 103; refine (RA.out _ (TT.out.later b)).mono ?_; rintro e w2 ⟨rfl, hz⟩; obtain ⟨p2, b2⟩ := tk_more p b (Nat.le_refl _) hz; clear hz)
          | (go_at_call 104; refine (UT.out _ (TT.out.later b2).utf).mono ?_; rintro e w3 ⟨rfl, hz⟩; obtain ⟨p3, b3⟩ := tk_more p2 b2 (Nat.le_refl _) hz; obtain ⟨y0, y1, y2, y3, u0, u1, u2, u3, lt⟩ := slot4 p3; clear hz))
        exact bodyPost_ret (v := .tuple #[noTok, .int .i64 0, .int .i64 3]) (by simp [results, Tryz.results60, go_sem, y0, y1, y2, y3, noTok]; try rfl) rfl ⟨rfl, by first | exact b3 | exact below4 b3 (Nat.le_refl _) _ _ _ _⟩
      · rw [if_neg h64]
        have HN : Hid (nxV (.tok ⟨3, said, 0, 0⟩ (m + 1 + 1)) = .tuple #[.agg #[.int .u8 3, .string S, .int .u64 0, .int .i64 0], .int .i64 ((m : Int) + 2), .int .i64 0]) := by rw [hS]; rfl
        rw [HN.out]
        have h64i : ¬ (S.size : Int) > 64 := by omega
        clear hsc hTN hw HN h39 hlen hS hle htk htl hsl hex hv hL hsz h64
        go_enter Tryz.func60, Tryz.ntmps60
        go_wp2_with (first
          | (go_at_call 102; refine (HW.out _).mono ?_; rintro e w1 ⟨rfl, hz⟩; obtain ⟨p, b⟩ := tk_mid hz; clear hz)
          | (go_at_call 103; refine (RA.out _ (TT.out.later b)).mono ?_; rintro e w2 ⟨rfl, hz⟩; obtain ⟨p2, b2⟩ := tk_more p b (Nat.le_refl _) hz; clear hz)
          | (go_at_call 104; refine (UT.out _ (TT.out.later b2).utf).mono ?_; rintro e w3 ⟨rfl, hz⟩; obtain ⟨p3, b3⟩ := tk_more p2 b2 (Nat.le_refl _) hz; clear hz)
          | (go_at_call 105; refine (CL.out _).mono ?_; rintro e w4 ⟨rfl, hz⟩; obtain ⟨p4, b4⟩ := tk_more p3 b3 (Nat.le_refl _) hz; obtain ⟨y0, y1, y2, y3, u0, u1, u2, u3, lt⟩ := slot4 p4; clear hz))
        exact bodyPost_ret (v := .tuple #[.agg #[.int .u8 3, .string S, .int .u64 0, .int .i64 0], .int .i64 ((m : Int) + 2), .int .i64 0]) (by simp [results, Tryz.results60, go_sem, y0, y1, y2, y3]; try rfl) rfl ⟨rfl, by first | exact b4 | exact below4 b4 (Nat.le_refl _) _ _ _ _⟩
end Go.Proofs.YtedamaccflhmfaaGreatDoor
namespace Go.Proofs.YtedamaccflhmfaaGreatDoor
open Go.RowKit
attribute [local go_sem ↓] Go.wp_at_zero Go.wp_at_succ

theorem signAt_any (s : ByteArray) (k : Nat) (b : Bool) (hb : Lx.isS (s.data.toList.take k) = b) (w : World) : Calls Tryz.prog 106 #[.string (s.extract 0 k)] w fun e w' => e = .returned (.bool b) ∧ w' = w := by
  have := isSign_any w (s.extract 0 k)
  rw [take_ext] at this ⊢
  rw [show (⟨(s.data.toList.take k).toArray⟩ : ByteArray).data.toList = s.data.toList.take k from by simp, hb] at this
  exact this
theorem cloneAt_any (s : ByteArray) (k : Nat) (hs : s.size ≤ 100000) (w : World) : Calls Tryz.prog 105 #[.string (s.extract 0 k)] w fun e w' => e = .returned (.string (s.extract 0 k)) ∧ Below w.heap.size w w' :=
  clone_any w _ (by rw [ByteArray.size_extract]; omega)

set_option maxRecDepth 100000 in
set_option maxHeartbeats 6400000 in
theorem firstSign_any (w : World) (s : ByteArray) (h0 : 0 < s.size) (hs : s.size ≤ 100000) : Calls Tryz.prog 61 #[.string s] w fun e w' => e = .returned (nxV (Lx.signN s.data.toList)) ∧ Below w.heap.size w w' := by
  obtain ⟨S1, h1⟩ : ∃ S1, Lx.isS (s.data.toList.take 1) = S1 := ⟨_, rfl⟩
  obtain ⟨S2, h2⟩ : ∃ S2, Lx.isS (s.data.toList.take 2) = S2 := ⟨_, rfl⟩
  have I1 := hide (signAt_any s 1 S1 h1)
  have I2 := hide (signAt_any s 2 S2 h2)
  have C1 := hide (cloneAt_any s 1 hs)
  have C2 := hide (cloneAt_any s 2 hs)
  have e1 : (⟨(s.data.toList.take 1).toArray⟩ : ByteArray) = s.extract 0 1 := (take_ext s 1).symm
  have e2 : (⟨(s.data.toList.take 2).toArray⟩ : ByteArray) = s.extract 0 2 := (take_ext s 2).symm
  have HR : Hid (nxV (Lx.signN s.data.toList) = if 2 ≤ s.size ∧ S2 = true then .tuple #[.agg #[.int .u8 4, .string (s.extract 0 2), .int .u64 0, .int .i64 0], .int .i64 2, .int .i64 0] else if S1 = true then .tuple #[.agg #[.int .u8 4, .string (s.extract 0 1), .int .u64 0, .int .i64 0], .int .i64 1, .int .i64 0] else .tuple #[noTok, .int .i64 0, .int .i64 230]) := by
    show _ = _
    unfold Lx.signN
    rw [h1, h2, l_size, ← e1, ← e2]
    split
    · rfl
    · split <;> rfl
  clear h1 h2 e1 e2
  have B0 : Below w.heap.size w (w.alloc tk0) := (Below.refl _ _).alloc (Nat.le_refl _) _
  have P0 : (w.alloc tk0).heap[w.heap.size]? = some tk0 := by show (w.heap.push _)[w.heap.size]? = _; simp
  obtain ⟨R, hR⟩ : ∃ R, R = nxV (Lx.signN s.data.toList) := ⟨_, rfl⟩
  rw [← hR] at HR ⊢
  clear hR
  have hx1 : (1 : Int) ≤ s.size := by omega
  by_cases hz : s.size = 1
  · have hn2 : ¬ (2 ≤ s.size ∧ S2 = true) := by omega
    rw [if_neg hn2] at HR
    have hzi : (s.size : Int) = 1 := by omega
    clear hn2 I2 C2 hz h0
    cases S1
    · have HR2 : Hid (R = .tuple #[noTok, .int .i64 0, .int .i64 230]) := HR.out
      clear HR
      go_enter Tryz.func61, Tryz.ntmps61
      go_wp2
      go_loop [5] (fun v => v = .int .i64 1 ∨ v = .int .i64 0) (fun v => (intOf v).toNat)
      case atStart => first | exact .inl rfl | exact .inl (by simp [*]; try omega)
      case round =>
        rcases hrel with rfl | rfl
        · go_wp2_with (go_at_call 106; refine (I1.out _).mono ?_; rintro e w' ⟨rfl, rfl⟩)
          go_round
          case rel => exact .inr rfl
          case measure => decide
        · obtain ⟨y0, y1, y2, y3, u0, u1, u2, u3, lt⟩ := slot4 P0
          go_wp2
          exact bodyPost_ret (v := .tuple #[noTok, .int .i64 0, .int .i64 230]) (by simp [results, Tryz.results61, go_sem, y0, y1, y2, y3, noTok]; try rfl) rfl ⟨by rw [HR2.out], by first | exact B0 | exact below4 B0 (Nat.le_refl _) _ _ _ _⟩
    · have HR2 : Hid (R = .tuple #[.agg #[.int .u8 4, .string (s.extract 0 1), .int .u64 0, .int .i64 0], .int .i64 1, .int .i64 0]) := HR.out
      clear HR
      go_enter Tryz.func61, Tryz.ntmps61
      go_wp2
      go_loop [5] (fun v => v = .int .i64 1) (fun v => (intOf v).toNat)
      case atStart => first | exact rfl | exact (by simp [*]; try omega)
      case round =>
        subst hrel
        go_wp2_with (first
          | (go_at_call 106; refine (I1.out _).mono ?_; rintro e w' ⟨rfl, rfl⟩)
          | (go_at_call 105; refine (C1.out _).mono ?_; rintro e w2 ⟨rfl, hz⟩; obtain ⟨p, b⟩ := tk_mid hz; obtain ⟨y0, y1, y2, y3, u0, u1, u2, u3, lt⟩ := slot4 p; clear hz))
        exact bodyPost_ret (v := .tuple #[.agg #[.int .u8 4, .string (s.extract 0 1), .int .u64 0, .int .i64 0], .int .i64 1, .int .i64 0]) (by simp [results, Tryz.results61, go_sem, y0, y1, y2, y3]; try rfl) rfl ⟨by rw [HR2.out], by first | exact b | exact below4 b (Nat.le_refl _) _ _ _ _⟩
  · have hx2 : (2 : Int) ≤ s.size := by omega
    have hx3 : ¬ (s.size : Int) < 2 := by omega
    have h2 : 2 ≤ s.size := by omega
    clear hz h0
    cases S2
    · have HR : Hid (R = if S1 = true then .tuple #[.agg #[.int .u8 4, .string (s.extract 0 1), .int .u64 0, .int .i64 0], .int .i64 1, .int .i64 0] else .tuple #[noTok, .int .i64 0, .int .i64 230]) := by show _ = _; rw [HR.out, if_neg (by simp)]
      cases S1
      · have HR2 : Hid (R = .tuple #[noTok, .int .i64 0, .int .i64 230]) := HR.out
        clear HR
        go_enter Tryz.func61, Tryz.ntmps61
        go_wp2
        go_loop [5] (fun v => v = .int .i64 2 ∨ v = .int .i64 1 ∨ v = .int .i64 0) (fun v => (intOf v).toNat)
        case atStart => first | exact .inl rfl | exact .inl (by simp [*]; try omega)
        case round =>
          rcases hrel with rfl | rfl | rfl
          · go_wp2_with (go_at_call 106; refine (I2.out _).mono ?_; rintro e w' ⟨rfl, rfl⟩)
            go_round
            case rel => exact .inr (.inl rfl)
            case measure => decide
          · go_wp2_with (go_at_call 106; refine (I1.out _).mono ?_; rintro e w' ⟨rfl, rfl⟩)
            go_round
            case rel => exact .inr (.inr rfl)
            case measure => decide
          · obtain ⟨y0, y1, y2, y3, u0, u1, u2, u3, lt⟩ := slot4 P0
            go_wp2
            exact bodyPost_ret (v := .tuple #[noTok, .int .i64 0, .int .i64 230]) (by simp [results, Tryz.results61, go_sem, y0, y1, y2, y3, noTok]; try rfl) rfl ⟨by rw [HR2.out], by first | exact B0 | exact below4 B0 (Nat.le_refl _) _ _ _ _⟩
      · have HR2 : Hid (R = .tuple #[.agg #[.int .u8 4, .string (s.extract 0 1), .int .u64 0, .int .i64 0], .int .i64 1, .int .i64 0]) := HR.out
        clear HR
        go_enter Tryz.func61, Tryz.ntmps61
        go_wp2
        go_loop [5] (fun v => v = .int .i64 2 ∨ v = .int .i64 1) (fun v => (intOf v).toNat)
        case atStart => first | exact .inl rfl | exact .inl (by simp [*]; try omega)
        case round =>
          rcases hrel with rfl | rfl
          · go_wp2_with (go_at_call 106; refine (I2.out _).mono ?_; rintro e w' ⟨rfl, rfl⟩)
            go_round
            case rel => exact .inr rfl
            case measure => decide
          · go_wp2_with (first
              | (go_at_call 106; refine (I1.out _).mono ?_; rintro e w' ⟨rfl, rfl⟩)
              | (go_at_call 105; refine (C1.out _).mono ?_; rintro e w2 ⟨rfl, hz⟩; obtain ⟨p, b⟩ := tk_mid hz; obtain ⟨y0, y1, y2, y3, u0, u1, u2, u3, lt⟩ := slot4 p; clear hz))
            exact bodyPost_ret (v := .tuple #[.agg #[.int .u8 4, .string (s.extract 0 1), .int .u64 0, .int .i64 0], .int .i64 1, .int .i64 0]) (by simp [results, Tryz.results61, go_sem, y0, y1, y2, y3]; try rfl) rfl ⟨by rw [HR2.out], by first | exact b | exact below4 b (Nat.le_refl _) _ _ _ _⟩
    · have HR : Hid (R = .tuple #[.agg #[.int .u8 4, .string (s.extract 0 2), .int .u64 0, .int .i64 0], .int .i64 2, .int .i64 0]) := by show _ = _; rw [HR.out, if_pos ⟨h2, rfl⟩]
      have HR2 : Hid (R = .tuple #[.agg #[.int .u8 4, .string (s.extract 0 2), .int .u64 0, .int .i64 0], .int .i64 2, .int .i64 0]) := HR.out
      clear HR
      go_enter Tryz.func61, Tryz.ntmps61
      go_wp2
      go_loop [5] (fun v => v = .int .i64 2) (fun v => (intOf v).toNat)
      case atStart => first | exact rfl | exact (by simp [*]; try omega)
      case round =>
        subst hrel
        go_wp2_with (first
          | (go_at_call 106; refine (I2.out _).mono ?_; rintro e w' ⟨rfl, rfl⟩)
          | (go_at_call 105; refine (C2.out _).mono ?_; rintro e w2 ⟨rfl, hz⟩; obtain ⟨p, b⟩ := tk_mid hz; obtain ⟨y0, y1, y2, y3, u0, u1, u2, u3, lt⟩ := slot4 p; clear hz))
        exact bodyPost_ret (v := .tuple #[.agg #[.int .u8 4, .string (s.extract 0 2), .int .u64 0, .int .i64 0], .int .i64 2, .int .i64 0]) (by simp [results, Tryz.results61, go_sem, y0, y1, y2, y3]; try rfl) rfl ⟨by rw [HR2.out], by first | exact b | exact below4 b (Nat.le_refl _) _ _ _ _⟩
end Go.Proofs.YtedamaccflhmfaaGreatDoor
namespace Go.Proofs.YtedamaccflhmfaaGreatDoor
open Go.RowKit
attribute [local go_sem ↓] Go.wp_at_zero Go.wp_at_succ

theorem nx_cases (y : Lx.Nx) : (∃ x n, y = .tok x n) ∨ (∃ e, y = .err e) := by
  cases y with
  | tok x n => exact .inl ⟨x, n, rfl⟩
  | err e => exact .inr ⟨e, rfl⟩

set_option maxRecDepth 100000 in
set_option maxHeartbeats 6400000 in
theorem first_any (w : World) (s : ByteArray) (r : Int) (h0 : 0 < s.size) (hs : s.size ≤ 100000) (hr : r = ((Utf8.decode s 0).1 : Nat)) (hT : Tab2 w) : Calls Tryz.prog 28 #[.string s, .int .i32 r] w fun e w' => e = .returned (nxV (Lx.next s.data.toList)) ∧ Below w.heap.size w w' := by
  obtain ⟨c, q, hq⟩ : ∃ c q, s.data.toList = c :: q := ⟨_, _, Lx.drop_at s 0 h0⟩
  have hc : s[0]'h0 = c := by
    have := Lx.drop_at s 0 h0
    rw [List.drop_zero, hq] at this
    exact (List.cons.inj this).1.symm
  have hl := Lx.rune_pred Lx.ltR_c Lx.ltR_hi s 0 h0
  have hd := Lx.rune_pred Lx.dgR_c Lx.dgR_hi s 0 h0
  rw [hc, ← hr] at hl hd
  have h39 : r = 39 ↔ c = 39 := by
    constructor
    · intro h
      have := (Lx.rune_39 s 0 h0 (by omega)).1
      rw [hc] at this; exact this
    · intro h
      have ha : (s[0]'h0).toNat < 128 := by rw [hc, h]; decide
      rw [hr, decode_ascii s 0 h0 ha, hc, h]; rfl
  have FW := hide (fun wx => firstWord_any wx s (by omega))
  have FN := hide (fun wx => firstNumber_any wx s (by omega))
  have FS := hide (fun wx => firstSign_any wx s h0 hs)
  have IL := hide (fun wx => isLetter_any wx r)
  have ID := hide (fun wx => isDigit_any wx r)
  have B0 : Below w.heap.size w (w.alloc tk0) := (Below.refl _ _).alloc (Nat.le_refl _) _
  rw [hl] at IL
  rw [hd] at ID
  have hN : Lx.next s.data.toList = if Lx.lt c then Lx.wordN s.data.toList else if Lx.dg c then Lx.numN s.data.toList else if c = 39 then Lx.textN s.data.toList else Lx.signN s.data.toList := by rw [hq]; rfl
  rw [hN]
  clear hN hr hl hd
  cases hlc : Lx.lt c
  · rw [hlc] at IL
    rw [if_neg (by simp)]
    cases hdc : Lx.dg c
    · rw [hdc] at ID
      rw [if_neg (by simp)]
      by_cases hcc : c = 39
      · have hr39 := h39.2 hcc
        have FT := hide (fun wx h => firstText_any wx s q hs (by rw [hq, hcc]) h)
        rw [if_pos hcc]
        clear hq hc hcc h39 hlc hdc FW FN FS
        subst hr39
        rcases nx_cases (Lx.textN s.data.toList) with ⟨x, n, hx⟩ | ⟨x, hx⟩
        · rw [hx] at FT ⊢
          have HV : Hid (nxV (.tok x n) = .tuple #[.agg #[.int .u8 x.k, .string ⟨x.t.toArray⟩, .int .u64 x.n, .int .i64 x.at'], .int .i64 n, .int .i64 0]) := rfl
          rw [HV.out]
          have F2 : Hid (∀ (wx : World) (h : Tab2 wx), Calls Tryz.prog 60 #[.string s] wx fun e w' => e = .returned (.tuple #[.agg #[.int .u8 x.k, .string ⟨x.t.toArray⟩, .int .u64 x.n, .int .i64 x.at'], .int .i64 n, .int .i64 0]) ∧ Below wx.heap.size wx w') := fun wx h => FT.out wx h
          clear hx HV FT
          go_enter Tryz.func28, Tryz.ntmps28
          go_wp2_with (first
            | (go_at_call 56; refine (IL.out _).mono ?_; rintro e w' ⟨rfl, rfl⟩)
            | (go_at_call 58; refine (ID.out _).mono ?_; rintro e w' ⟨rfl, rfl⟩)
            | (go_at_call 60; refine (F2.out _ (hT.later B0)).mono ?_; rintro e w2 ⟨rfl, hz⟩; obtain ⟨p, b⟩ := tk_mid hz; obtain ⟨y0, y1, y2, y3, u0, u1, u2, u3, lt⟩ := slot4 p; clear hz))
          exact bodyPost_ret (v := .tuple #[.agg #[.int .u8 x.k, .string ⟨x.t.toArray⟩, .int .u64 x.n, .int .i64 x.at'], .int .i64 n, .int .i64 0]) (by simp [results, Tryz.results28, go_sem, y0, y1, y2, y3]; try rfl) rfl ⟨rfl, by first | exact b | exact below4 b (Nat.le_refl _) _ _ _ _⟩
        · rw [hx] at FT ⊢
          have HV : Hid (nxV (.err x) = .tuple #[.agg #[.int .u8 0, .string ⟨#[]⟩, .int .u64 0, .int .i64 0], .int .i64 0, .int .i64 x]) := rfl
          rw [HV.out]
          have F2 : Hid (∀ (wx : World) (h : Tab2 wx), Calls Tryz.prog 60 #[.string s] wx fun e w' => e = .returned (.tuple #[.agg #[.int .u8 0, .string ⟨#[]⟩, .int .u64 0, .int .i64 0], .int .i64 0, .int .i64 x]) ∧ Below wx.heap.size wx w') := fun wx h => FT.out wx h
          clear hx HV FT
          go_enter Tryz.func28, Tryz.ntmps28
          go_wp2_with (first
            | (go_at_call 56; refine (IL.out _).mono ?_; rintro e w' ⟨rfl, rfl⟩)
            | (go_at_call 58; refine (ID.out _).mono ?_; rintro e w' ⟨rfl, rfl⟩)
            | (go_at_call 60; refine (F2.out _ (hT.later B0)).mono ?_; rintro e w2 ⟨rfl, hz⟩; obtain ⟨p, b⟩ := tk_mid hz; obtain ⟨y0, y1, y2, y3, u0, u1, u2, u3, lt⟩ := slot4 p; clear hz))
          exact bodyPost_ret (v := .tuple #[.agg #[.int .u8 0, .string ⟨#[]⟩, .int .u64 0, .int .i64 0], .int .i64 0, .int .i64 x]) (by simp [results, Tryz.results28, go_sem, y0, y1, y2, y3]; try rfl) rfl ⟨rfl, by first | exact b | exact below4 b (Nat.le_refl _) _ _ _ _⟩
      · have hr39 : ¬ r = 39 := fun h => hcc (h39.1 h)
        rw [if_neg hcc]
        clear hq hc hcc h39 hlc hdc FW FN
        rcases nx_cases (Lx.signN s.data.toList) with ⟨x, n, hx⟩ | ⟨x, hx⟩
        · rw [hx] at FS ⊢
          have HV : Hid (nxV (.tok x n) = .tuple #[.agg #[.int .u8 x.k, .string ⟨x.t.toArray⟩, .int .u64 x.n, .int .i64 x.at'], .int .i64 n, .int .i64 0]) := rfl
          rw [HV.out]
          have F2 : Hid (∀ (wx : World), Calls Tryz.prog 61 #[.string s] wx fun e w' => e = .returned (.tuple #[.agg #[.int .u8 x.k, .string ⟨x.t.toArray⟩, .int .u64 x.n, .int .i64 x.at'], .int .i64 n, .int .i64 0]) ∧ Below wx.heap.size wx w') := fun wx => FS.out wx
          clear hx HV FS
          go_enter Tryz.func28, Tryz.ntmps28
          go_wp2_with (first
            | (go_at_call 56; refine (IL.out _).mono ?_; rintro e w' ⟨rfl, rfl⟩)
            | (go_at_call 58; refine (ID.out _).mono ?_; rintro e w' ⟨rfl, rfl⟩)
            | (go_at_call 61; refine (F2.out _).mono ?_; rintro e w2 ⟨rfl, hz⟩; obtain ⟨p, b⟩ := tk_mid hz; obtain ⟨y0, y1, y2, y3, u0, u1, u2, u3, lt⟩ := slot4 p; clear hz))
          exact bodyPost_ret (v := .tuple #[.agg #[.int .u8 x.k, .string ⟨x.t.toArray⟩, .int .u64 x.n, .int .i64 x.at'], .int .i64 n, .int .i64 0]) (by simp [results, Tryz.results28, go_sem, y0, y1, y2, y3]; try rfl) rfl ⟨rfl, by first | exact b | exact below4 b (Nat.le_refl _) _ _ _ _⟩
        · rw [hx] at FS ⊢
          have HV : Hid (nxV (.err x) = .tuple #[.agg #[.int .u8 0, .string ⟨#[]⟩, .int .u64 0, .int .i64 0], .int .i64 0, .int .i64 x]) := rfl
          rw [HV.out]
          have F2 : Hid (∀ (wx : World), Calls Tryz.prog 61 #[.string s] wx fun e w' => e = .returned (.tuple #[.agg #[.int .u8 0, .string ⟨#[]⟩, .int .u64 0, .int .i64 0], .int .i64 0, .int .i64 x]) ∧ Below wx.heap.size wx w') := fun wx => FS.out wx
          clear hx HV FS
          go_enter Tryz.func28, Tryz.ntmps28
          go_wp2_with (first
            | (go_at_call 56; refine (IL.out _).mono ?_; rintro e w' ⟨rfl, rfl⟩)
            | (go_at_call 58; refine (ID.out _).mono ?_; rintro e w' ⟨rfl, rfl⟩)
            | (go_at_call 61; refine (F2.out _).mono ?_; rintro e w2 ⟨rfl, hz⟩; obtain ⟨p, b⟩ := tk_mid hz; obtain ⟨y0, y1, y2, y3, u0, u1, u2, u3, lt⟩ := slot4 p; clear hz))
          exact bodyPost_ret (v := .tuple #[.agg #[.int .u8 0, .string ⟨#[]⟩, .int .u64 0, .int .i64 0], .int .i64 0, .int .i64 x]) (by simp [results, Tryz.results28, go_sem, y0, y1, y2, y3]; try rfl) rfl ⟨rfl, by first | exact b | exact below4 b (Nat.le_refl _) _ _ _ _⟩
    · rw [hdc] at ID
      rw [if_pos rfl]
      clear hq hc h39 hlc hdc FW FS
      rcases nx_cases (Lx.numN s.data.toList) with ⟨x, n, hx⟩ | ⟨x, hx⟩
      · rw [hx] at FN ⊢
        have HV : Hid (nxV (.tok x n) = .tuple #[.agg #[.int .u8 x.k, .string ⟨x.t.toArray⟩, .int .u64 x.n, .int .i64 x.at'], .int .i64 n, .int .i64 0]) := rfl
        rw [HV.out]
        have F2 : Hid (∀ (wx : World), Calls Tryz.prog 59 #[.string s] wx fun e w' => e = .returned (.tuple #[.agg #[.int .u8 x.k, .string ⟨x.t.toArray⟩, .int .u64 x.n, .int .i64 x.at'], .int .i64 n, .int .i64 0]) ∧ Below wx.heap.size wx w') := fun wx => FN.out wx
        clear hx HV FN
        go_enter Tryz.func28, Tryz.ntmps28
        go_wp2_with (first
          | (go_at_call 56; refine (IL.out _).mono ?_; rintro e w' ⟨rfl, rfl⟩)
          | (go_at_call 58; refine (ID.out _).mono ?_; rintro e w' ⟨rfl, rfl⟩)
          | (go_at_call 59; refine (F2.out _).mono ?_; rintro e w2 ⟨rfl, hz⟩; obtain ⟨p, b⟩ := tk_mid hz; obtain ⟨y0, y1, y2, y3, u0, u1, u2, u3, lt⟩ := slot4 p; clear hz))
        exact bodyPost_ret (v := .tuple #[.agg #[.int .u8 x.k, .string ⟨x.t.toArray⟩, .int .u64 x.n, .int .i64 x.at'], .int .i64 n, .int .i64 0]) (by simp [results, Tryz.results28, go_sem, y0, y1, y2, y3]; try rfl) rfl ⟨rfl, by first | exact b | exact below4 b (Nat.le_refl _) _ _ _ _⟩
      · rw [hx] at FN ⊢
        have HV : Hid (nxV (.err x) = .tuple #[.agg #[.int .u8 0, .string ⟨#[]⟩, .int .u64 0, .int .i64 0], .int .i64 0, .int .i64 x]) := rfl
        rw [HV.out]
        have F2 : Hid (∀ (wx : World), Calls Tryz.prog 59 #[.string s] wx fun e w' => e = .returned (.tuple #[.agg #[.int .u8 0, .string ⟨#[]⟩, .int .u64 0, .int .i64 0], .int .i64 0, .int .i64 x]) ∧ Below wx.heap.size wx w') := fun wx => FN.out wx
        clear hx HV FN
        go_enter Tryz.func28, Tryz.ntmps28
        go_wp2_with (first
          | (go_at_call 56; refine (IL.out _).mono ?_; rintro e w' ⟨rfl, rfl⟩)
          | (go_at_call 58; refine (ID.out _).mono ?_; rintro e w' ⟨rfl, rfl⟩)
          | (go_at_call 59; refine (F2.out _).mono ?_; rintro e w2 ⟨rfl, hz⟩; obtain ⟨p, b⟩ := tk_mid hz; obtain ⟨y0, y1, y2, y3, u0, u1, u2, u3, lt⟩ := slot4 p; clear hz))
        exact bodyPost_ret (v := .tuple #[.agg #[.int .u8 0, .string ⟨#[]⟩, .int .u64 0, .int .i64 0], .int .i64 0, .int .i64 x]) (by simp [results, Tryz.results28, go_sem, y0, y1, y2, y3]; try rfl) rfl ⟨rfl, by first | exact b | exact below4 b (Nat.le_refl _) _ _ _ _⟩
  · rw [hlc] at IL
    rw [if_pos rfl]
    clear hq hc h39 hlc FN FS ID
    rcases nx_cases (Lx.wordN s.data.toList) with ⟨x, n, hx⟩ | ⟨x, hx⟩
    · rw [hx] at FW ⊢
      have HV : Hid (nxV (.tok x n) = .tuple #[.agg #[.int .u8 x.k, .string ⟨x.t.toArray⟩, .int .u64 x.n, .int .i64 x.at'], .int .i64 n, .int .i64 0]) := rfl
      rw [HV.out]
      have F2 : Hid (∀ (wx : World), Calls Tryz.prog 57 #[.string s] wx fun e w' => e = .returned (.tuple #[.agg #[.int .u8 x.k, .string ⟨x.t.toArray⟩, .int .u64 x.n, .int .i64 x.at'], .int .i64 n, .int .i64 0]) ∧ Below wx.heap.size wx w') := fun wx => FW.out wx
      clear hx HV FW
      go_enter Tryz.func28, Tryz.ntmps28
      go_wp2_with (first
        | (go_at_call 56; refine (IL.out _).mono ?_; rintro e w' ⟨rfl, rfl⟩)
        | (go_at_call 57; refine (F2.out _).mono ?_; rintro e w2 ⟨rfl, hz⟩; obtain ⟨p, b⟩ := tk_mid hz; obtain ⟨y0, y1, y2, y3, u0, u1, u2, u3, lt⟩ := slot4 p; clear hz))
      exact bodyPost_ret (v := .tuple #[.agg #[.int .u8 x.k, .string ⟨x.t.toArray⟩, .int .u64 x.n, .int .i64 x.at'], .int .i64 n, .int .i64 0]) (by simp [results, Tryz.results28, go_sem, y0, y1, y2, y3]; try rfl) rfl ⟨rfl, by first | exact b | exact below4 b (Nat.le_refl _) _ _ _ _⟩
    · rw [hx] at FW ⊢
      have HV : Hid (nxV (.err x) = .tuple #[.agg #[.int .u8 0, .string ⟨#[]⟩, .int .u64 0, .int .i64 0], .int .i64 0, .int .i64 x]) := rfl
      rw [HV.out]
      have F2 : Hid (∀ (wx : World), Calls Tryz.prog 57 #[.string s] wx fun e w' => e = .returned (.tuple #[.agg #[.int .u8 0, .string ⟨#[]⟩, .int .u64 0, .int .i64 0], .int .i64 0, .int .i64 x]) ∧ Below wx.heap.size wx w') := fun wx => FW.out wx
      clear hx HV FW
      go_enter Tryz.func28, Tryz.ntmps28
      go_wp2_with (first
        | (go_at_call 56; refine (IL.out _).mono ?_; rintro e w' ⟨rfl, rfl⟩)
        | (go_at_call 57; refine (F2.out _).mono ?_; rintro e w2 ⟨rfl, hz⟩; obtain ⟨p, b⟩ := tk_mid hz; obtain ⟨y0, y1, y2, y3, u0, u1, u2, u3, lt⟩ := slot4 p; clear hz))
      exact bodyPost_ret (v := .tuple #[.agg #[.int .u8 0, .string ⟨#[]⟩, .int .u64 0, .int .i64 0], .int .i64 0, .int .i64 x]) (by simp [results, Tryz.results28, go_sem, y0, y1, y2, y3]; try rfl) rfl ⟨rfl, by first | exact b | exact below4 b (Nat.le_refl _) _ _ _ _⟩
end Go.Proofs.YtedamaccflhmfaaGreatDoor
