/-
  Package lexer: the token that a text begins with: a word, a number, a text, a sign.
-/
import Derived.Test.YtfkfljpajeeclaaDoorLxF
import Derived.Lib.SmallJoins
namespace Go.Proofs.YtfkfljpajeeclaaDoor
open Go.RowKit
attribute [local go_sem ↓] Go.wp_at_zero Go.wp_at_succ

theorem slot4 {w : World} {B : Nat} {x y z u : Value} {t : TypeId} (h : w.heap[B]? = some (.cells #[x, y, z, u] t (0, 0))) : w.cell? ⟨B, 0, none⟩ = some x ∧ w.cell? ⟨B, 1, none⟩ = some y ∧ w.cell? ⟨B, 2, none⟩ = some z ∧ w.cell? ⟨B, 3, none⟩ = some u ∧ w.frozen? ⟨B, 0, none⟩ = false ∧ w.frozen? ⟨B, 1, none⟩ = false ∧ w.frozen? ⟨B, 2, none⟩ = false ∧ w.frozen? ⟨B, 3, none⟩ = false ∧ B < w.heap.size :=
  ⟨Joins.cell_of_block h 0, Joins.cell_of_block h 1, Joins.cell_of_block h 2, Joins.cell_of_block h 3, Joins.unfrozen_of_block h 0, Joins.unfrozen_of_block h 1, Joins.unfrozen_of_block h 2, Joins.unfrozen_of_block h 3, (Array.getElem?_eq_some_iff.1 h).1⟩
/-- A token as a value; what the reading of one answers. -/
def tokV (x : Lx.Tk) : Value := .agg #[.int .u8 x.k, .string ⟨x.t.toArray⟩, .int .u64 x.n, .int .i64 x.at']
def noTok : Value := .agg #[.int .u8 0, .string ⟨#[]⟩, .int .u64 0, .int .i64 0]
def nxV : Lx.Nx → Value
  | .tok x n => .tuple #[tokV x, .int .i64 n, .int .i64 0]
  | .err e => .tuple #[noTok, .int .i64 0, .int .i64 e]
/-- The call's own result, four cells that nobody has written yet. -/
abbrev tk0 : Obj := .cells #[.int .u8 0, .string ⟨#[]⟩, .int .u64 0, .int .i64 0] 31
theorem tk_mid {w w2 : World} {x y z u : Value} {t : TypeId} (hb : Below (w.alloc (.cells #[x, y, z, u] t)).heap.size (w.alloc (.cells #[x, y, z, u] t)) w2) : w2.heap[w.heap.size]? = some (.cells #[x, y, z, u] t (0, 0)) ∧ Below w.heap.size w w2 := by
  refine ⟨(hb.block _ (by simp)).trans ?_, ((Below.refl _ w).alloc (Nat.le_refl _) _).trans (hb.mono (by simp))⟩
  show (w.heap.push _)[w.heap.size]? = _
  simp
theorem tk_more {w w2 w3 : World} {B : Nat} {o : Obj} (h : w2.heap[w.heap.size]? = some o) (hb : Below B w w2) (hB : B ≤ w.heap.size) (h3 : Below w2.heap.size w2 w3) : w3.heap[w.heap.size]? = some o ∧ Below B w w3 := by
  have hl := (Array.getElem?_eq_some_iff.1 h).1
  exact ⟨(h3.block _ hl).trans h, hb.trans (h3.mono (by omega))⟩
theorem below4 {w w2 : World} {B : Nat} (hb : Below B w w2) (hB : B ≤ w.heap.size) (a b c d : Value) : Below B w ((((w2.setCell ⟨w.heap.size, 0, none⟩ a).setCell ⟨w.heap.size, 1, none⟩ b).setCell ⟨w.heap.size, 2, none⟩ c).setCell ⟨w.heap.size, 3, none⟩ d) :=
  (((hb.setCell hB _).setCell hB _).setCell hB _).setCell hB _

theorem take_ext (s : ByteArray) (n : Nat) : s.extract 0 n = ⟨(s.data.toList.take n).toArray⟩ := by
  apply ByteArray.ext
  rw [ByteArray.data_extract]
  apply Array.toList_inj.1
  simp

set_option maxRecDepth 100000 in
set_option maxHeartbeats 3200000 in
theorem firstWord_any (w : World) (s : ByteArray) (hs : s.size ≤ 1099511627776) : Calls Tryd.prog 35 #[.string s] w fun e w' => e = .returned (nxV (Lx.wordN s.data.toList)) ∧ Below w.heap.size w w' := by
  obtain ⟨W, hW⟩ : ∃ W, W = Lx.wordW s.data.toList := ⟨_, rfl⟩
  have hle : W ≤ s.size := by rw [hW, ← l_size]; exact Lx.tw_le _ _
  have HW := hide (fun wx => widthWord_any wx s (by unfold maxLen; omega))
  rw [← hW] at HW
  by_cases h32 : W > 32
  · have HN : Hid (nxV (Lx.wordN s.data.toList) = .tuple #[noTok, .int .i64 0, .int .i64 3]) := by
      show _ = _
      unfold Lx.wordN; rw [← hW, if_pos h32]; rfl
    rw [HN.out]
    have h32i : (W : Int) > 32 := by omega
    clear h32 hW HN
    go_enter Tryd.func35, Tryd.ntmps35
    go_wp2_with (go_at_call 62; refine (HW.out _).mono ?_; rintro e w1 ⟨rfl, hz⟩; obtain ⟨p, b⟩ := tk_mid hz; obtain ⟨y0, y1, y2, y3, u0, u1, u2, u3, lt⟩ := slot4 p; clear hz)
    exact bodyPost_ret (v := .tuple #[noTok, .int .i64 0, .int .i64 3]) (by simp [results, Tryd.results35, go_sem, y0, y1, y2, y3, noTok]; try rfl) rfl ⟨rfl, by first | exact b | exact below4 b (Nat.le_refl _) _ _ _ _⟩
  · have HN : Hid (nxV (Lx.wordN s.data.toList) = .tuple #[.agg #[.int .u8 1, .string ⟨((s.data.toList.take W).map Lx.low).toArray⟩, .int .u64 0, .int .i64 0], .int .i64 W, .int .i64 0]) := by
      show _ = _
      unfold Lx.wordN; rw [← hW, if_neg h32]; rfl
    rw [HN.out]
    have h32i : ¬ (W : Int) > 32 := by omega
    have SM : Hid (∀ wx, Calls Tryd.prog 64 #[.string (s.extract 0 W)] wx fun e w' => e = .returned (.string ⟨((s.data.toList.take W).map Lx.low).toArray⟩) ∧ Below wx.heap.size wx w') := fun wx => by
      have := small_any wx (s.extract 0 W) (by rw [ByteArray.size_extract]; omega) (by
        rw [take_ext]
        intro c hc
        have e : s.data.toList.take W = s.data.toList.takeWhile Lx.inw := by rw [hW]; exact Lx.take_tw _ _
        simp only at hc
        rw [List.toList_toArray, e] at hc
        exact Lx.tw_all _ _ c hc)
      rw [take_ext] at this ⊢
      simpa using this
    obtain ⟨T, hT⟩ : ∃ T : ByteArray, T = ⟨((s.data.toList.take W).map Lx.low).toArray⟩ := ⟨_, rfl⟩
    rw [← hT] at SM ⊢
    clear h32 hW HN hT
    go_enter Tryd.func35, Tryd.ntmps35
    go_wp2_with (first
      | (go_at_call 62; refine (HW.out _).mono ?_; rintro e w1 ⟨rfl, hz⟩; obtain ⟨p, b⟩ := tk_mid hz; clear hz)
      | (go_at_call 64; refine (SM.out _).mono ?_; rintro e w2 ⟨rfl, hz⟩; obtain ⟨p2, b2⟩ := tk_more p b (Nat.le_refl _) hz; obtain ⟨y0, y1, y2, y3, u0, u1, u2, u3, lt⟩ := slot4 p2; clear hz))
    exact bodyPost_ret (v := .tuple #[.agg #[.int .u8 1, .string T, .int .u64 0, .int .i64 0], .int .i64 W, .int .i64 0]) (by simp [results, Tryd.results35, go_sem, y0, y1, y2, y3]; try rfl) rfl ⟨rfl, by first | exact b2 | exact below4 b2 (Nat.le_refl _) _ _ _ _⟩

set_option maxRecDepth 100000 in
set_option maxHeartbeats 3200000 in
theorem firstNumber_any (w : World) (s : ByteArray) (hs : s.size ≤ 1099511627776) : Calls Tryd.prog 37 #[.string s] w fun e w' => e = .returned (nxV (Lx.numN s.data.toList)) ∧ Below w.heap.size w w' := by
  obtain ⟨W, hW⟩ : ∃ W, W = Lx.numW s.data.toList := ⟨_, rfl⟩
  have hle : W ≤ s.size := by rw [hW, ← l_size]; exact Lx.tw_le _ _
  have HW := hide (fun wx => widthNum_any wx s (by unfold maxLen; omega))
  rw [← hW] at HW
  have NU : Hid (∀ wx, Calls Tryd.prog 65 #[.string (s.extract 0 W)] wx fun e w' => e = .returned (.tuple #[.int .u64 (digV (s.data.toList.take W)), .int .i64 (digE (s.data.toList.take W))]) ∧ Below wx.heap.size wx w') := fun wx => by
    have := numberOf_any wx (s.extract 0 W) (by unfold maxLen; rw [ByteArray.size_extract]; omega) (by
      rw [take_ext]
      intro c hc
      have e : s.data.toList.take W = s.data.toList.takeWhile Lx.dg := by rw [hW]; exact Lx.take_tw _ _
      simp only at hc
      rw [List.toList_toArray, e] at hc
      exact Lx.tw_all _ _ c hc)
    rw [take_ext] at this ⊢
    simpa using this
  cases hg : Lx.numG (s.data.toList.take W) 0 with
  | none =>
    have HN : Hid (nxV (Lx.numN s.data.toList) = .tuple #[noTok, .int .i64 0, .int .i64 233]) := by
      show _ = _
      unfold Lx.numN; rw [← hW, hg]; rfl
    rw [HN.out]
    obtain ⟨V, hV⟩ : ∃ V : Int, V = (digV (s.data.toList.take W) : Nat) := ⟨_, rfl⟩
    rw [← hV, show digE (s.data.toList.take W) = 233 from by unfold digE; rw [hg]; rfl] at NU
    clear hW HN hg hV
    go_enter Tryd.func37, Tryd.ntmps37
    go_wp2_with (first
      | (go_at_call 62; refine (HW.out _).mono ?_; rintro e w1 ⟨rfl, hz⟩; obtain ⟨p, b⟩ := tk_mid hz; clear hz)
      | (go_at_call 65; refine (NU.out _).mono ?_; rintro e w2 ⟨rfl, hz⟩; obtain ⟨p2, b2⟩ := tk_more p b (Nat.le_refl _) hz; obtain ⟨y0, y1, y2, y3, u0, u1, u2, u3, lt⟩ := slot4 p2; clear hz))
    exact bodyPost_ret (v := .tuple #[noTok, .int .i64 0, .int .i64 233]) (by simp [results, Tryd.results37, go_sem, y0, y1, y2, y3, noTok]; try rfl) rfl ⟨rfl, by first | exact b2 | exact below4 b2 (Nat.le_refl _) _ _ _ _⟩
  | some n =>
    have HN : Hid (nxV (Lx.numN s.data.toList) = .tuple #[.agg #[.int .u8 2, .string ⟨#[]⟩, .int .u64 n, .int .i64 0], .int .i64 W, .int .i64 0]) := by
      show _ = _
      unfold Lx.numN; rw [← hW, hg]; rfl
    rw [HN.out]
    rw [show digV (s.data.toList.take W) = n from by unfold digV; rw [hg]; rfl, show digE (s.data.toList.take W) = 0 from by unfold digE; rw [hg]; rfl] at NU
    clear hW HN hg
    go_enter Tryd.func37, Tryd.ntmps37
    go_wp2_with (first
      | (go_at_call 62; refine (HW.out _).mono ?_; rintro e w1 ⟨rfl, hz⟩; obtain ⟨p, b⟩ := tk_mid hz; clear hz)
      | (go_at_call 65; refine (NU.out _).mono ?_; rintro e w2 ⟨rfl, hz⟩; obtain ⟨p2, b2⟩ := tk_more p b (Nat.le_refl _) hz; obtain ⟨y0, y1, y2, y3, u0, u1, u2, u3, lt⟩ := slot4 p2; clear hz))
    exact bodyPost_ret (v := .tuple #[.agg #[.int .u8 2, .string ⟨#[]⟩, .int .u64 n, .int .i64 0], .int .i64 W, .int .i64 0]) (by simp [results, Tryd.results37, go_sem, y0, y1, y2, y3]; try rfl) rfl ⟨rfl, by first | exact b2 | exact below4 b2 (Nat.le_refl _) _ _ _ _⟩
end Go.Proofs.YtfkfljpajeeclaaDoor
