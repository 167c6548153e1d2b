/-
  Plain: what loops over runes see of bytes: widths, valid texts, numbers, words; what a text says once its doubled apostrophes are single.
-/
import Derived.Test.YtfkfljpajeeclaaDoorLxR
namespace Go.Proofs.YtfkfljpajeeclaaDoor.Lx

def smR (r : Int) : Bool := (decide (97 ≤ r) && decide (r ≤ 122)) || r == 95
def capR (r : Int) : Bool := decide (65 ≤ r) && decide (r ≤ 90)
def ltR (r : Int) : Bool := smR r || capR r
def dgR (r : Int) : Bool := decide (48 ≤ r) && decide (r ≤ 57)
def inwR (r : Int) : Bool := ltR r || dgR r
def blR (r : Int) : Bool := r == 9 || r == 10 || r == 13 || r == 32

/-- A predicate of runes below 128, seen at the byte that a rune begins with. -/
theorem rune_pred {p : UInt8 → Bool} {pR : Int → Bool} (h1 : ∀ c : UInt8, pR c.toNat = p c) (h2 : ∀ r : Int, 128 ≤ r → pR r = false) (s : ByteArray) (pos : Nat) (h : pos < s.size) : pR ((Utf8.decode s pos).1 : Nat) = p (s[pos]'h) := by
  by_cases ha : (s[pos]'h).toNat < 128
  · rw [decode_ascii s pos h ha]; exact h1 _
  · have := (decode_high s pos h (by omega)).1
    rw [h2 _ (by omega), ← h1, h2 _ (by omega)]
theorem b_eq {a b : Bool} (h : a = true ↔ b = true) : a = b := Bool.eq_iff_iff.2 h
theorem smR_c (c : UInt8) : smR c.toNat = sm c := b_eq (by rw [sm_iff]; simp [smR]; omega)
theorem capR_c (c : UInt8) : capR c.toNat = cap c := b_eq (by rw [cap_iff]; simp [capR]; omega)
theorem dgR_c (c : UInt8) : dgR c.toNat = dg c := b_eq (by rw [dg_iff]; simp [dgR]; omega)
theorem ltR_c (c : UInt8) : ltR c.toNat = lt c := by unfold ltR lt; rw [smR_c, capR_c]
theorem inwR_c (c : UInt8) : inwR c.toNat = inw c := by unfold inwR inw; rw [ltR_c, dgR_c]
theorem blR_c (c : UInt8) : blR c.toNat = bl c := b_eq (by rw [bl_iff]; simp [blR]; omega)
theorem smR_hi (r : Int) (h : 128 ≤ r) : smR r = false := eq_false_of (by simp [smR]; omega)
theorem capR_hi (r : Int) (h : 128 ≤ r) : capR r = false := eq_false_of (by simp [capR]; omega)
theorem dgR_hi (r : Int) (h : 128 ≤ r) : dgR r = false := eq_false_of (by simp [dgR]; omega)
theorem ltR_hi (r : Int) (h : 128 ≤ r) : ltR r = false := by unfold ltR; rw [smR_hi r h, capR_hi r h]; rfl
theorem inwR_hi (r : Int) (h : 128 ≤ r) : inwR r = false := by unfold inwR; rw [ltR_hi r h, dgR_hi r h]; rfl
theorem blR_hi (r : Int) (h : 128 ≤ r) : blR r = false := eq_false_of (by simp [blR]; omega)

/-- A byte that a predicate of small bytes takes is a rune of its own. -/
theorem small_one {p : UInt8 → Bool} (hp : ∀ c : UInt8, p c = true → c.toNat < 128) (s : ByteArray) (pos : Nat) (h : pos < s.size) (hc : p (s[pos]'h) = true) : (Utf8.decode s pos).2 = 1 := by
  rw [decode_ascii s pos h (hp _ hc)]
theorem inw_lo (c : UInt8) (h : inw c = true) : c.toNat < 128 := by rw [inw_iff] at h; omega
theorem dg_lo (c : UInt8) (h : dg c = true) : c.toNat < 128 := by rw [dg_iff] at h; omega
theorem bl_lo (c : UInt8) (h : bl c = true) : c.toNat < 128 := by rw [bl_iff] at h; omega
theorem sm_lo (c : UInt8) (h : sm c = true) : c.toNat < 128 := by rw [sm_iff] at h; omega

/-! ### Widths -/
theorem tw_go (p : UInt8 → Bool) (s : ByteArray) (pos : Nat) (h : pos < s.size) (hc : p (s[pos]'h) = true) (hw : (s.data.toList.takeWhile p).length = pos + ((s.data.toList.drop pos).takeWhile p).length) :
    (s.data.toList.takeWhile p).length = pos + 1 + ((s.data.toList.drop (pos + 1)).takeWhile p).length := by
  rw [drop_at s pos h, List.takeWhile_cons_of_pos hc, List.length_cons] at hw
  omega
theorem tw_stop (p : UInt8 → Bool) (s : ByteArray) (pos : Nat) (h : pos < s.size) (hc : p (s[pos]'h) = false) (hw : (s.data.toList.takeWhile p).length = pos + ((s.data.toList.drop pos).takeWhile p).length) :
    (s.data.toList.takeWhile p).length = pos := by
  rw [drop_at s pos h, List.takeWhile_cons_of_neg (by simp [hc])] at hw
  simpa using hw
theorem tw_end (p : UInt8 → Bool) (s : ByteArray) (pos : Nat) (h : ¬ pos < s.size) (hp : pos ≤ s.size) (hw : (s.data.toList.takeWhile p).length = pos + ((s.data.toList.drop pos).takeWhile p).length) :
    (s.data.toList.takeWhile p).length = s.size := by
  have e : s.data.toList.length = s.size := by rw [Array.length_toList]; rfl
  rw [List.drop_eq_nil_of_le (by omega)] at hw
  simp only [List.takeWhile_nil, List.length_nil] at hw
  omega

/-- How many bytes a text has, byte by byte. -/
def wt : Bool → List UInt8 → Nat → Nat
  | op, [], a => if op then 0 else a
  | op, c :: r, a => if c = 39 then wt (!op) r (a + 1) else if op then wt op r (a + 1) else a
theorem wt_scan : ∀ (r : List UInt8) (a : Nat), wt true r a = match scanT r with
    | none => 0
    | some (_, n) => a + n
  | [], a => rfl
  | [c], a => by
    rw [wt, scanT]
    by_cases h : c = 39
    · rw [if_pos h, if_pos h]; rfl
    · rw [if_neg h, if_neg h]; rfl
  | c :: d :: r, a => by
    rw [wt, scanT]
    by_cases h : c = 39
    · rw [if_pos h, if_pos h, wt]
      by_cases hd : d = 39
      · rw [if_pos hd, if_pos hd]
        show wt true r (a + 1 + 1) = _
        rw [wt_scan r]
        cases scanT r with
        | none => rfl
        | some x => obtain ⟨y, n⟩ := x; show a + 1 + 1 + n = a + (n + 2); omega
      · rw [if_neg hd, if_neg hd]; rfl
    · rw [if_neg h, if_neg h, if_pos rfl, wt_scan (d :: r)]
      cases scanT (d :: r) with
      | none => rfl
      | some x => obtain ⟨y, n⟩ := x; show a + 1 + n = a + (n + 1); omega
theorem wt_skip (s : ByteArray) : ∀ (k pos : Nat), pos + k ≤ s.size → (∀ j, j < k → ∀ h : pos + j < s.size, s[pos + j]'h ≠ 39) → wt true (s.data.toList.drop pos) pos = wt true (s.data.toList.drop (pos + k)) (pos + k)
  | 0, pos, _, _ => rfl
  | k + 1, pos, hk, hj => by
    have h0 : s[pos]'(by omega) ≠ 39 := hj 0 (by omega) (by omega)
    rw [drop_at s pos (by omega), wt, if_neg h0, if_pos rfl, wt_skip s k (pos + 1) (by omega) (fun j h h' => by
      have := hj (j + 1) (by omega) (by omega)
      simpa [Nat.add_assoc, Nat.add_comm 1 j] using this)]
    rw [show pos + 1 + k = pos + (k + 1) from by omega]
/-- Of a rune that is no apostrophe no byte is one. -/
theorem rune_no39 (s : ByteArray) (pos : Nat) (h : pos < s.size) (hr : (Utf8.decode s pos).1 ≠ 39) : s[pos]'h ≠ 39 ∧ ∀ j, j < (Utf8.decode s pos).2 → ∀ h' : pos + j < s.size, s[pos + j]'h' ≠ 39 := by
  have h0 : s[pos]'h ≠ 39 := by
    intro e
    have ha : (s[pos]'h).toNat < 128 := by rw [e]; decide
    rw [decode_ascii s pos h ha, e] at hr
    exact hr rfl
  refine ⟨h0, fun j hj h' => ?_⟩
  by_cases hz : j = 0
  · subst hz; exact h0
  · have := (decode_cont s pos j (by omega) hj).2
    rw [get_big s (pos + j) h'] at this
    intro e
    rw [e] at this
    exact absurd this (by decide)
theorem rune_39 (s : ByteArray) (pos : Nat) (h : pos < s.size) (hr : (Utf8.decode s pos).1 = 39) : s[pos]'h = 39 ∧ (Utf8.decode s pos).2 = 1 := by
  by_cases ha : (s[pos]'h).toNat < 128
  · rw [decode_ascii s pos h ha] at hr ⊢
    exact ⟨UInt8.toNat_inj.1 hr, rfl⟩
  · have := (decode_high s pos h (by omega)).1; omega
theorem wt_rune39 (s : ByteArray) (pos : Nat) (op : Bool) (h : pos < s.size) (hr : (Utf8.decode s pos).1 = 39) : wt op (s.data.toList.drop pos) pos = wt (!op) (s.data.toList.drop (pos + (Utf8.decode s pos).2)) (pos + (Utf8.decode s pos).2) := by
  have := rune_39 s pos h hr
  rw [this.2, drop_at s pos h, wt, if_pos this.1]
theorem wt_rune (s : ByteArray) (pos : Nat) (h : pos < s.size) (hr : (Utf8.decode s pos).1 ≠ 39) : wt true (s.data.toList.drop pos) pos = wt true (s.data.toList.drop (pos + (Utf8.decode s pos).2)) (pos + (Utf8.decode s pos).2) :=
  wt_skip s _ pos (decode_in s pos h) (rune_no39 s pos h hr).2
theorem wt_out (s : ByteArray) (pos : Nat) (h : pos < s.size) (hr : (Utf8.decode s pos).1 ≠ 39) : wt false (s.data.toList.drop pos) pos = pos := by
  rw [drop_at s pos h, wt, if_neg (rune_no39 s pos h hr).1]; rfl
theorem wt_nil (s : ByteArray) (pos : Nat) (op : Bool) (h : ¬ pos < s.size) : wt op (s.data.toList.drop pos) pos = if op then 0 else pos := by
  rw [List.drop_eq_nil_of_le (by rw [Array.length_toList]; show s.size ≤ pos; omega)]
  rfl

/-! ### Valid texts -/
theorem valid_at (s : ByteArray) (pos : Nat) (h : pos < s.size) : Lib.validD (s.data.toList.drop pos) = if (Utf8.decode s pos).1 = 65533 ∧ (Utf8.decode s pos).2 = 1 then false else Lib.validD (s.data.toList.drop (pos + (Utf8.decode s pos).2)) := by
  rw [Lib.validD_step _ (by rw [drop_at s pos h]; simp), Lib.decodeL_drop, List.drop_drop]
theorem valid_end (s : ByteArray) (pos : Nat) (h : ¬ pos < s.size) : Lib.validD (s.data.toList.drop pos) = true := by
  rw [List.drop_eq_nil_of_le (by rw [Array.length_toList]; show s.size ≤ pos; omega)]; rfl

/-! ### Numbers and words -/
theorem num_at (s : ByteArray) (pos m : Nat) (h : pos < s.size) (hc : dg (s[pos]'h) = true) : (Utf8.decode s pos) = ((s[pos]'h).toNat, 1) ∧ 48 ≤ (s[pos]'h).toNat ∧ (s[pos]'h).toNat ≤ 57 ∧ numG (s.data.toList.drop pos) m = if (9223372036854775808 - ((s[pos]'h).toNat - 48)) / 10 < m then none else numG (s.data.toList.drop (pos + 1)) (10 * m + ((s[pos]'h).toNat - 48)) := by
  refine ⟨decode_ascii s pos h (dg_lo _ hc), ((dg_iff _).1 hc).1, ((dg_iff _).1 hc).2, ?_⟩
  rw [drop_at s pos h, numG]
theorem num_end (s : ByteArray) (pos m : Nat) (h : ¬ pos < s.size) : numG (s.data.toList.drop pos) m = some m := by
  rw [List.drop_eq_nil_of_le (by rw [Array.length_toList]; show s.size ≤ pos; omega)]; rfl

def wdA : Bool → List UInt8 → Bool
  | _, [] => true
  | f, c :: r => (sm c || (!f && dg c)) && wdA false r
theorem wdA_all : ∀ r : List UInt8, wdA false r = r.all (fun d => sm d || dg d)
  | [] => rfl
  | c :: r => by rw [wdA, wdA_all r]; rfl
theorem isWd_is (l : List UInt8) : isWd l = (wdA true l && (!l.isEmpty && decide (l.length ≤ 32))) := by
  cases l with
  | nil => rfl
  | cons c r => unfold isWd; rw [wdA, wdA_all]; simp [Bool.and_assoc]

/-! ### What a text says -/
theorem scan_take : ∀ (r said : List UInt8) (n : Nat), scanT r = some (said, n) → r.take (n - 1) = tw said
  | [], _, _, h => by simp [scanT] at h
  | [c], said, n, h => by
    rw [scanT] at h
    split at h
    · simp only [Option.some.injEq, Prod.mk.injEq] at h; obtain ⟨rfl, rfl⟩ := h; rfl
    · cases h
  | c :: d :: q, said, n, h => by
    rw [scanT] at h
    split at h
    · rename_i hc
      split at h
      · rename_i hd
        cases hq : scanT q with
        | none => rw [hq] at h; cases h
        | some x =>
          obtain ⟨a, m⟩ := x
          have ih := scan_take q a m hq
          have hm := scanT_le q a m hq
          rw [hq] at h
          simp only [Option.map_some, Option.some.injEq, Prod.mk.injEq] at h
          obtain ⟨rfl, rfl⟩ := h
          rw [tw_cons, if_pos rfl, ← ih, hc, hd]
          obtain ⟨k, rfl⟩ : ∃ k, m = k + 1 := ⟨m - 1, by omega⟩
          rfl
      · simp only [Option.some.injEq, Prod.mk.injEq] at h
        obtain ⟨rfl, rfl⟩ := h
        rfl
    · rename_i hc
      cases hq : scanT (d :: q) with
      | none => rw [hq] at h; cases h
      | some x =>
        obtain ⟨a, m⟩ := x
        have ih := scan_take (d :: q) a m hq
        have hm := scanT_le (d :: q) a m hq
        rw [hq] at h
        simp only [Option.map_some, Option.some.injEq, Prod.mk.injEq] at h
        obtain ⟨rfl, rfl⟩ := h
        rw [tw_cons, if_neg hc, ← ih]
        obtain ⟨k, rfl⟩ : ∃ k, m = k + 1 := ⟨m - 1, by omega⟩
        rfl

theorem index2 (b : UInt8) (l : List UInt8) (h : b ≠ 39) : Lib.index (b :: l) [39, 39] = if Lib.index l [39, 39] = -1 then -1 else Lib.index l [39, 39] + 1 := by
  rw [Lib.index]
  have h2 : ([39, 39] : List UInt8).isPrefixOf (b :: l) = false := by
    simp only [List.isPrefixOf, Bool.and_eq_false_imp]
    intro e
    exact absurd (by simpa using e) (Ne.symm h)
  rw [h2]
  by_cases k : Lib.index l [39, 39] = -1 <;> simp [k]
theorem replace_tw (t : List UInt8) : Lib.replaceK [39, 39] [39] (Lib.count (tw t) [39, 39]) (tw t) = t := by
  induction t with
  | nil =>
    have : Lib.index [] [39, 39] = -1 := rfl
    show Lib.replaceK [39, 39] [39] (Lib.count [] [39, 39]) [] = []
    rw [Lib.count_miss this]; rfl
  | cons b t ih =>
    rw [tw_cons]
    by_cases h : b = 39
    · subst h
      rw [if_pos rfl]
      show Lib.replaceK [39, 39] [39] (Lib.count (39 :: 39 :: tw t) [39, 39]) (39 :: 39 :: tw t) = _
      have h0 : Lib.index (39 :: 39 :: tw t) [39, 39] = ((0 : Nat) : Int) := by rw [Lib.index]; rfl
      have hc := Lib.count_hit (by simp) h0
      have e1 : (39 :: 39 :: tw t).drop (0 + ([39, 39] : List UInt8).length) = tw t := rfl
      rw [e1] at hc
      rw [hc, Nat.add_comm, Lib.replaceK_hit _ _ _ _ 0 h0, e1, ih]; rfl
    · rw [if_neg h]
      show Lib.replaceK [39, 39] [39] (Lib.count (b :: tw t) [39, 39]) (b :: tw t) = _
      have hi := index2 b (tw t) h
      by_cases k : Lib.index (tw t) [39, 39] = -1
      · rw [if_pos k] at hi
        rw [Lib.count_miss k] at ih
        rw [Lib.count_miss hi]
        have e : tw t = t := ih
        rw [e]; rfl
      · rw [if_neg k] at hi
        obtain ⟨i, hi0⟩ : ∃ i : Nat, Lib.index (tw t) [39, 39] = i := ⟨(Lib.index (tw t) [39, 39]).toNat, by have := Lib.index_ge (tw t) [39, 39]; omega⟩
        have h1 : Lib.index (b :: tw t) [39, 39] = ((i + 1 : Nat) : Int) := by rw [hi, hi0]; rfl
        have hc := Lib.count_hit (by simp) h1
        have hc2 := Lib.count_hit (by simp) hi0
        have e1 : (b :: tw t).drop (i + 1 + ([39, 39] : List UInt8).length) = (tw t).drop (i + ([39, 39] : List UInt8).length) := rfl
        rw [e1] at hc
        rw [hc2, Nat.add_comm, Lib.replaceK_hit _ _ _ _ i hi0] at ih
        rw [hc, Nat.add_comm, Lib.replaceK_hit _ _ _ _ (i + 1) h1, e1]
        show b :: _ = _
        exact congrArg (b :: ·) ih
theorem replaceAll_tw (t : List UInt8) : Lib.replaceAll (tw t) [39, 39] [39] = t := by
  unfold Lib.replaceAll Lib.replace
  rw [if_neg (by decide)]
  have : Lib.replaceNum (tw t) [39, 39] (-1) = Lib.count (tw t) [39, 39] := by unfold Lib.replaceNum; rw [if_pos (.inl (by decide))]
  rw [this, replace_tw]
end Go.Proofs.YtfkfljpajeeclaaDoor.Lx
