/-
  Plain: what a lexer says of bytes; runes and bytes of a text.
-/
import Derived.Lib.ValidLaws
import Derived.Lib.TrimUEq
import Derived.Laws.RangeAny
import Derived.Lib.ItoaNum
import Derived.Lib.Replace
import Derived.Lib.CountLaws
namespace Go.Proofs.YtfkfljpajeeclaaDoor.Lx

def bl (c : UInt8) : Bool := c.toNat == 9 || c.toNat == 10 || c.toNat == 13 || c.toNat == 32
def cap (c : UInt8) : Bool := decide (65 ≤ c.toNat) && decide (c.toNat ≤ 90)
def sm (c : UInt8) : Bool := (decide (97 ≤ c.toNat) && decide (c.toNat ≤ 122)) || c.toNat == 95
def lt (c : UInt8) : Bool := sm c || cap c
def dg (c : UInt8) : Bool := decide (48 ≤ c.toNat) && decide (c.toNat ≤ 57)
def inw (c : UInt8) : Bool := lt c || dg c
def low (c : UInt8) : UInt8 := if cap c then c + 32 else c

/-- A token. -/
structure Tk where
  k : Int
  t : List UInt8
  n : Nat
  at' : Int

/-- The number that digits are, behind n; none above 2^63. -/
def numG : List UInt8 → Nat → Option Nat
  | [], n => some n
  | c :: r, n => if (9223372036854775808 - (c.toNat - 48)) / 10 < n then none else numG r (10 * n + (c.toNat - 48))

/-- A text behind its first apostrophe: what it says, how many bytes it has from there on. -/
def scanT : List UInt8 → Option (List UInt8 × Nat)
  | [] => none
  | [c] => if c = 39 then some ([], 1) else none
  | c :: d :: r => if c = 39 then (if d = 39 then (scanT r).map fun x => (39 :: x.1, x.2 + 2) else some ([], 1)) else (scanT (d :: r)).map fun x => (c :: x.1, x.2 + 1)

def signs : List (List UInt8) := [[40], [41], [44], [59], [46], [42], [43], [45], [47], [37], [61], [60], [62], [60, 62], [60, 61], [62, 61], [124, 124]]
def isS (l : List UInt8) : Bool := signs.contains l

/-- The token that bytes begin with, and how many it has. -/
inductive Nx where
  | tok (x : Tk) (n : Nat)
  | err (e : Int)

def wordW (l : List UInt8) : Nat := (l.takeWhile inw).length
def numW (l : List UInt8) : Nat := (l.takeWhile dg).length
def wordN (l : List UInt8) : Nx := if wordW l > 32 then .err 3 else .tok ⟨1, (l.take (wordW l)).map low, 0, 0⟩ (wordW l)
def numN (l : List UInt8) : Nx := match numG (l.take (numW l)) 0 with
  | none => .err 233
  | some n => .tok ⟨2, [], n, 0⟩ (numW l)
def textN (l : List UInt8) : Nx := match scanT (l.drop 1) with
  | none => .err 231
  | some (said, n) => if Lib.validD said then (if said.length > 64 then .err 3 else .tok ⟨3, said, 0, 0⟩ (n + 1)) else .err 232
def signN (l : List UInt8) : Nx := if 2 ≤ l.length ∧ isS (l.take 2) then .tok ⟨4, l.take 2, 0, 0⟩ 2 else if isS (l.take 1) then .tok ⟨4, l.take 1, 0, 0⟩ 1 else .err 230
def next (l : List UInt8) : Nx := match l with
  | [] => .err 230
  | c :: r => if lt c then wordN (c :: r) else if dg c then numN (c :: r) else if c = 39 then textN (c :: r) else signN (c :: r)

/-- The tokens of bytes from a place on, or the first fault. -/
def lexG : Nat → List UInt8 → Nat → Except (Int × Nat) (List Tk)
  | 0, _, _ => .ok []
  | _ + 1, [], _ => .ok []
  | f + 1, c :: r, at' => if bl c then lexG f r (at' + 1) else match next (c :: r) with
    | .err e => .error (e, at')
    | .tok x n => (lexG f ((c :: r).drop n) (at' + n)).map fun l => { x with at' := at' } :: l
def lexL (l : List UInt8) : Except (Int × Nat) (List Tk) := lexG l.length l 0

/-! ### Widths -/
theorem tw_le (p : UInt8 → Bool) (l : List UInt8) : (l.takeWhile p).length ≤ l.length := (List.takeWhile_prefix p).length_le
theorem scanT_le : ∀ (l said : List UInt8) (n : Nat), scanT l = some (said, n) → 1 ≤ n ∧ n ≤ l.length
  | [], _, _, h => by simp [scanT] at h
  | [c], _, _, h => by
    rw [scanT] at h
    split at h
    · simp only [Option.some.injEq, Prod.mk.injEq] at h; obtain ⟨_, rfl⟩ := h; simp
    · cases h
  | c :: d :: r, said, n, h => by
    rw [scanT] at h
    split at h
    · split at h
      · cases hr : scanT r with
        | none => rw [hr] at h; cases h
        | some x =>
          obtain ⟨a, m⟩ := x
          have := scanT_le r a m hr
          rw [hr] at h
          simp only [Option.map_some, Option.some.injEq, Prod.mk.injEq] at h
          obtain ⟨_, rfl⟩ := h
          simp only [List.length_cons]; omega
      · simp only [Option.some.injEq, Prod.mk.injEq] at h; obtain ⟨_, rfl⟩ := h; simp
    · cases hr : scanT (d :: r) with
      | none => rw [hr] at h; cases h
      | some x =>
        obtain ⟨a, m⟩ := x
        have := scanT_le (d :: r) a m hr
        rw [hr] at h
        simp only [Option.map_some, Option.some.injEq, Prod.mk.injEq] at h
        obtain ⟨_, rfl⟩ := h
        simp only [List.length_cons] at this ⊢; omega

theorem word_pos {c : UInt8} {r : List UInt8} (h : lt c = true) : 1 ≤ wordW (c :: r) := by
  unfold wordW; rw [List.takeWhile_cons_of_pos (by unfold inw; rw [h]; rfl)]; simp
theorem num_pos {c : UInt8} {r : List UInt8} (h : dg c = true) : 1 ≤ numW (c :: r) := by
  unfold numW; rw [List.takeWhile_cons_of_pos h]; simp

theorem isS_len {l : List UInt8} (h : isS l = true) : 1 ≤ l.length := by
  unfold isS signs at h
  cases l with
  | nil => exact absurd h (by decide)
  | cons c r => simp

theorem next_width {l : List UInt8} {x : Tk} {n : Nat} (h : next l = .tok x n) : 1 ≤ n ∧ n ≤ l.length := by
  unfold next at h
  cases l with
  | nil => cases h
  | cons c r =>
    simp only at h
    split at h
    · rename_i hl
      unfold wordN at h
      split at h
      · cases h
      · simp only [Nx.tok.injEq] at h; obtain ⟨_, rfl⟩ := h; exact ⟨word_pos hl, tw_le _ _⟩
    · split at h
      · rename_i hd
        unfold numN at h
        split at h
        · cases h
        · simp only [Nx.tok.injEq] at h; obtain ⟨_, rfl⟩ := h; exact ⟨num_pos hd, tw_le _ _⟩
      · split at h
        · unfold textN at h
          split at h
          · cases h
          · rename_i said m hs
            have := scanT_le _ _ _ hs
            split at h
            · split at h
              · cases h
              · simp only [Nx.tok.injEq] at h; obtain ⟨_, rfl⟩ := h
                simp only [List.drop_succ_cons, List.drop_zero] at this
                simp only [List.length_cons]; omega
            · cases h
        · unfold signN at h
          split at h
          · rename_i h2
            simp only [Nx.tok.injEq] at h; obtain ⟨_, rfl⟩ := h; exact ⟨by omega, h2.1⟩
          · split at h
            · simp only [Nx.tok.injEq] at h; obtain ⟨_, rfl⟩ := h; exact ⟨by omega, by simp⟩
            · cases h

theorem lexG_fuel : ∀ (f g : Nat) (l : List UInt8) (a : Nat), l.length ≤ f → l.length ≤ g → lexG f l a = lexG g l a
  | 0, g, l, a, hf, _ => by
    have : l = [] := List.eq_nil_of_length_eq_zero (by omega)
    subst this
    cases g <;> rfl
  | f + 1, 0, l, a, _, hg => by
    have : l = [] := List.eq_nil_of_length_eq_zero (by omega)
    subst this
    rfl
  | f + 1, g + 1, [], a, _, _ => rfl
  | f + 1, g + 1, c :: r, a, hf, hg => by
    simp only [lexG]
    simp only [List.length_cons] at hf hg
    rw [lexG_fuel f g r (a + 1) (by omega) (by omega)]
    cases hx : next (c :: r) with
    | err e => rfl
    | tok x n =>
      have := next_width hx
      simp only [List.length_cons] at this
      simp only
      rw [lexG_fuel f g ((c :: r).drop n) (a + n) (by rw [List.length_drop, List.length_cons]; omega) (by rw [List.length_drop, List.length_cons]; omega)]

/-- From a place on. -/
def lexA (l : List UInt8) (a : Nat) : Except (Int × Nat) (List Tk) := lexG l.length l a
theorem lexA_nil (a : Nat) : lexA [] a = .ok [] := rfl
theorem lexA_blank {c : UInt8} (r : List UInt8) (a : Nat) (h : bl c = true) : lexA (c :: r) a = lexA r (a + 1) := by
  unfold lexA; rw [List.length_cons, lexG, if_pos h]
theorem lexA_err {c : UInt8} {r : List UInt8} {e : Int} (a : Nat) (h : bl c = false) (hn : next (c :: r) = .err e) : lexA (c :: r) a = .error (e, a) := by
  unfold lexA; rw [List.length_cons, lexG, if_neg (by simp [h]), hn]
theorem lexA_tok {c : UInt8} {r : List UInt8} {x : Tk} {n : Nat} (a : Nat) (h : bl c = false) (hn : next (c :: r) = .tok x n) : lexA (c :: r) a = (lexA ((c :: r).drop n) (a + n)).map fun l => { x with at' := a } :: l := by
  have hw := next_width hn
  simp only [List.length_cons] at hw
  unfold lexA; rw [List.length_cons, lexG, if_neg (by simp [h]), hn]
  simp only
  rw [lexG_fuel r.length ((c :: r).drop n).length _ _ (by rw [List.length_drop, List.length_cons]; omega) (Nat.le_refl _)]

/-! ### Runes and bytes -/
theorem decode_cont (s : ByteArray) (pos : Nat) : ∀ j, 1 ≤ j → j < (Utf8.decode s pos).2 → pos + j < s.size ∧ (s.get! (pos + j)).toNat / 64 = 2 := by
  intro j h1 h2
  simp only [Utf8.decode] at h2
  split at h2
  · simp at h2; omega
  · split at h2
    · rename_i hc
      simp only [Bool.and_eq_true, decide_eq_true_eq, beq_iff_eq] at hc
      split at h2
      · simp only at h2
        obtain rfl : j = 1 := by omega
        exact ⟨hc.2.1, hc.2.2⟩
      · simp at h2; omega
    · split at h2
      · rename_i hc
        simp only [Bool.and_eq_true, decide_eq_true_eq, beq_iff_eq] at hc
        split at h2
        · simp only at h2
          obtain rfl | rfl : j = 1 ∨ j = 2 := by omega
          · exact ⟨hc.1.2.1, hc.1.2.2⟩
          · exact ⟨hc.2.1, hc.2.2⟩
        · simp at h2; omega
      · split at h2
        · rename_i hc
          simp only [Bool.and_eq_true, decide_eq_true_eq, beq_iff_eq] at hc
          split at h2
          · simp only at h2
            obtain rfl | rfl | rfl : j = 1 ∨ j = 2 ∨ j = 3 := by omega
            · exact ⟨hc.1.1.2.1, hc.1.1.2.2⟩
            · exact ⟨hc.1.2.1, hc.1.2.2⟩
            · exact ⟨hc.2.1, hc.2.2⟩
          · simp at h2; omega
        · simp at h2; omega

theorem get_list (s : ByteArray) (i : Nat) (h : i < s.size) : s.data.toList[i]? = some (s.get! i) := by
  have e : s.get! i = s[i]'h := by
    have := get_at s i h
    rwa [Nat.add_zero] at this
  rw [e, Array.getElem?_toList]
  exact Array.getElem?_eq_getElem h
theorem get_big (s : ByteArray) (i : Nat) (h : i < s.size) : s.get! i = s[i]'h := by
  have := get_at s i h
  rwa [Nat.add_zero] at this
/-- What the bytes from a place on are. -/
theorem drop_at (s : ByteArray) (pos : Nat) (h : pos < s.size) : s.data.toList.drop pos = s[pos]'h :: s.data.toList.drop (pos + 1) := by
  have hl : pos < s.data.toList.length := by rw [Array.length_toList]; exact h
  rw [List.drop_eq_getElem_cons hl]
  rfl
theorem decode_pos (s : ByteArray) (pos : Nat) (h : pos < s.size) : 1 ≤ (Utf8.decode s pos).2 := by
  by_cases ha : (s[pos]'h).toNat < 128
  · rw [decode_ascii s pos h ha]; exact Nat.le_refl _
  · exact (decode_high s pos h (by omega)).2
/-- A rune never goes beyond a byte below 128. -/
theorem decode_stop (s : ByteArray) (pos q : Nat) (h : pos < q) (hq : q < s.size) (ha : (s[q]'hq).toNat < 128) : pos + (Utf8.decode s pos).2 ≤ q := by
  apply Nat.le_of_not_lt
  intro hc
  have := decode_cont s pos (q - pos) (by omega) (by omega)
  rw [show pos + (q - pos) = q from by omega, get_big s q hq] at this
  omega
theorem decode_in (s : ByteArray) (pos : Nat) (h : pos < s.size) : pos + (Utf8.decode s pos).2 ≤ s.size := by
  apply Nat.le_of_not_lt
  intro hc
  have := decode_cont s pos (s.size - pos) (by omega) (by omega)
  omega
end Go.Proofs.YtfkfljpajeeclaaDoor.Lx
