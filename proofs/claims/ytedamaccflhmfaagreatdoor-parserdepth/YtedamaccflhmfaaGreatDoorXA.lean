/-
  Plain: what a lexer says of bytes; runes and bytes of a text. .. and what follows from it.
-/
import Derived.Lib.ValidLaws
import Derived.Lib.TrimUEq
import Derived.Laws.RangeAny
import Derived.Lib.ItoaNum
import Derived.Lib.Replace
import Derived.Lib.CountLaws
namespace Go.Proofs.YtedamaccflhmfaaGreatDoor.Lx

def bl (c : UInt8) : Bool := c.toNat == 9 || c.toNat == 10 || c.toNat == 13 || c.toNat == 32
def cap (c : UInt8) : Bool := decide (65 ≤ c.toNat) && decide (c.toNat ≤ 90)
def sm (c : UInt8) : Bool := (decide (97 ≤ c.toNat) && decide (c.toNat ≤ 122)) || c.toNat == 95
def lt (c : UInt8) : Bool := sm c || cap c
def dg (c : UInt8) : Bool := decide (48 ≤ c.toNat) && decide (c.toNat ≤ 57)
def inw (c : UInt8) : Bool := lt c || dg c
def low (c : UInt8) : UInt8 := if cap c then c + 32 else c

/-- A token. -/
structure Tk where
  k : Int
  t : List UInt8
  n : Nat
  at' : Int

/-- The number that digits are, behind n; none above 2^63. -/
def numG : List UInt8 → Nat → Option Nat
  | [], n => some n
  | c :: r, n => if (9223372036854775808 - (c.toNat - 48)) / 10 < n then none else numG r (10 * n + (c.toNat - 48))

/-- A text behind its first apostrophe: what it says, how many bytes it has from there on. -/
def scanT : List UInt8 → Option (List UInt8 × Nat)
  | [] => none
  | [c] => if c = 39 then some ([], 1) else none
  | c :: d :: r => if c = 39 then (if d = 39 then (scanT r).map fun x => (39 :: x.1, x.2 + 2) else some ([], 1)) else (scanT (d :: r)).map fun x => (c :: x.1, x.2 + 1)

def signs : List (List UInt8) := [[40], [41], [44], [59], [46], [42], [43], [45], [47], [37], [61], [60], [62], [60, 62], [60, 61], [62, 61], [124, 124]]
def isS (l : List UInt8) : Bool := signs.contains l

/-- The token that bytes begin with, and how many it has. -/
inductive Nx where
  | tok (x : Tk) (n : Nat)
  | err (e : Int)

def wordW (l : List UInt8) : Nat := (l.takeWhile inw).length
def numW (l : List UInt8) : Nat := (l.takeWhile dg).length
def wordN (l : List UInt8) : Nx := if wordW l > 32 then .err 3 else .tok ⟨1, (l.take (wordW l)).map low, 0, 0⟩ (wordW l)
def numN (l : List UInt8) : Nx := match numG (l.take (numW l)) 0 with
  | none => .err 233
  | some n => .tok ⟨2, [], n, 0⟩ (numW l)
def textN (l : List UInt8) : Nx := match scanT (l.drop 1) with
  | none => .err 231
  | some (said, n) => if Lib.validD said then (if said.length > 64 then .err 3 else .tok ⟨3, said, 0, 0⟩ (n + 1)) else .err 232
def signN (l : List UInt8) : Nx := if 2 ≤ l.length ∧ isS (l.take 2) then .tok ⟨4, l.take 2, 0, 0⟩ 2 else if isS (l.take 1) then .tok ⟨4, l.take 1, 0, 0⟩ 1 else .err 230
def next (l : List UInt8) : Nx := match l with
  | [] => .err 230
  | c :: r => if lt c then wordN (c :: r) else if dg c then numN (c :: r) else if c = 39 then textN (c :: r) else signN (c :: r)

/-- The tokens of bytes from a place on, or the first fault. -/
def lexG : Nat → List UInt8 → Nat → Except (Int × Nat) (List Tk)
  | 0, _, _ => .ok []
  | _ + 1, [], _ => .ok []
  | f + 1, c :: r, at' => if bl c then lexG f r (at' + 1) else match next (c :: r) with
    | .err e => .error (e, at')
    | .tok x n => (lexG f ((c :: r).drop n) (at' + n)).map fun l => { x with at' := at' } :: l
def lexL (l : List UInt8) : Except (Int × Nat) (List Tk) := lexG l.length l 0

/-! ### Widths -/
theorem tw_le (p : UInt8 → Bool) (l : List UInt8) : (l.takeWhile p).length ≤ l.length := (List.takeWhile_prefix p).length_le
theorem scanT_le : ∀ (l said : List UInt8) (n : Nat), scanT l = some (said, n) → 1 ≤ n ∧ n ≤ l.length
  | [], _, _, h => by simp [scanT] at h
  | [c], _, _, h => by
    rw [scanT] at h
    split at h
    · simp only [Option.some.injEq, Prod.mk.injEq] at h; obtain ⟨_, rfl⟩ := h; simp
    · cases h
  | c :: d :: r, said, n, h => by
    rw [scanT] at h
    split at h
    · split at h
      · cases hr : scanT r with
        | none => rw [hr] at h; cases h
        | some x =>
          obtain ⟨a, m⟩ := x
          have := scanT_le r a m hr
          rw [hr] at h
          simp only [Option.map_some, Option.some.injEq, Prod.mk.injEq] at h
          obtain ⟨_, rfl⟩ := h
          simp only [List.length_cons]; omega
      · simp only [Option.some.injEq, Prod.mk.injEq] at h; obtain ⟨_, rfl⟩ := h; simp
    · cases hr : scanT (d :: r) with
      | none => rw [hr] at h; cases h
      | some x =>
        obtain ⟨a, m⟩ := x
        have := scanT_le (d :: r) a m hr
        rw [hr] at h
        simp only [Option.map_some, Option.some.injEq, Prod.mk.injEq] at h
        obtain ⟨_, rfl⟩ := h
        simp only [List.length_cons] at this ⊢; omega

theorem word_pos {c : UInt8} {r : List UInt8} (h : lt c = true) : 1 ≤ wordW (c :: r) := by
  unfold wordW; rw [List.takeWhile_cons_of_pos (by unfold inw; rw [h]; rfl)]; simp
theorem num_pos {c : UInt8} {r : List UInt8} (h : dg c = true) : 1 ≤ numW (c :: r) := by
  unfold numW; rw [List.takeWhile_cons_of_pos h]; simp

theorem isS_len {l : List UInt8} (h : isS l = true) : 1 ≤ l.length := by
  unfold isS signs at h
  cases l with
  | nil => exact absurd h (by decide)
  | cons c r => simp

theorem next_width {l : List UInt8} {x : Tk} {n : Nat} (h : next l = .tok x n) : 1 ≤ n ∧ n ≤ l.length := by
  unfold next at h
  cases l with
  | nil => cases h
  | cons c r =>
    simp only at h
    split at h
    · rename_i hl
      unfold wordN at h
      split at h
      · cases h
      · simp only [Nx.tok.injEq] at h; obtain ⟨_, rfl⟩ := h; exact ⟨word_pos hl, tw_le _ _⟩
    · split at h
      · rename_i hd
        unfold numN at h
        split at h
        · cases h
        · simp only [Nx.tok.injEq] at h; obtain ⟨_, rfl⟩ := h; exact ⟨num_pos hd, tw_le _ _⟩
      · split at h
        · unfold textN at h
          split at h
          · cases h
          · rename_i said m hs
            have := scanT_le _ _ _ hs
            split at h
            · split at h
              · cases h
              · simp only [Nx.tok.injEq] at h; obtain ⟨_, rfl⟩ := h
                simp only [List.drop_succ_cons, List.drop_zero] at this
                simp only [List.length_cons]; omega
            · cases h
        · unfold signN at h
          split at h
          · rename_i h2
            simp only [Nx.tok.injEq] at h; obtain ⟨_, rfl⟩ := h; exact ⟨by omega, h2.1⟩
          · split at h
            · simp only [Nx.tok.injEq] at h; obtain ⟨_, rfl⟩ := h; exact ⟨by omega, by simp⟩
            · cases h

theorem lexG_fuel : ∀ (f g : Nat) (l : List UInt8) (a : Nat), l.length ≤ f → l.length ≤ g → lexG f l a = lexG g l a
  | 0, g, l, a, hf, _ => by
    have : l = [] := List.eq_nil_of_length_eq_zero (by omega)
    subst this
    cases g <;> rfl
  | f + 1, 0, l, a, _, hg => by
    have : l = [] := List.eq_nil_of_length_eq_zero (by omega)
    subst this
    rfl
  | f + 1, g + 1, [], a, _, _ => rfl
  | f + 1, g + 1, c :: r, a, hf, hg => by
    simp only [lexG]
    simp only [List.length_cons] at hf hg
    rw [lexG_fuel f g r (a + 1) (by omega) (by omega)]
    cases hx : next (c :: r) with
    | err e => rfl
    | tok x n =>
      have := next_width hx
      simp only [List.length_cons] at this
      simp only
      rw [lexG_fuel f g ((c :: r).drop n) (a + n) (by rw [List.length_drop, List.length_cons]; omega) (by rw [List.length_drop, List.length_cons]; omega)]

/-- From a place on. -/
def lexA (l : List UInt8) (a : Nat) : Except (Int × Nat) (List Tk) := lexG l.length l a
theorem lexA_nil (a : Nat) : lexA [] a = .ok [] := rfl
theorem lexA_blank {c : UInt8} (r : List UInt8) (a : Nat) (h : bl c = true) : lexA (c :: r) a = lexA r (a + 1) := by
  unfold lexA; rw [List.length_cons, lexG, if_pos h]
theorem lexA_err {c : UInt8} {r : List UInt8} {e : Int} (a : Nat) (h : bl c = false) (hn : next (c :: r) = .err e) : lexA (c :: r) a = .error (e, a) := by
  unfold lexA; rw [List.length_cons, lexG, if_neg (by simp [h]), hn]
theorem lexA_tok {c : UInt8} {r : List UInt8} {x : Tk} {n : Nat} (a : Nat) (h : bl c = false) (hn : next (c :: r) = .tok x n) : lexA (c :: r) a = (lexA ((c :: r).drop n) (a + n)).map fun l => { x with at' := a } :: l := by
  have hw := next_width hn
  simp only [List.length_cons] at hw
  unfold lexA; rw [List.length_cons, lexG, if_neg (by simp [h]), hn]
  simp only
  rw [lexG_fuel r.length ((c :: r).drop n).length _ _ (by rw [List.length_drop, List.length_cons]; omega) (Nat.le_refl _)]

/-! ### Runes and bytes -/
theorem decode_cont (s : ByteArray) (pos : Nat) : ∀ j, 1 ≤ j → j < (Utf8.decode s pos).2 → pos + j < s.size ∧ (s.get! (pos + j)).toNat / 64 = 2 := by
  intro j h1 h2
  simp only [Utf8.decode] at h2
  split at h2
  · simp at h2; omega
  · split at h2
    · rename_i hc
      simp only [Bool.and_eq_true, decide_eq_true_eq, beq_iff_eq] at hc
      split at h2
      · simp only at h2
        obtain rfl : j = 1 := by omega
        exact ⟨hc.2.1, hc.2.2⟩
      · simp at h2; omega
    · split at h2
      · rename_i hc
        simp only [Bool.and_eq_true, decide_eq_true_eq, beq_iff_eq] at hc
        split at h2
        · simp only at h2
          obtain rfl | rfl : j = 1 ∨ j = 2 := by omega
          · exact ⟨hc.1.2.1, hc.1.2.2⟩
          · exact ⟨hc.2.1, hc.2.2⟩
        · simp at h2; omega
      · split at h2
        · rename_i hc
          simp only [Bool.and_eq_true, decide_eq_true_eq, beq_iff_eq] at hc
          split at h2
          · simp only at h2
            obtain rfl | rfl | rfl : j = 1 ∨ j = 2 ∨ j = 3 := by omega
            · exact ⟨hc.1.1.2.1, hc.1.1.2.2⟩
            · exact ⟨hc.1.2.1, hc.1.2.2⟩
            · exact ⟨hc.2.1, hc.2.2⟩
          · simp at h2; omega
        · simp at h2; omega

theorem get_list (s : ByteArray) (i : Nat) (h : i < s.size) : s.data.toList[i]? = some (s.get! i) := by
  have e : s.get! i = s[i]'h := by
    have := get_at s i h
    rwa [Nat.add_zero] at this
  rw [e, Array.getElem?_toList]
  exact Array.getElem?_eq_getElem h
theorem get_big (s : ByteArray) (i : Nat) (h : i < s.size) : s.get! i = s[i]'h := by
  have := get_at s i h
  rwa [Nat.add_zero] at this
/-- What the bytes from a place on are. -/
theorem drop_at (s : ByteArray) (pos : Nat) (h : pos < s.size) : s.data.toList.drop pos = s[pos]'h :: s.data.toList.drop (pos + 1) := by
  have hl : pos < s.data.toList.length := by rw [Array.length_toList]; exact h
  rw [List.drop_eq_getElem_cons hl]
  rfl
theorem decode_pos (s : ByteArray) (pos : Nat) (h : pos < s.size) : 1 ≤ (Utf8.decode s pos).2 := by
  by_cases ha : (s[pos]'h).toNat < 128
  · rw [decode_ascii s pos h ha]; exact Nat.le_refl _
  · exact (decode_high s pos h (by omega)).2
/-- A rune never goes beyond a byte below 128. -/
theorem decode_stop (s : ByteArray) (pos q : Nat) (h : pos < q) (hq : q < s.size) (ha : (s[q]'hq).toNat < 128) : pos + (Utf8.decode s pos).2 ≤ q := by
  apply Nat.le_of_not_lt
  intro hc
  have := decode_cont s pos (q - pos) (by omega) (by omega)
  rw [show pos + (q - pos) = q from by omega, get_big s q hq] at this
  omega
theorem decode_in (s : ByteArray) (pos : Nat) (h : pos < s.size) : pos + (Utf8.decode s pos).2 ≤ s.size := by
  apply Nat.le_of_not_lt
  intro hc
  have := decode_cont s pos (s.size - pos) (by omega) (by omega)
  omega
end Go.Proofs.YtedamaccflhmfaaGreatDoor.Lx
namespace Go.Proofs.YtedamaccflhmfaaGreatDoor.Lx

theorem bl_iff (c : UInt8) : bl c = true ↔ c.toNat = 9 ∨ c.toNat = 10 ∨ c.toNat = 13 ∨ c.toNat = 32 := by
  simp [bl]; omega
theorem sm_iff (c : UInt8) : sm c = true ↔ (97 ≤ c.toNat ∧ c.toNat ≤ 122) ∨ c.toNat = 95 := by simp [sm]
theorem cap_iff (c : UInt8) : cap c = true ↔ 65 ≤ c.toNat ∧ c.toNat ≤ 90 := by simp [cap]
theorem dg_iff (c : UInt8) : dg c = true ↔ 48 ≤ c.toNat ∧ c.toNat ≤ 57 := by simp [dg]
theorem lt_iff (c : UInt8) : lt c = true ↔ (97 ≤ c.toNat ∧ c.toNat ≤ 122) ∨ c.toNat = 95 ∨ (65 ≤ c.toNat ∧ c.toNat ≤ 90) := by
  simp only [lt, Bool.or_eq_true, sm_iff, cap_iff]; omega
theorem inw_iff (c : UInt8) : inw c = true ↔ (97 ≤ c.toNat ∧ c.toNat ≤ 122) ∨ c.toNat = 95 ∨ (65 ≤ c.toNat ∧ c.toNat ≤ 90) ∨ (48 ≤ c.toNat ∧ c.toNat ≤ 57) := by
  simp only [inw, Bool.or_eq_true, lt_iff, dg_iff]; omega
theorem eq_false_of {b : Bool} (h : ¬ b = true) : b = false := by simpa using h
theorem bl_inw {c : UInt8} (h : bl c = true) : inw c = false := eq_false_of (by rw [inw_iff]; rw [bl_iff] at h; omega)
theorem bl_dg {c : UInt8} (h : bl c = true) : dg c = false := eq_false_of (by rw [dg_iff]; rw [bl_iff] at h; omega)
theorem bl_lt {c : UInt8} (h : bl c = true) : lt c = false := eq_false_of (by rw [lt_iff]; rw [bl_iff] at h; omega)
theorem u8_of (c : UInt8) (n : Nat) (hn : n < 256) : c = UInt8.ofNat n ↔ c.toNat = n := by
  constructor
  · rintro rfl; simp; omega
  · intro h; apply UInt8.toNat_inj.1; simp; omega
theorem ne39 {c : UInt8} (h : bl c = true) : c ≠ 39 := by
  rintro rfl; exact absurd h (by decide)

/-- Nothing stands behind, or a blank. -/
def Ends (r : List UInt8) : Prop := r = [] ∨ ∃ b t, r = b :: t ∧ bl b = true
theorem ends_nil : Ends [] := .inl rfl
theorem ends_cons {b : UInt8} (t : List UInt8) (h : bl b = true) : Ends (b :: t) := .inr ⟨b, t, rfl, h⟩

theorem take_tw (p : UInt8 → Bool) (l : List UInt8) : l.take (l.takeWhile p).length = l.takeWhile p := by
  induction l with
  | nil => rfl
  | cons c r ih =>
    by_cases h : p c = true
    · rw [List.takeWhile_cons_of_pos h, List.length_cons, List.take_succ_cons, ih]
    · rw [List.takeWhile_cons_of_neg h]; rfl
theorem tw_all (p : UInt8 → Bool) (l : List UInt8) : ∀ a ∈ l.takeWhile p, p a = true := by
  intro a ha
  exact List.all_eq_true.1 (List.all_takeWhile (l := l) (p := p)) a ha
theorem tw_ends (p : UInt8 → Bool) (hp : ∀ c, bl c = true → p c = false) {r : List UInt8} (h : Ends r) : r.takeWhile p = [] := by
  rcases h with rfl | ⟨b, t, rfl, hb⟩
  · rfl
  · rw [List.takeWhile_cons_of_neg (by rw [hp b hb]; simp)]
theorem tw_app (p : UInt8 → Bool) (hp : ∀ c, bl c = true → p c = false) (l : List UInt8) (h : ∀ a ∈ l, p a = true) {r : List UInt8} (hr : Ends r) : (l ++ r).takeWhile p = l := by
  rw [List.takeWhile_append_of_pos h, tw_ends p hp hr, List.append_nil]

theorem isS_not {c b : UInt8} (h : bl b = true) : isS [c, b] = false := by
  apply eq_false_of
  unfold isS signs
  simp only [List.contains_eq_mem, List.mem_cons, List.cons.injEq, List.not_mem_nil, reduceCtorEq, and_false, and_true, or_false, false_or, decide_eq_true_eq]
  rw [bl_iff] at h
  rintro (⟨_, rfl⟩ | ⟨_, rfl⟩ | ⟨_, rfl⟩ | ⟨_, rfl⟩) <;> simp at h

theorem scanT_end : ∀ (l said : List UInt8) (n : Nat), scanT l = some (said, n) → ∀ r, Ends r → scanT (l.take n ++ r) = some (said, n)
  | [], _, _, h, _, _ => by simp [scanT] at h
  | [c], said, n, h, r, hr => by
    rw [scanT] at h
    split at h
    · simp only [Option.some.injEq, Prod.mk.injEq] at h
      obtain ⟨rfl, rfl⟩ := h
      rename_i hc
      subst hc
      rcases hr with rfl | ⟨b, t, rfl, hb⟩
      · rfl
      · show scanT (39 :: b :: t) = _
        rw [scanT, if_pos rfl, if_neg (ne39 hb)]
    · cases h
  | c :: d :: q, said, n, h, r, hr => by
    rw [scanT] at h
    split at h
    · rename_i hc
      subst hc
      split at h
      · rename_i hd
        subst hd
        cases hq : scanT q with
        | none => rw [hq] at h; cases h
        | some x =>
          obtain ⟨a, m⟩ := x
          have ih := scanT_end q a m hq r hr
          rw [hq] at h
          simp only [Option.map_some, Option.some.injEq, Prod.mk.injEq] at h
          obtain ⟨rfl, rfl⟩ := h
          show scanT (39 :: 39 :: (q.take m ++ r)) = _
          rw [scanT, if_pos rfl, if_pos rfl, ih]; rfl
      · simp only [Option.some.injEq, Prod.mk.injEq] at h
        obtain ⟨rfl, rfl⟩ := h
        rcases hr with rfl | ⟨b, t, rfl, hb⟩
        · rfl
        · show scanT (39 :: b :: t) = _
          rw [scanT, if_pos rfl, if_neg (ne39 hb)]
    · rename_i hc
      cases hq : scanT (d :: q) with
      | none => rw [hq] at h; cases h
      | some x =>
        obtain ⟨a, m⟩ := x
        have ih := scanT_end (d :: q) a m hq r hr
        have hm := scanT_le (d :: q) a m hq
        rw [hq] at h
        simp only [Option.map_some, Option.some.injEq, Prod.mk.injEq] at h
        obtain ⟨rfl, rfl⟩ := h
        obtain ⟨k, rfl⟩ : ∃ k, m = k + 1 := ⟨m - 1, by omega⟩
        have e : (c :: d :: q).take (k + 1 + 1) ++ r = c :: d :: (q.take k ++ r) := rfl
        have e2 : (d :: q).take (k + 1) ++ r = d :: (q.take k ++ r) := rfl
        rw [e2] at ih
        rw [e, scanT, if_neg hc, ih]; rfl

/-- A token's bytes, with nothing or a blank behind them, are that token. -/
theorem next_end {l : List UInt8} {x : Tk} {n : Nat} (h : next l = .tok x n) {r : List UInt8} (hr : Ends r) : next (l.take n ++ r) = .tok x n := by
  have hw := next_width h
  cases l with
  | nil => cases h
  | cons c q =>
    obtain ⟨m, rfl⟩ : ∃ m, n = m + 1 := ⟨n - 1, by omega⟩
    have e0 : (c :: q).take (m + 1) ++ r = c :: (q.take m ++ r) := rfl
    unfold next at h ⊢
    rw [e0]
    simp only at h ⊢
    split
    · rename_i hl
      rw [if_pos hl] at h
      unfold wordN at h
      split at h
      · cases h
      · rename_i h32
        simp only [Nx.tok.injEq] at h
        obtain ⟨hx, hm⟩ := h
        have ht : (c :: q).take (m + 1) = (c :: q).takeWhile inw := by rw [← hm]; exact take_tw _ _
        have hW : wordW ((c :: q).take (m + 1) ++ r) = m + 1 := by
          unfold wordW
          rw [ht, tw_app inw (fun c h => bl_inw h) _ (tw_all _ _) hr]
          exact hm
        rw [← e0]
        unfold wordN
        rw [hW, if_neg (by rw [hm] at h32; exact h32)]
        rw [hm] at hx
        rw [← hx, List.take_append_of_le_length (by rw [List.length_take]; omega), List.take_take, Nat.min_self]
    · rename_i hl
      rw [if_neg hl] at h
      split
      · rename_i hd
        rw [if_pos hd] at h
        unfold numN at h
        split at h
        · cases h
        · rename_i u hu
          simp only [Nx.tok.injEq] at h
          obtain ⟨hx, hm⟩ := h
          have ht : (c :: q).take (m + 1) = (c :: q).takeWhile dg := by rw [← hm]; exact take_tw _ _
          have hW : numW ((c :: q).take (m + 1) ++ r) = m + 1 := by
            unfold numW
            rw [ht, tw_app dg (fun c h => bl_dg h) _ (tw_all _ _) hr]
            exact hm
          rw [← e0]
          unfold numN
          rw [hW, List.take_append_of_le_length (by rw [List.length_take]; omega), List.take_take, Nat.min_self]
          rw [hm] at hu
          rw [hu]
          simp only
          rw [hx]
      · rename_i hd
        rw [if_neg hd] at h
        split
        · rename_i h39
          rw [if_pos h39] at h
          unfold textN at h ⊢
          simp only [List.drop_succ_cons, List.drop_zero] at h ⊢
          split at h
          · cases h
          · rename_i said k hk
            have hs := scanT_end q said k hk r hr
            split at h
            · rename_i hv
              split at h
              · cases h
              · rename_i h64
                simp only [Nx.tok.injEq] at h
                obtain ⟨hx, hm⟩ := h
                obtain rfl : k = m := by omega
                rw [hs]
                simp only
                rw [if_pos hv, if_neg h64, hx]
            · cases h
        · rename_i h39
          rw [if_neg h39] at h
          unfold signN at h ⊢
          split at h
          · rename_i h2
            simp only [Nx.tok.injEq] at h
            obtain ⟨hx, hm⟩ := h
            obtain rfl : m = 1 := by omega
            cases q with
            | nil => simp at h2
            | cons d q2 =>
              have e1 : c :: ((d :: q2).take 1 ++ r) = c :: d :: r := rfl
              rw [e1]
              have e2 : (c :: d :: r).take 2 = (c :: d :: q2).take 2 := rfl
              rw [if_pos ⟨by simp, by rw [e2]; exact h2.2⟩, e2, hx]
          · rename_i h2
            split at h
            · rename_i h1
              simp only [Nx.tok.injEq] at h
              obtain ⟨hx, hm⟩ := h
              obtain rfl : m = 0 := by omega
              have e1 : c :: (q.take 0 ++ r) = c :: r := rfl
              rw [e1]
              have hn : ¬ (2 ≤ (c :: r).length ∧ isS ((c :: r).take 2) = true) := by
                rcases hr with rfl | ⟨b, t, rfl, hb⟩
                · simp
                · rintro ⟨_, h'⟩
                  have e3 : (c :: b :: t).take 2 = [c, b] := rfl
                  rw [e3, isS_not hb] at h'; cases h'
              rw [if_neg hn]
              have e4 : (c :: r).take 1 = (c :: q).take 1 := rfl
              rw [e4, if_pos h1, hx]
            · cases h

theorem next_bl {l : List UInt8} {x : Tk} {n : Nat} (h : next l = .tok x n) : ∃ c r, l = c :: r ∧ bl c = false := by
  cases l with
  | nil => cases h
  | cons c r =>
    refine ⟨c, r, rfl, eq_false_of fun hb => ?_⟩
    unfold next at h
    simp only at h
    rw [if_neg (by rw [bl_lt hb]; simp), if_neg (by rw [bl_dg hb]; simp), if_neg (ne39 hb)] at h
    unfold signN at h
    split at h
    · rename_i h2
      obtain ⟨h2, h3⟩ := h2
      cases r with
      | nil => simp at h2
      | cons d q =>
        have e3 : (c :: d :: q).take 2 = [c, d] := rfl
        rw [e3] at h3
        unfold isS signs at h3
        simp only [List.contains_eq_mem, List.mem_cons, List.cons.injEq, List.not_mem_nil, reduceCtorEq, and_false, and_true, or_false, false_or, decide_eq_true_eq] at h3
        rw [bl_iff] at hb
        rcases h3 with ⟨rfl, _⟩ | ⟨rfl, _⟩ | ⟨rfl, _⟩ | ⟨rfl, _⟩ <;> simp at hb
    · split at h
      · rename_i h3
        have e3 : (c :: r).take 1 = [c] := rfl
        rw [e3] at h3
        unfold isS signs at h3
        simp only [List.contains_eq_mem, List.mem_cons, List.cons.injEq, List.not_mem_nil, reduceCtorEq, and_false, and_true, or_false, decide_eq_true_eq] at h3
        rw [bl_iff] at hb
        rcases h3 with rfl | rfl | rfl | rfl | rfl | rfl | rfl | rfl | rfl | rfl | rfl | rfl | rfl <;> simp at hb
      · cases h

/-- One token and what stands behind it. -/
theorem lexA_next {l : List UInt8} {x : Tk} {n : Nat} (a : Nat) (h : next l = .tok x n) : lexA l a = (lexA (l.drop n) (a + n)).map fun q => { x with at' := a } :: q := by
  obtain ⟨c, r, rfl, hb⟩ := next_bl h
  exact lexA_tok a hb h
theorem lexA_blanks : ∀ (B r : List UInt8) (a : Nat), (∀ b ∈ B, bl b = true) → lexA (B ++ r) a = lexA r (a + B.length)
  | [], r, a, _ => by simp
  | b :: B, r, a, h => by
    rw [List.cons_append, lexA_blank _ _ (h b (by simp)), lexA_blanks B r (a + 1) (fun c hc => h c (by simp [hc])), List.length_cons]
    congr 1; omega
/-- A token's bytes, blanks behind them, then more. -/
theorem lexA_piece {l : List UInt8} {x : Tk} {n : Nat} (h : next l = .tok x n) (B r : List UInt8) (hB : ∀ b ∈ B, bl b = true) (hE : B ≠ [] ∨ Ends r) (a : Nat) :
    lexA (l.take n ++ (B ++ r)) a = (lexA r (a + n + B.length)).map fun q => { x with at' := a } :: q := by
  have hw := next_width h
  have he : Ends (B ++ r) := by
    cases B with
    | nil => rcases hE with h | h
             · exact absurd rfl h
             · exact h
    | cons b B => exact ends_cons _ (hB b (by simp))
  rw [lexA_next a (next_end h he)]
  have hl : (l.take n).length = n := by rw [List.length_take]; omega
  have e : (l.take n ++ (B ++ r)).drop n = B ++ r := by
    rw [List.drop_append_of_le_length (by omega), List.drop_of_length_le (by omega), List.nil_append]
  rw [e, lexA_blanks B r _ hB]
end Go.Proofs.YtedamaccflhmfaaGreatDoor.Lx
namespace Go.Proofs.YtedamaccflhmfaaGreatDoor.Lx

def tw (l : List UInt8) : List UInt8 := l.flatMap fun c => if c = 39 then [39, 39] else [c]
def isWd (l : List UInt8) : Bool := match l with
  | [] => false
  | c :: r => sm c && r.all (fun d => sm d || dg d) && decide ((c :: r).length ≤ 32)
/-- A token may be. -/
def mayT (x : Tk) : Bool := x.at' == 0 && (x.k == 2 || x.n == 0) &&
  (if x.k = 1 then isWd x.t else if x.k = 2 then x.t.isEmpty && decide (x.n ≤ 9223372036854775808) else if x.k = 3 then decide (x.t.length ≤ 64) && Lib.validD x.t else if x.k = 4 then isS x.t else false)
/-- What it says, as a text. -/
def saidT (x : Tk) : List UInt8 := if x.k = 2 then Lib.decDigits x.n else if x.k = 3 then 39 :: (tw x.t ++ [39]) else x.t
def unp (x : Tk) : Tk := { x with at' := 0 }

theorem tw_cons (c : UInt8) (s : List UInt8) : tw (c :: s) = (if c = 39 then [39, 39] else [c]) ++ tw s := by simp [tw]
theorem scan_tw : ∀ t : List UInt8, scanT (tw t ++ [39]) = some (t, (tw t).length + 1)
  | [] => rfl
  | c :: t => by
    have ih := scan_tw t
    rw [tw_cons]
    by_cases h : c = 39
    · subst h
      show scanT (39 :: 39 :: (tw t ++ [39])) = _
      rw [scanT, if_pos rfl, if_pos rfl, ih]; rfl
    · rw [if_neg h]
      show scanT (c :: (tw t ++ [39])) = some (c :: t, (tw t).length + 1 + 1)
      obtain ⟨d, q, hq⟩ : ∃ d q, tw t ++ [39] = d :: q := by
        cases ht : tw t with
        | nil => exact ⟨39, [], rfl⟩
        | cons d q => exact ⟨d, q ++ [39], rfl⟩
      rw [hq] at ih ⊢
      rw [scanT, if_neg h, ih]; rfl

theorem low_sm {c : UInt8} (h : sm c = true) : low c = c := by
  unfold low
  rw [if_neg]
  rw [cap_iff]; rw [sm_iff] at h; omega
theorem low_dg {c : UInt8} (h : dg c = true) : low c = c := by
  unfold low
  rw [if_neg]
  rw [cap_iff]; rw [dg_iff] at h; omega
theorem add32 {c : UInt8} (h : cap c = true) : (c + 32).toNat = c.toNat + 32 := by
  rw [cap_iff] at h
  rw [UInt8.toNat_add]
  show (c.toNat + 32) % 256 = _
  omega
theorem lt_low {c : UInt8} (h : lt c = true) : sm (low c) = true := by
  unfold low
  split
  · rename_i hc
    rw [sm_iff, add32 hc]; rw [cap_iff] at hc; omega
  · rename_i hc
    unfold lt at h
    simp only [Bool.or_eq_true] at h
    rcases h with h | h
    · exact h
    · exact absurd h hc
theorem inw_low {c : UInt8} (h : inw c = true) : (sm (low c) || dg (low c)) = true := by
  unfold inw at h
  simp only [Bool.or_eq_true] at h ⊢
  rcases h with h | h
  · exact .inl (lt_low h)
  · right; rw [low_dg h]; exact h

theorem numG_app : ∀ (a b : List UInt8) (m : Nat), numG (a ++ b) m = (numG a m).bind (numG b)
  | [], b, m => rfl
  | c :: a, b, m => by
    rw [List.cons_append, numG, numG]
    split
    · rfl
    · exact numG_app a b _
theorem numG_le : ∀ (l : List UInt8) (m n : Nat), m ≤ 9223372036854775808 → numG l m = some n → n ≤ 9223372036854775808
  | [], m, n, h, e => by simp only [numG, Option.some.injEq] at e; omega
  | c :: l, m, n, h, e => by
    rw [numG] at e
    split at e
    · cases e
    · rename_i hk
      have := c.toNat_lt
      exact numG_le l _ n (by omega) e
theorem dec_dg : ∀ u : Nat, ∀ c ∈ Lib.decDigits u, dg c = true := by
  intro u
  induction u using Nat.strongRecOn with
  | _ u ih =>
    by_cases h : u < 10
    · rw [Lib.decDigits, dif_pos h]
      intro c hc
      simp only [List.mem_cons, List.not_mem_nil, or_false] at hc
      subst hc
      rw [dg_iff]; simp; omega
    · rw [Lib.decDigits, dif_neg h]
      intro c hc
      simp only [List.mem_append, List.mem_cons, List.not_mem_nil, or_false] at hc
      rcases hc with hc | rfl
      · exact ih (u / 10) (by omega) c hc
      · rw [dg_iff]; simp; omega
theorem numG_dec : ∀ u : Nat, u ≤ 9223372036854775808 → numG (Lib.decDigits u) 0 = some u := by
  intro u
  induction u using Nat.strongRecOn with
  | _ u ih =>
    intro hu
    by_cases h : u < 10
    · rw [Lib.decDigits, dif_pos h, numG, if_neg (by omega), numG]
      have : (UInt8.ofNat (48 + u)).toNat = 48 + u := by simp; omega
      rw [this]; congr 1; omega
    · rw [Lib.decDigits, dif_neg h, numG_app, ih (u / 10) (by omega) (by omega)]
      show numG [UInt8.ofNat (48 + u % 10)] (u / 10) = some u
      have : (UInt8.ofNat (48 + u % 10)).toNat = 48 + u % 10 := by simp; omega
      rw [numG, this, if_neg (by omega), numG]; congr 1; omega
theorem dec_ne (u : Nat) : ∃ c r, Lib.decDigits u = c :: r := by
  cases h : Lib.decDigits u with
  | nil => have := Lib.decDigits_length u; have h2 := Lib.nDigits_pos u; rw [h] at this; simp at this; omega
  | cons c r => exact ⟨c, r, rfl⟩

theorem signs_next : ∀ l ∈ signs, next l = .tok ⟨4, l, 0, 0⟩ l.length := by
  intro l hl
  unfold signs at hl
  simp only [List.mem_cons, List.not_mem_nil, or_false] at hl
  rcases hl with rfl | rfl | rfl | rfl | rfl | rfl | rfl | rfl | rfl | rfl | rfl | rfl | rfl | rfl | rfl | rfl | rfl <;> rfl

theorem may_at {x : Tk} (h : mayT x = true) : x.at' = 0 := by
  unfold mayT at h
  simp only [Bool.and_eq_true, beq_iff_eq] at h
  exact h.1.1
theorem may_unp {x : Tk} (h : mayT x = true) : unp x = x := by
  have := may_at h
  obtain ⟨k, t, n, a⟩ := x
  simp only at this
  subst this
  rfl

/-- A token that may be is read as itself. -/
theorem said_next {x : Tk} (h : mayT x = true) : next (saidT x) = .tok x (saidT x).length := by
  obtain ⟨k, t, n, a⟩ := x
  have h0 := may_at h
  simp only at h0
  subst h0
  unfold mayT at h
  simp only [Bool.and_eq_true, beq_iff_eq, Bool.or_eq_true] at h
  obtain ⟨⟨_, hn⟩, h⟩ := h
  unfold saidT
  simp only at hn ⊢
  split at h
  · rename_i hk
    subst hk
    rw [if_neg (by decide), if_neg (by decide)]
    obtain rfl : n = 0 := by omega
    cases t with
    | nil => cases h
    | cons c r =>
      unfold isWd at h
      simp only [Bool.and_eq_true, decide_eq_true_eq, List.all_eq_true, Bool.or_eq_true] at h
      obtain ⟨⟨hc, hr⟩, hl⟩ := h
      have hlt : lt c = true := by unfold lt; rw [hc]; rfl
      have hall : ∀ a ∈ c :: r, inw a = true := by
        intro a ha
        simp only [List.mem_cons] at ha
        rcases ha with rfl | ha
        · unfold inw; rw [hlt]; rfl
        · rcases hr a ha with h | h
          · unfold inw lt; rw [h]; rfl
          · unfold inw; rw [h]; simp
      have hW : wordW (c :: r) = (c :: r).length := by
        unfold wordW
        have := tw_app inw (fun c h => bl_inw h) (c :: r) hall ends_nil
        rw [List.append_nil] at this
        rw [this]
      have hmap : (c :: r).map low = c :: r := by
        have : ∀ a ∈ c :: r, low a = a := by
          intro a ha
          simp only [List.mem_cons] at ha
          rcases ha with rfl | ha
          · exact low_sm hc
          · rcases hr a ha with h | h
            · exact low_sm h
            · exact low_dg h
        exact (List.map_congr_left this).trans (List.map_id _)
      unfold next
      simp only
      rw [if_pos hlt]
      unfold wordN
      rw [hW, if_neg (by omega), List.take_length, hmap]
  · split at h
    · rename_i hk
      subst hk
      rw [if_pos rfl]
      simp only [Bool.and_eq_true, decide_eq_true_eq, List.isEmpty_iff] at h
      obtain ⟨rfl, hu⟩ := h
      have hd := dec_dg n
      have hg := numG_dec n hu
      obtain ⟨c, r, hcr⟩ := dec_ne n
      rw [hcr] at hd hg ⊢
      have hc : dg c = true := hd c (by simp)
      have hl : lt c = false := eq_false_of (by rw [lt_iff]; rw [dg_iff] at hc; omega)
      have hW : numW (c :: r) = (c :: r).length := by
        unfold numW
        have := tw_app dg (fun c h => bl_dg h) (c :: r) hd ends_nil
        rw [List.append_nil] at this
        rw [this]
      unfold next
      simp only
      rw [if_neg (by rw [hl]; simp), if_pos hc]
      unfold numN
      rw [hW, List.take_length, hg]
    · split at h
      · rename_i hk
        subst hk
        rw [if_neg (by decide), if_pos rfl]
        simp only [Bool.and_eq_true, decide_eq_true_eq] at h
        obtain ⟨hl, hv⟩ := h
        obtain rfl : n = 0 := by omega
        unfold next
        simp only
        rw [if_neg (by decide), if_neg (by decide), if_pos trivial]
        unfold textN
        simp only [List.drop_succ_cons, List.drop_zero]
        rw [scan_tw]
        simp only
        rw [if_pos hv, if_neg (by omega)]
        simp
      · split at h
        · rename_i hk
          subst hk
          rw [if_neg (by decide), if_neg (by decide)]
          obtain rfl : n = 0 := by omega
          exact signs_next t (by unfold isS at h; simpa using h)
        · cases h

/-- What is read as a token may be. -/
theorem next_may {l : List UInt8} {x : Tk} {n : Nat} (h : next l = .tok x n) : mayT x = true := by
  cases l with
  | nil => cases h
  | cons c q =>
    unfold next at h
    simp only at h
    split at h
    · rename_i hl
      unfold wordN at h
      split at h
      · cases h
      · rename_i h32
        simp only [Nx.tok.injEq] at h
        obtain ⟨rfl, hm⟩ := h
        have ht : (c :: q).take (wordW (c :: q)) = (c :: q).takeWhile inw := take_tw _ _
        have hp := tw_all inw (c :: q)
        rw [← ht] at hp
        have hw := tw_le inw (c :: q)
        have hw1 := word_pos (r := q) hl
        obtain ⟨m, hm1⟩ : ∃ m, wordW (c :: q) = m + 1 := ⟨wordW (c :: q) - 1, by omega⟩
        rw [hm1] at hp h32 ⊢
        have e : (c :: q).take (m + 1) = c :: q.take m := rfl
        rw [e] at hp ⊢
        unfold mayT isWd
        simp only [List.map_cons, List.length_cons, List.length_map, List.length_take, Bool.and_eq_true]
        refine ⟨⟨rfl, rfl⟩, ?_⟩
        rw [if_pos trivial]
        simp only [Bool.and_eq_true, decide_eq_true_eq, List.all_eq_true, List.mem_map]
        refine ⟨⟨lt_low hl, ?_⟩, by omega⟩
        rintro d ⟨a, ha, rfl⟩
        exact inw_low (hp a (by simp [ha]))
    · split at h
      · unfold numN at h
        split at h
        · cases h
        · rename_i u hu
          simp only [Nx.tok.injEq] at h
          obtain ⟨rfl, _⟩ := h
          have := numG_le _ 0 u (by omega) hu
          unfold mayT
          simp [this]
      · split at h
        · unfold textN at h
          split at h
          · cases h
          · split at h
            · rename_i hv
              split at h
              · cases h
              · rename_i h64
                simp only [Nx.tok.injEq] at h
                obtain ⟨rfl, _⟩ := h
                unfold mayT
                simp [hv]; omega
            · cases h
        · unfold signN at h
          split at h
          · rename_i h2
            simp only [Nx.tok.injEq] at h
            obtain ⟨rfl, _⟩ := h
            exact h2.2
          · split at h
            · rename_i h1
              simp only [Nx.tok.injEq] at h
              obtain ⟨rfl, _⟩ := h
              exact h1
            · cases h

/-- The text of tokens. -/
def textL : List Tk → List UInt8
  | [] => []
  | [x] => saidT x
  | x :: y :: r => saidT x ++ ([32] ++ textL (y :: r))
/-- The first token that may not be. -/
def badAt : List Tk → Option Nat
  | [] => none
  | x :: r => if mayT x then (badAt r).map (· + 1) else some 0
theorem bad_none : ∀ l : List Tk, badAt l = none ↔ ∀ x ∈ l, mayT x = true
  | [] => by simp [badAt]
  | x :: r => by
    rw [badAt]
    by_cases h : mayT x = true
    · rw [if_pos h]; simp [h, bad_none r]
    · rw [if_neg h]; simp [h]
theorem bad_lt : ∀ (l : List Tk) (i : Nat), badAt l = some i → i < l.length
  | [], i, h => by cases h
  | x :: r, i, h => by
    rw [badAt] at h
    split at h
    · cases hb : badAt r with
      | none => rw [hb] at h; cases h
      | some j =>
        rw [hb] at h
        simp only [Option.map_some, Option.some.injEq] at h
        have := bad_lt r j hb
        simp only [List.length_cons]; omega
    · simp only [Option.some.injEq] at h; simp only [List.length_cons]; omega

theorem tk_at (x : Tk) (a : Int) : unp { x with at' := a } = unp x := rfl
theorem take_said {x : Tk} : (saidT x).take (saidT x).length = saidT x := List.take_length
theorem lex_text : ∀ (l : List Tk) (a : Nat), (∀ x ∈ l, mayT x = true) → ∃ q, lexA (textL l) a = .ok q ∧ q.map unp = l
  | [], a, _ => ⟨[], rfl, rfl⟩
  | [x], a, h => by
    have hx := h x (by simp)
    have hp := lexA_piece (said_next hx) [] [] (by simp) (.inr ends_nil) a
    rw [take_said, List.append_nil, List.append_nil] at hp
    refine ⟨[{ x with at' := a }], ?_, by simp [tk_at, may_unp hx]⟩
    rw [textL, hp, lexA_nil]; rfl
  | x :: y :: r, a, h => by
    have hx := h x (by simp)
    obtain ⟨q, hq, hm⟩ := lex_text (y :: r) (a + (saidT x).length + 1) (fun z hz => h z (by simp [hz]))
    have hp := lexA_piece (said_next hx) [32] (textL (y :: r)) (by intro b hb; simp at hb; subst hb; rfl) (.inl (by simp)) a
    rw [take_said] at hp
    refine ⟨{ x with at' := a } :: q, ?_, by rw [List.map_cons, tk_at, may_unp hx, hm]⟩
    rw [textL, hp]
    show (lexA _ (a + (saidT x).length + 1)).map _ = _
    rw [hq]; rfl

/-! ### Where tokens lie -/
/-- The tokens of the bytes from a place on. -/
def Gs (l : List UInt8) : List Tk → Nat → Prop
  | [], p => ∀ b ∈ l.drop p, bl b = true
  | x :: r, p => ∃ s n : Nat, p ≤ s ∧ x.at' = s ∧ (∀ b ∈ (l.drop p).take (s - p), bl b = true) ∧ next (l.drop s) = .tok (unp x) n ∧ s + n ≤ l.length ∧ Gs l r (s + n)

theorem gs_blank {l : List UInt8} {q : List Tk} {p : Nat} {c : UInt8} {r : List UInt8} (hl : l.drop p = c :: r) (hb : bl c = true) (h : Gs l q (p + 1)) : Gs l q p := by
  have hd : l.drop (p + 1) = r := by
    have := congrArg (List.drop 1) hl
    rw [List.drop_drop] at this
    exact this
  cases q with
  | nil =>
    unfold Gs at h ⊢
    rw [hd] at h
    rw [hl]
    intro b hm
    simp only [List.mem_cons] at hm
    rcases hm with rfl | hm
    · exact hb
    · exact h b hm
  | cons x q =>
    unfold Gs at h ⊢
    obtain ⟨s, n, hs, hx, hB, hn, hz, hg⟩ := h
    refine ⟨s, n, by omega, hx, ?_, hn, hz, hg⟩
    rw [hl]
    rw [hd] at hB
    obtain ⟨k, hk⟩ : ∃ k, s - p = k + 1 := ⟨s - p - 1, by omega⟩
    rw [hk, List.take_succ_cons]
    rw [show s - (p + 1) = k from by omega] at hB
    intro b hm
    simp only [List.mem_cons] at hm
    rcases hm with rfl | hm
    · exact hb
    · exact hB b hm
theorem next_at0 {l : List UInt8} {x : Tk} {n : Nat} (h : next l = .tok x n) : unp x = x := may_unp (next_may h)
theorem gs_of (l : List UInt8) : ∀ (f p : Nat) (q : List Tk), l.length - p ≤ f → p ≤ l.length → lexA (l.drop p) p = .ok q → Gs l q p := by
  intro f
  induction f with
  | zero =>
    intro p q hf hp h
    have e : l.drop p = [] := List.drop_eq_nil_of_le (by omega)
    rw [e, lexA_nil] at h
    cases h
    unfold Gs
    rw [e]; simp
  | succ f ih =>
    intro p q hf hp h
    cases hl : l.drop p with
    | nil =>
      rw [hl, lexA_nil] at h
      cases h
      unfold Gs
      rw [hl]; simp
    | cons c r =>
      have hlen : (l.drop p).length = r.length + 1 := by rw [hl]; rfl
      rw [List.length_drop] at hlen
      have hd : l.drop (p + 1) = r := by
        have := congrArg (List.drop 1) hl
        rw [List.drop_drop] at this
        exact this
      cases hb : bl c with
      | true =>
        rw [hl, lexA_blank r p hb, ← hd] at h
        exact gs_blank hl hb (ih (p + 1) q (by omega) (by omega) h)
      | false =>
        cases hn : next (c :: r) with
        | err e => rw [hl, lexA_err p hb hn] at h; cases h
        | tok x n =>
          rw [hl, lexA_tok p hb hn] at h
          have hw := next_width hn
          have hd2 : (c :: r).drop n = l.drop (p + n) := by rw [← hl, List.drop_drop]
          rw [hd2] at h
          simp only [List.length_cons] at hw
          cases hr : lexA (l.drop (p + n)) (p + n) with
          | error e => rw [hr] at h; cases h
          | ok q' =>
            rw [hr] at h
            cases h
            have := ih (p + n) q' (by omega) (by omega) hr
            unfold Gs
            refine ⟨p, n, Nat.le_refl _, rfl, by simp, ?_, by omega, this⟩
            rw [hl, hn, tk_at, next_at0 hn]

/-- Where the i-th token begins, or where the bytes end. -/
def nxt (l : List UInt8) (q : List Tk) (i : Nat) : Nat := match q[i]? with
  | some x => x.at'.toNat
  | none => l.length
theorem gs_le (l : List UInt8) : ∀ (q : List Tk) (p : Nat), p ≤ l.length → Gs l q p → p ≤ nxt l q 0 ∧ nxt l q 0 ≤ l.length ∧ ∀ b ∈ (l.drop p).take (nxt l q 0 - p), bl b = true
  | [], p, hp, h => by
    unfold Gs at h
    refine ⟨hp, Nat.le_refl _, fun b hb => h b (List.mem_of_mem_take hb)⟩
  | x :: r, p, hp, h => by
    unfold Gs at h
    obtain ⟨s, n, hs, hx, hB, hn, hz, hg⟩ := h
    have e : nxt l (x :: r) 0 = s := by
      show x.at'.toNat = s
      rw [hx]; rfl
    rw [e]
    exact ⟨hs, by omega, hB⟩
theorem gs_at (l : List UInt8) : ∀ (q : List Tk) (p i : Nat), Gs l q p → ∀ x, q[i]? = some x → ∃ s n : Nat, x.at' = s ∧ next (l.drop s) = .tok (unp x) n ∧ s + n ≤ nxt l q (i + 1) ∧ nxt l q (i + 1) ≤ l.length ∧ ∀ b ∈ (l.drop (s + n)).take (nxt l q (i + 1) - (s + n)), bl b = true
  | [], p, i, h, x, hx => by cases hx
  | y :: r, p, 0, h, x, hx => by
    unfold Gs at h
    obtain ⟨s, n, hs, hy, hB, hn, hz, hg⟩ := h
    simp only [List.getElem?_cons_zero, Option.some.injEq] at hx
    subst hx
    have := gs_le l r (s + n) hz hg
    exact ⟨s, n, hy, hn, this.1, this.2.1, this.2.2⟩
  | y :: r, p, i + 1, h, x, hx => by
    unfold Gs at h
    obtain ⟨s, n, hs, hy, hB, hn, hz, hg⟩ := h
    exact gs_at l r (s + n) i hg x hx

/-- One token's piece, cut into tokens alone. -/
theorem gap_lex {l : List UInt8} {x : Tk} {s n to' : Nat} (hn : next (l.drop s) = .tok (unp x) n) (h1 : s + n ≤ to') (hB : ∀ b ∈ (l.drop (s + n)).take (to' - (s + n)), bl b = true) :
    lexA ((l.drop s).take (to' - s)) 0 = .ok [unp x] := by
  have e : (l.drop s).take (to' - s) = (l.drop s).take n ++ ((l.drop (s + n)).take (to' - (s + n)) ++ []) := by
    rw [List.append_nil, ← List.drop_drop, show to' - s = n + (to' - (s + n)) from by omega, List.take_add]
  rw [e, lexA_piece hn _ [] hB (.inr ends_nil) 0, lexA_nil]
  rfl

/-! ### Blanks and capital letters -/
def up (c : UInt8) : UInt8 := if 97 ≤ c.toNat ∧ c.toNat ≤ 122 then c - 32 else c
theorem sub32 {c : UInt8} (h : 97 ≤ c.toNat ∧ c.toNat ≤ 122) : (c - 32).toNat = c.toNat - 32 := by
  rw [UInt8.toNat_sub_of_le]
  · rfl
  · rw [UInt8.le_iff_toNat_le]; show 32 ≤ c.toNat; omega
theorem up_inw {c : UInt8} (h : inw c = true) : inw (up c) = true := by
  unfold up
  split
  · rename_i hc
    rw [inw_iff, sub32 hc]; omega
  · exact h
theorem up_lt {c : UInt8} (h : lt c = true) : lt (up c) = true := by
  unfold up
  split
  · rename_i hc
    rw [lt_iff, sub32 hc]; omega
  · exact h
theorem low_up (c : UInt8) : low (up c) = low c := by
  unfold up
  split
  · rename_i hc
    have hs := sub32 hc
    have h1 : cap (c - 32) = true := by rw [cap_iff, hs]; omega
    have h2 : cap c = false := eq_false_of (by rw [cap_iff]; omega)
    unfold low
    rw [if_pos h1, h2]
    apply UInt8.toNat_inj.1
    rw [add32 h1, hs]
    simp only [Bool.false_eq_true, if_false]; omega
  · rfl
theorem up_bl {c : UInt8} (h : bl c = true) : up c = c := by
  unfold up
  rw [if_neg]
  rw [bl_iff] at h; omega
theorem kind_word {l : List UInt8} {x : Tk} {n : Nat} (h : next l = .tok x n) (hk : x.k = 1) : ∃ c r, l = c :: r ∧ lt c = true ∧ wordN l = .tok x n := by
  cases l with
  | nil => cases h
  | cons c q =>
    have h' := h
    unfold next at h
    simp only at h
    split at h
    · rename_i hl
      exact ⟨c, q, rfl, hl, h⟩
    · split at h
      · unfold numN at h
        split at h
        · cases h
        · simp only [Nx.tok.injEq] at h; obtain ⟨rfl, _⟩ := h; simp at hk
      · split at h
        · unfold textN at h
          split at h
          · cases h
          · split at h
            · split at h
              · cases h
              · simp only [Nx.tok.injEq] at h; obtain ⟨rfl, _⟩ := h; simp at hk
            · cases h
        · unfold signN at h
          split at h
          · simp only [Nx.tok.injEq] at h; obtain ⟨rfl, _⟩ := h; simp at hk
          · split at h
            · simp only [Nx.tok.injEq] at h; obtain ⟨rfl, _⟩ := h; simp at hk
            · cases h
theorem next_up {l : List UInt8} {x : Tk} {n : Nat} (h : next l = .tok x n) (hk : x.k = 1) : next ((l.take n).map up) = .tok x n ∧ ∀ c ∈ l.take n, inw c = true := by
  obtain ⟨c, r, rfl, hl, hw⟩ := kind_word h hk
  unfold wordN at hw
  split at hw
  · cases hw
  · rename_i h32
    simp only [Nx.tok.injEq] at hw
    obtain ⟨hx, hm⟩ := hw
    have ht : (c :: r).take n = (c :: r).takeWhile inw := by rw [← hm]; exact take_tw _ _
    have hp := tw_all inw (c :: r)
    rw [← ht] at hp
    refine ⟨?_, hp⟩
    have hww := tw_le inw (c :: r)
    have hw1 := word_pos (r := r) hl
    have hwd : wordW (c :: r) = ((c :: r).takeWhile inw).length := rfl
    obtain ⟨m, rfl⟩ : ∃ m, n = m + 1 := ⟨n - 1, by omega⟩
    have e : (c :: r).take (m + 1) = c :: r.take m := rfl
    have hlen : ((c :: r).take (m + 1)).length = m + 1 := by rw [List.length_take]; omega
    have hW : wordW (((c :: r).take (m + 1)).map up) = m + 1 := by
      unfold wordW
      have := tw_app inw (fun c h => bl_inw h) (((c :: r).take (m + 1)).map up) (by
        intro a ha
        obtain ⟨b, hb, rfl⟩ := List.mem_map.1 ha
        exact up_inw (hp b hb)) ends_nil
      rw [List.append_nil] at this
      rw [this, List.length_map, hlen]
    have hlow : (((c :: r).take (m + 1)).map up).map low = ((c :: r).take (m + 1)).map low := by
      rw [List.map_map]
      exact List.map_congr_left fun a _ => low_up a
    have hN : wordN (((c :: r).take (m + 1)).map up) = .tok x (m + 1) := by
      unfold wordN
      rw [hW, if_neg (by omega), List.take_of_length_le (by rw [List.length_map]; omega), hlow, ← hx, hm]
    rw [e] at hN ⊢
    rw [List.map_cons] at hN ⊢
    unfold next
    simp only
    rw [if_pos (up_lt hl)]
    exact hN

/-- What was put together so far is read as so many tokens, whatever stands behind it. -/
def Pre (T : List UInt8) (z : List Tk) : Prop := ∀ (r : List UInt8) (a : Nat), ∃ Z, lexA (T ++ r) a = (lexA r (a + T.length)).map (Z ++ ·) ∧ Z.map unp = z
theorem pre_nil : Pre [] [] := fun r a => ⟨[], by simp [Except.map]; cases lexA r a <;> rfl, rfl⟩
theorem pre_step {T : List UInt8} {z : List Tk} (h : Pre T z) {l : List UInt8} {x : Tk} {n : Nat} (hn : next l = .tok x n) (B : List UInt8) (hB : ∀ b ∈ B, bl b = true) (h0 : B ≠ []) : Pre (T ++ (l.take n ++ B)) (z ++ [x]) := by
  intro r a
  have hw := next_width hn
  obtain ⟨Z, hZ, hz⟩ := h ((l.take n ++ B) ++ r) a
  have hp := lexA_piece hn B r hB (.inl h0) (a + T.length)
  have hl : (l.take n).length = n := by rw [List.length_take]; omega
  refine ⟨Z ++ [{ x with at' := ((a + T.length : Nat) : Int) }], ?_, by rw [List.map_append, hz]; simp [tk_at, next_at0 hn]⟩
  rw [List.append_assoc, hZ, List.append_assoc, hp]
  have e : a + (T ++ (l.take n ++ B)).length = a + T.length + n + B.length := by simp only [List.length_append, hl]; omega
  rw [e]
  cases lexA r (a + T.length + n + B.length) with
  | error e => rfl
  | ok q => simp [Except.map]
theorem pre_end {T : List UInt8} {z : List Tk} (h : Pre T z) : ∃ q, lexA T 0 = .ok q ∧ q.map unp = z := by
  obtain ⟨Z, hZ, hz⟩ := h [] 0
  rw [List.append_nil, lexA_nil] at hZ
  exact ⟨Z, by rw [hZ]; simp [Except.map], hz⟩
end Go.Proofs.YtedamaccflhmfaaGreatDoor.Lx
namespace Go.Proofs.YtedamaccflhmfaaGreatDoor.Lx

def smR (r : Int) : Bool := (decide (97 ≤ r) && decide (r ≤ 122)) || r == 95
def capR (r : Int) : Bool := decide (65 ≤ r) && decide (r ≤ 90)
def ltR (r : Int) : Bool := smR r || capR r
def dgR (r : Int) : Bool := decide (48 ≤ r) && decide (r ≤ 57)
def inwR (r : Int) : Bool := ltR r || dgR r
def blR (r : Int) : Bool := r == 9 || r == 10 || r == 13 || r == 32

/-- A predicate of runes below 128, seen at the byte that a rune begins with. -/
theorem rune_pred {p : UInt8 → Bool} {pR : Int → Bool} (h1 : ∀ c : UInt8, pR c.toNat = p c) (h2 : ∀ r : Int, 128 ≤ r → pR r = false) (s : ByteArray) (pos : Nat) (h : pos < s.size) : pR ((Utf8.decode s pos).1 : Nat) = p (s[pos]'h) := by
  by_cases ha : (s[pos]'h).toNat < 128
  · rw [decode_ascii s pos h ha]; exact h1 _
  · have := (decode_high s pos h (by omega)).1
    rw [h2 _ (by omega), ← h1, h2 _ (by omega)]
theorem b_eq {a b : Bool} (h : a = true ↔ b = true) : a = b := Bool.eq_iff_iff.2 h
theorem smR_c (c : UInt8) : smR c.toNat = sm c := b_eq (by rw [sm_iff]; simp [smR]; omega)
theorem capR_c (c : UInt8) : capR c.toNat = cap c := b_eq (by rw [cap_iff]; simp [capR]; omega)
theorem dgR_c (c : UInt8) : dgR c.toNat = dg c := b_eq (by rw [dg_iff]; simp [dgR]; omega)
theorem ltR_c (c : UInt8) : ltR c.toNat = lt c := by unfold ltR lt; rw [smR_c, capR_c]
theorem inwR_c (c : UInt8) : inwR c.toNat = inw c := by unfold inwR inw; rw [ltR_c, dgR_c]
theorem blR_c (c : UInt8) : blR c.toNat = bl c := b_eq (by rw [bl_iff]; simp [blR]; omega)
theorem smR_hi (r : Int) (h : 128 ≤ r) : smR r = false := eq_false_of (by simp [smR]; omega)
theorem capR_hi (r : Int) (h : 128 ≤ r) : capR r = false := eq_false_of (by simp [capR]; omega)
theorem dgR_hi (r : Int) (h : 128 ≤ r) : dgR r = false := eq_false_of (by simp [dgR]; omega)
theorem ltR_hi (r : Int) (h : 128 ≤ r) : ltR r = false := by unfold ltR; rw [smR_hi r h, capR_hi r h]; rfl
theorem inwR_hi (r : Int) (h : 128 ≤ r) : inwR r = false := by unfold inwR; rw [ltR_hi r h, dgR_hi r h]; rfl
theorem blR_hi (r : Int) (h : 128 ≤ r) : blR r = false := eq_false_of (by simp [blR]; omega)

/-- A byte that a predicate of small bytes takes is a rune of its own. -/
theorem small_one {p : UInt8 → Bool} (hp : ∀ c : UInt8, p c = true → c.toNat < 128) (s : ByteArray) (pos : Nat) (h : pos < s.size) (hc : p (s[pos]'h) = true) : (Utf8.decode s pos).2 = 1 := by
  rw [decode_ascii s pos h (hp _ hc)]
theorem inw_lo (c : UInt8) (h : inw c = true) : c.toNat < 128 := by rw [inw_iff] at h; omega
theorem dg_lo (c : UInt8) (h : dg c = true) : c.toNat < 128 := by rw [dg_iff] at h; omega
theorem bl_lo (c : UInt8) (h : bl c = true) : c.toNat < 128 := by rw [bl_iff] at h; omega
theorem sm_lo (c : UInt8) (h : sm c = true) : c.toNat < 128 := by rw [sm_iff] at h; omega

/-! ### Widths -/
theorem tw_go (p : UInt8 → Bool) (s : ByteArray) (pos : Nat) (h : pos < s.size) (hc : p (s[pos]'h) = true) (hw : (s.data.toList.takeWhile p).length = pos + ((s.data.toList.drop pos).takeWhile p).length) :
    (s.data.toList.takeWhile p).length = pos + 1 + ((s.data.toList.drop (pos + 1)).takeWhile p).length := by
  rw [drop_at s pos h, List.takeWhile_cons_of_pos hc, List.length_cons] at hw
  omega
theorem tw_stop (p : UInt8 → Bool) (s : ByteArray) (pos : Nat) (h : pos < s.size) (hc : p (s[pos]'h) = false) (hw : (s.data.toList.takeWhile p).length = pos + ((s.data.toList.drop pos).takeWhile p).length) :
    (s.data.toList.takeWhile p).length = pos := by
  rw [drop_at s pos h, List.takeWhile_cons_of_neg (by simp [hc])] at hw
  simpa using hw
theorem tw_end (p : UInt8 → Bool) (s : ByteArray) (pos : Nat) (h : ¬ pos < s.size) (hp : pos ≤ s.size) (hw : (s.data.toList.takeWhile p).length = pos + ((s.data.toList.drop pos).takeWhile p).length) :
    (s.data.toList.takeWhile p).length = s.size := by
  have e : s.data.toList.length = s.size := by rw [Array.length_toList]; rfl
  rw [List.drop_eq_nil_of_le (by omega)] at hw
  simp only [List.takeWhile_nil, List.length_nil] at hw
  omega

/-- How many bytes a text has, byte by byte. -/
def wt : Bool → List UInt8 → Nat → Nat
  | op, [], a => if op then 0 else a
  | op, c :: r, a => if c = 39 then wt (!op) r (a + 1) else if op then wt op r (a + 1) else a
theorem wt_scan : ∀ (r : List UInt8) (a : Nat), wt true r a = match scanT r with
    | none => 0
    | some (_, n) => a + n
  | [], a => rfl
  | [c], a => by
    rw [wt, scanT]
    by_cases h : c = 39
    · rw [if_pos h, if_pos h]; rfl
    · rw [if_neg h, if_neg h]; rfl
  | c :: d :: r, a => by
    rw [wt, scanT]
    by_cases h : c = 39
    · rw [if_pos h, if_pos h, wt]
      by_cases hd : d = 39
      · rw [if_pos hd, if_pos hd]
        show wt true r (a + 1 + 1) = _
        rw [wt_scan r]
        cases scanT r with
        | none => rfl
        | some x => obtain ⟨y, n⟩ := x; show a + 1 + 1 + n = a + (n + 2); omega
      · rw [if_neg hd, if_neg hd]; rfl
    · rw [if_neg h, if_neg h, if_pos rfl, wt_scan (d :: r)]
      cases scanT (d :: r) with
      | none => rfl
      | some x => obtain ⟨y, n⟩ := x; show a + 1 + n = a + (n + 1); omega
theorem wt_skip (s : ByteArray) : ∀ (k pos : Nat), pos + k ≤ s.size → (∀ j, j < k → ∀ h : pos + j < s.size, s[pos + j]'h ≠ 39) → wt true (s.data.toList.drop pos) pos = wt true (s.data.toList.drop (pos + k)) (pos + k)
  | 0, pos, _, _ => rfl
  | k + 1, pos, hk, hj => by
    have h0 : s[pos]'(by omega) ≠ 39 := hj 0 (by omega) (by omega)
    rw [drop_at s pos (by omega), wt, if_neg h0, if_pos rfl, wt_skip s k (pos + 1) (by omega) (fun j h h' => by
      have := hj (j + 1) (by omega) (by omega)
      simpa [Nat.add_assoc, Nat.add_comm 1 j] using this)]
    rw [show pos + 1 + k = pos + (k + 1) from by omega]
/-- Of a rune that is no apostrophe no byte is one. -/
theorem rune_no39 (s : ByteArray) (pos : Nat) (h : pos < s.size) (hr : (Utf8.decode s pos).1 ≠ 39) : s[pos]'h ≠ 39 ∧ ∀ j, j < (Utf8.decode s pos).2 → ∀ h' : pos + j < s.size, s[pos + j]'h' ≠ 39 := by
  have h0 : s[pos]'h ≠ 39 := by
    intro e
    have ha : (s[pos]'h).toNat < 128 := by rw [e]; decide
    rw [decode_ascii s pos h ha, e] at hr
    exact hr rfl
  refine ⟨h0, fun j hj h' => ?_⟩
  by_cases hz : j = 0
  · subst hz; exact h0
  · have := (decode_cont s pos j (by omega) hj).2
    rw [get_big s (pos + j) h'] at this
    intro e
    rw [e] at this
    exact absurd this (by decide)
theorem rune_39 (s : ByteArray) (pos : Nat) (h : pos < s.size) (hr : (Utf8.decode s pos).1 = 39) : s[pos]'h = 39 ∧ (Utf8.decode s pos).2 = 1 := by
  by_cases ha : (s[pos]'h).toNat < 128
  · rw [decode_ascii s pos h ha] at hr ⊢
    exact ⟨UInt8.toNat_inj.1 hr, rfl⟩
  · have := (decode_high s pos h (by omega)).1; omega
theorem wt_rune39 (s : ByteArray) (pos : Nat) (op : Bool) (h : pos < s.size) (hr : (Utf8.decode s pos).1 = 39) : wt op (s.data.toList.drop pos) pos = wt (!op) (s.data.toList.drop (pos + (Utf8.decode s pos).2)) (pos + (Utf8.decode s pos).2) := by
  have := rune_39 s pos h hr
  rw [this.2, drop_at s pos h, wt, if_pos this.1]
theorem wt_rune (s : ByteArray) (pos : Nat) (h : pos < s.size) (hr : (Utf8.decode s pos).1 ≠ 39) : wt true (s.data.toList.drop pos) pos = wt true (s.data.toList.drop (pos + (Utf8.decode s pos).2)) (pos + (Utf8.decode s pos).2) :=
  wt_skip s _ pos (decode_in s pos h) (rune_no39 s pos h hr).2
theorem wt_out (s : ByteArray) (pos : Nat) (h : pos < s.size) (hr : (Utf8.decode s pos).1 ≠ 39) : wt false (s.data.toList.drop pos) pos = pos := by
  rw [drop_at s pos h, wt, if_neg (rune_no39 s pos h hr).1]; rfl
theorem wt_nil (s : ByteArray) (pos : Nat) (op : Bool) (h : ¬ pos < s.size) : wt op (s.data.toList.drop pos) pos = if op then 0 else pos := by
  rw [List.drop_eq_nil_of_le (by rw [Array.length_toList]; show s.size ≤ pos; omega)]
  rfl

/-! ### Valid texts -/
theorem valid_at (s : ByteArray) (pos : Nat) (h : pos < s.size) : Lib.validD (s.data.toList.drop pos) = if (Utf8.decode s pos).1 = 65533 ∧ (Utf8.decode s pos).2 = 1 then false else Lib.validD (s.data.toList.drop (pos + (Utf8.decode s pos).2)) := by
  rw [Lib.validD_step _ (by rw [drop_at s pos h]; simp), Lib.decodeL_drop, List.drop_drop]
theorem valid_end (s : ByteArray) (pos : Nat) (h : ¬ pos < s.size) : Lib.validD (s.data.toList.drop pos) = true := by
  rw [List.drop_eq_nil_of_le (by rw [Array.length_toList]; show s.size ≤ pos; omega)]; rfl

/-! ### Numbers and words -/
theorem num_at (s : ByteArray) (pos m : Nat) (h : pos < s.size) (hc : dg (s[pos]'h) = true) : (Utf8.decode s pos) = ((s[pos]'h).toNat, 1) ∧ 48 ≤ (s[pos]'h).toNat ∧ (s[pos]'h).toNat ≤ 57 ∧ numG (s.data.toList.drop pos) m = if (9223372036854775808 - ((s[pos]'h).toNat - 48)) / 10 < m then none else numG (s.data.toList.drop (pos + 1)) (10 * m + ((s[pos]'h).toNat - 48)) := by
  refine ⟨decode_ascii s pos h (dg_lo _ hc), ((dg_iff _).1 hc).1, ((dg_iff _).1 hc).2, ?_⟩
  rw [drop_at s pos h, numG]
theorem num_end (s : ByteArray) (pos m : Nat) (h : ¬ pos < s.size) : numG (s.data.toList.drop pos) m = some m := by
  rw [List.drop_eq_nil_of_le (by rw [Array.length_toList]; show s.size ≤ pos; omega)]; rfl

def wdA : Bool → List UInt8 → Bool
  | _, [] => true
  | f, c :: r => (sm c || (!f && dg c)) && wdA false r
theorem wdA_all : ∀ r : List UInt8, wdA false r = r.all (fun d => sm d || dg d)
  | [] => rfl
  | c :: r => by rw [wdA, wdA_all r]; rfl
theorem isWd_is (l : List UInt8) : isWd l = (wdA true l && (!l.isEmpty && decide (l.length ≤ 32))) := by
  cases l with
  | nil => rfl
  | cons c r => unfold isWd; rw [wdA, wdA_all]; simp [Bool.and_assoc]

/-! ### What a text says -/
theorem scan_take : ∀ (r said : List UInt8) (n : Nat), scanT r = some (said, n) → r.take (n - 1) = tw said
  | [], _, _, h => by simp [scanT] at h
  | [c], said, n, h => by
    rw [scanT] at h
    split at h
    · simp only [Option.some.injEq, Prod.mk.injEq] at h; obtain ⟨rfl, rfl⟩ := h; rfl
    · cases h
  | c :: d :: q, said, n, h => by
    rw [scanT] at h
    split at h
    · rename_i hc
      split at h
      · rename_i hd
        cases hq : scanT q with
        | none => rw [hq] at h; cases h
        | some x =>
          obtain ⟨a, m⟩ := x
          have ih := scan_take q a m hq
          have hm := scanT_le q a m hq
          rw [hq] at h
          simp only [Option.map_some, Option.some.injEq, Prod.mk.injEq] at h
          obtain ⟨rfl, rfl⟩ := h
          rw [tw_cons, if_pos rfl, ← ih, hc, hd]
          obtain ⟨k, rfl⟩ : ∃ k, m = k + 1 := ⟨m - 1, by omega⟩
          rfl
      · simp only [Option.some.injEq, Prod.mk.injEq] at h
        obtain ⟨rfl, rfl⟩ := h
        rfl
    · rename_i hc
      cases hq : scanT (d :: q) with
      | none => rw [hq] at h; cases h
      | some x =>
        obtain ⟨a, m⟩ := x
        have ih := scan_take (d :: q) a m hq
        have hm := scanT_le (d :: q) a m hq
        rw [hq] at h
        simp only [Option.map_some, Option.some.injEq, Prod.mk.injEq] at h
        obtain ⟨rfl, rfl⟩ := h
        rw [tw_cons, if_neg hc, ← ih]
        obtain ⟨k, rfl⟩ : ∃ k, m = k + 1 := ⟨m - 1, by omega⟩
        rfl

theorem index2 (b : UInt8) (l : List UInt8) (h : b ≠ 39) : Lib.index (b :: l) [39, 39] = if Lib.index l [39, 39] = -1 then -1 else Lib.index l [39, 39] + 1 := by
  rw [Lib.index]
  have h2 : ([39, 39] : List UInt8).isPrefixOf (b :: l) = false := by
    simp only [List.isPrefixOf, Bool.and_eq_false_imp]
    intro e
    exact absurd (by simpa using e) (Ne.symm h)
  rw [h2]
  by_cases k : Lib.index l [39, 39] = -1 <;> simp [k]
theorem replace_tw (t : List UInt8) : Lib.replaceK [39, 39] [39] (Lib.count (tw t) [39, 39]) (tw t) = t := by
  induction t with
  | nil =>
    have : Lib.index [] [39, 39] = -1 := rfl
    show Lib.replaceK [39, 39] [39] (Lib.count [] [39, 39]) [] = []
    rw [Lib.count_miss this]; rfl
  | cons b t ih =>
    rw [tw_cons]
    by_cases h : b = 39
    · subst h
      rw [if_pos rfl]
      show Lib.replaceK [39, 39] [39] (Lib.count (39 :: 39 :: tw t) [39, 39]) (39 :: 39 :: tw t) = _
      have h0 : Lib.index (39 :: 39 :: tw t) [39, 39] = ((0 : Nat) : Int) := by rw [Lib.index]; rfl
      have hc := Lib.count_hit (by simp) h0
      have e1 : (39 :: 39 :: tw t).drop (0 + ([39, 39] : List UInt8).length) = tw t := rfl
      rw [e1] at hc
      rw [hc, Nat.add_comm, Lib.replaceK_hit _ _ _ _ 0 h0, e1, ih]; rfl
    · rw [if_neg h]
      show Lib.replaceK [39, 39] [39] (Lib.count (b :: tw t) [39, 39]) (b :: tw t) = _
      have hi := index2 b (tw t) h
      by_cases k : Lib.index (tw t) [39, 39] = -1
      · rw [if_pos k] at hi
        rw [Lib.count_miss k] at ih
        rw [Lib.count_miss hi]
        have e : tw t = t := ih
        rw [e]; rfl
      · rw [if_neg k] at hi
        obtain ⟨i, hi0⟩ : ∃ i : Nat, Lib.index (tw t) [39, 39] = i := ⟨(Lib.index (tw t) [39, 39]).toNat, by have := Lib.index_ge (tw t) [39, 39]; omega⟩
        have h1 : Lib.index (b :: tw t) [39, 39] = ((i + 1 : Nat) : Int) := by rw [hi, hi0]; rfl
        have hc := Lib.count_hit (by simp) h1
        have hc2 := Lib.count_hit (by simp) hi0
        have e1 : (b :: tw t).drop (i + 1 + ([39, 39] : List UInt8).length) = (tw t).drop (i + ([39, 39] : List UInt8).length) := rfl
        rw [e1] at hc
        rw [hc2, Nat.add_comm, Lib.replaceK_hit _ _ _ _ i hi0] at ih
        rw [hc, Nat.add_comm, Lib.replaceK_hit _ _ _ _ (i + 1) h1, e1]
        show b :: _ = _
        exact congrArg (b :: ·) ih
theorem replaceAll_tw (t : List UInt8) : Lib.replaceAll (tw t) [39, 39] [39] = t := by
  unfold Lib.replaceAll Lib.replace
  rw [if_neg (by decide)]
  have : Lib.replaceNum (tw t) [39, 39] (-1) = Lib.count (tw t) [39, 39] := by unfold Lib.replaceNum; rw [if_pos (.inl (by decide))]
  rw [this, replace_tw]
end Go.Proofs.YtedamaccflhmfaaGreatDoor.Lx
