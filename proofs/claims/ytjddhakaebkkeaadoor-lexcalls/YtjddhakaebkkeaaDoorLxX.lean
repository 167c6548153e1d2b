/-
  Plain: a token ends with a byte below 128; how the tokens of a text come one by one.
-/
import Derived.Test.YtjddhakaebkkeaaDoorXA
namespace Go.Proofs.YtjddhakaebkkeaaDoor.Lx

theorem scanT_last : ∀ (l said : List UInt8) (n : Nat), scanT l = some (said, n) → l[n - 1]? = some 39
  | [], _, _, h => by simp [scanT] at h
  | [c], said, n, h => by
    rw [scanT] at h
    split at h
    · rename_i hc
      simp only [Option.some.injEq, Prod.mk.injEq] at h; obtain ⟨_, rfl⟩ := h; rw [hc]; rfl
    · cases h
  | c :: d :: q, said, n, h => by
    rw [scanT] at h
    split at h
    · rename_i hc
      split at h
      · cases hq : scanT q with
        | none => rw [hq] at h; cases h
        | some x =>
          obtain ⟨a, m⟩ := x
          have ih := scanT_last q a m hq
          have hm := scanT_le q a m hq
          rw [hq] at h
          simp only [Option.map_some, Option.some.injEq, Prod.mk.injEq] at h
          obtain ⟨_, rfl⟩ := h
          obtain ⟨k, rfl⟩ : ∃ k, m = k + 1 := ⟨m - 1, by omega⟩
          exact ih
      · simp only [Option.some.injEq, Prod.mk.injEq] at h
        obtain ⟨_, rfl⟩ := h
        rw [hc]; rfl
    · cases hq : scanT (d :: q) with
      | none => rw [hq] at h; cases h
      | some x =>
        obtain ⟨a, m⟩ := x
        have ih := scanT_last (d :: q) a m hq
        have hm := scanT_le (d :: q) a m hq
        rw [hq] at h
        simp only [Option.map_some, Option.some.injEq, Prod.mk.injEq] at h
        obtain ⟨_, rfl⟩ := h
        obtain ⟨k, rfl⟩ : ∃ k, m = k + 1 := ⟨m - 1, by omega⟩
        exact ih
theorem take_last {l : List UInt8} {p : UInt8 → Bool} (n : Nat) (h1 : 1 ≤ n) (hn : n = (l.takeWhile p).length) : ∃ c, l[n - 1]? = some c ∧ p c = true := by
  have ht := take_tw p l
  have hp := tw_all p l
  have hlt : n - 1 < (l.takeWhile p).length := by omega
  refine ⟨(l.takeWhile p)[n - 1], ?_, hp _ (List.getElem_mem _)⟩
  have e : (l.takeWhile p)[n - 1]? = some (l.takeWhile p)[n - 1] := List.getElem?_eq_getElem hlt
  rw [← e, ← ht, List.getElem?_take_of_lt (by omega)]
theorem isS_lo {l : List UInt8} (h : isS l = true) : ∀ c ∈ l, c.toNat < 128 := by
  have hl : l ∈ signs := by unfold isS at h; simpa using h
  unfold signs at hl
  simp only [List.mem_cons, List.not_mem_nil, or_false] at hl
  rcases hl with rfl | rfl | rfl | rfl | rfl | rfl | rfl | rfl | rfl | rfl | rfl | rfl | rfl | rfl | rfl | rfl | rfl <;> decide
/-- A token's last byte is below 128. -/
theorem next_last {l : List UInt8} {x : Tk} {n : Nat} (h : next l = .tok x n) : ∃ c, l[n - 1]? = some c ∧ c.toNat < 128 := by
  cases l with
  | nil => cases h
  | cons c q =>
    unfold next at h
    simp only at h
    split at h
    · rename_i hl
      unfold wordN at h
      split at h
      · cases h
      · simp only [Nx.tok.injEq] at h
        obtain ⟨_, hm⟩ := h
        obtain ⟨d, h1, h2⟩ := take_last (l := c :: q) (p := inw) n (by rw [← hm]; exact word_pos hl) hm.symm
        exact ⟨d, h1, inw_lo d h2⟩
    · split at h
      · rename_i hd
        unfold numN at h
        split at h
        · cases h
        · simp only [Nx.tok.injEq] at h
          obtain ⟨_, hm⟩ := h
          obtain ⟨d, h1, h2⟩ := take_last (l := c :: q) (p := dg) n (by rw [← hm]; exact num_pos hd) hm.symm
          exact ⟨d, h1, dg_lo d h2⟩
      · split at h
        · unfold textN at h
          split at h
          · cases h
          · rename_i said k hk
            have hlast := scanT_last _ said k hk
            have hle := scanT_le _ said k hk
            simp only [List.drop_succ_cons, List.drop_zero] at hlast
            split at h
            · split at h
              · cases h
              · simp only [Nx.tok.injEq] at h
                obtain ⟨_, hm⟩ := h
                refine ⟨39, ?_, by decide⟩
                obtain ⟨j, rfl⟩ : ∃ j, k = j + 1 := ⟨k - 1, by omega⟩
                subst hm
                exact hlast
            · cases h
        · unfold signN at h
          split at h
          · rename_i h2
            simp only [Nx.tok.injEq] at h
            obtain ⟨_, hm⟩ := h
            subst hm
            cases q with
            | nil => simp at h2
            | cons d r => exact ⟨d, rfl, isS_lo h2.2 d (by simp)⟩
          · split at h
            · rename_i h1
              simp only [Nx.tok.injEq] at h
              obtain ⟨_, hm⟩ := h
              subst hm
              exact ⟨c, rfl, isS_lo h1 c (by simp)⟩
            · cases h

theorem next_err {l : List UInt8} {e : Int} (h : next l = .err e) : e = 3 ∨ e = 230 ∨ e = 231 ∨ e = 232 ∨ e = 233 := by
  cases l with
  | nil => simp only [next, Nx.err.injEq] at h; omega
  | cons c q =>
    unfold next at h
    simp only at h
    split at h
    · unfold wordN at h
      split at h
      · simp only [Nx.err.injEq] at h; omega
      · cases h
    · split at h
      · unfold numN at h
        split at h
        · simp only [Nx.err.injEq] at h; omega
        · cases h
      · split at h
        · unfold textN at h
          split at h
          · simp only [Nx.err.injEq] at h; omega
          · split at h
            · split at h
              · simp only [Nx.err.injEq] at h; omega
              · cases h
            · simp only [Nx.err.injEq] at h; omega
        · unfold signN at h
          split at h
          · cases h
          · split at h
            · cases h
            · simp only [Nx.err.injEq] at h; omega

theorem lexG_no : ∀ (f : Nat) (l : List UInt8) (a : Nat) (x : Int) (p : Nat), lexG f l a = .error (x, p) → ¬ x = 0 ∧ a ≤ p ∧ p < a + l.length
  | 0, l, a, x, p, h => by cases h
  | f + 1, [], a, x, p, h => by cases h
  | f + 1, c :: r, a, x, p, h => by
    rw [lexG] at h
    split at h
    · have := lexG_no f r (a + 1) x p h
      simp only [List.length_cons]
      exact ⟨this.1, by omega, by omega⟩
    · cases hn : next (c :: r) with
      | err e =>
        rw [hn] at h
        simp only [Except.error.injEq, Prod.mk.injEq] at h
        obtain ⟨rfl, rfl⟩ := h
        have := next_err hn
        simp only [List.length_cons]
        exact ⟨by omega, by omega, by omega⟩
      | tok y n =>
        rw [hn] at h
        simp only at h
        have hw := next_width hn
        cases hg : lexG f ((c :: r).drop n) (a + n) with
        | ok q => rw [hg] at h; cases h
        | error z =>
          obtain ⟨x', p'⟩ := z
          rw [hg] at h
          simp only [Except.map, Except.error.injEq, Prod.mk.injEq] at h
          obtain ⟨rfl, rfl⟩ := h
          have := lexG_no f _ _ _ _ hg
          rw [List.length_drop] at this
          exact ⟨this.1, by omega, by omega⟩
theorem lexA_no {l : List UInt8} {x : Int} {p : Nat} (h : lexA l 0 = .error (x, p)) : ¬ x = 0 ∧ p < l.length := by
  have := lexG_no l.length l 0 x p h
  exact ⟨this.1, by omega⟩

/-! ### The loop over runes -/
/-- Behind so many bytes these tokens were told. -/
def Told (l : List UInt8) (q : List Tk) (P : Nat) : Prop := lexA l 0 = (lexA (l.drop P) P).map (q ++ ·)
theorem told_nil (l : List UInt8) : Told l [] 0 := by
  unfold Told
  rw [List.drop_zero]
  cases lexA l 0 <;> rfl
theorem told_blank {l : List UInt8} {q : List Tk} {P : Nat} {c : UInt8} {r : List UInt8} (h : Told l q P) (hd : l.drop P = c :: r) (hd2 : l.drop (P + 1) = r) (hb : bl c = true) : Told l q (P + 1) := by
  unfold Told at h ⊢
  rw [h, hd, lexA_blank r P hb, hd2]
theorem told_err {l : List UInt8} {q : List Tk} {P : Nat} {c : UInt8} {r : List UInt8} {e : Int} (h : Told l q P) (hd : l.drop P = c :: r) (hb : bl c = false) (hn : next (l.drop P) = .err e) : lexA l 0 = .error (e, P) := by
  unfold Told at h
  rw [h, hd, lexA_err P hb (by rw [← hd]; exact hn)]; rfl
theorem told_tok {l : List UInt8} {q : List Tk} {P : Nat} {x : Tk} {n : Nat} (h : Told l q P) (hn : next (l.drop P) = .tok x n) : Told l (q ++ [{ x with at' := P }]) (P + n) := by
  unfold Told at h ⊢
  rw [h, lexA_next P hn, List.drop_drop]
  cases lexA (l.drop (P + n)) (P + n) with
  | error e => rfl
  | ok z => simp [Except.map]
theorem told_end {l : List UInt8} {q : List Tk} {P : Nat} (h : Told l q P) (hP : l.length ≤ P) : lexA l 0 = .ok q := by
  unfold Told at h
  rw [h, List.drop_eq_nil_of_le hP, lexA_nil]
  simp [Except.map]
/-- A rune that begins ahead of a token's end does not go beyond it. -/
theorem rune_stays (s : ByteArray) (pos B : Nat) (h : pos < B) (hB : B ≤ s.size) (ha : ∃ c, s.data.toList[B - 1]? = some c ∧ c.toNat < 128) : pos + (Utf8.decode s pos).2 ≤ B := by
  obtain ⟨c, hc, hlo⟩ := ha
  have hlt : B - 1 < s.size := by omega
  have hg : s[B - 1]'hlt = c := by
    have := get_list s (B - 1) hlt
    rw [hc, get_big s (B - 1) hlt] at this
    exact (Option.some.inj this).symm
  by_cases he : pos = B - 1
  · subst he
    rw [decode_ascii s (B - 1) hlt (by rw [hg]; exact hlo)]
    simp only; omega
  · have := decode_stop s pos (B - 1) (by omega) hlt (by rw [hg]; exact hlo)
    omega
theorem last_drop {l : List UInt8} {P n : Nat} (h1 : 1 ≤ n) (h : ∃ c, (l.drop P)[n - 1]? = some c ∧ c.toNat < 128) : ∃ c, l[P + n - 1]? = some c ∧ c.toNat < 128 := by
  obtain ⟨c, hc, hlo⟩ := h
  rw [List.getElem?_drop] at hc
  exact ⟨c, by rw [show P + n - 1 = P + (n - 1) from by omega]; exact hc, hlo⟩
end Go.Proofs.YtjddhakaebkkeaaDoor.Lx
