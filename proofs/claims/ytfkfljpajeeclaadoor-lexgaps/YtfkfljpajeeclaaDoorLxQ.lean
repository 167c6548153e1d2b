/-
  Plain: what a token's bytes are, with nothing or a blank behind them; what tokens say is read as the same tokens.
-/
import Derived.Test.YtfkfljpajeeclaaDoorLxP
namespace Go.Proofs.YtfkfljpajeeclaaDoor.Lx

theorem bl_iff (c : UInt8) : bl c = true ↔ c.toNat = 9 ∨ c.toNat = 10 ∨ c.toNat = 13 ∨ c.toNat = 32 := by
  simp [bl]; omega
theorem sm_iff (c : UInt8) : sm c = true ↔ (97 ≤ c.toNat ∧ c.toNat ≤ 122) ∨ c.toNat = 95 := by simp [sm]
theorem cap_iff (c : UInt8) : cap c = true ↔ 65 ≤ c.toNat ∧ c.toNat ≤ 90 := by simp [cap]
theorem dg_iff (c : UInt8) : dg c = true ↔ 48 ≤ c.toNat ∧ c.toNat ≤ 57 := by simp [dg]
theorem lt_iff (c : UInt8) : lt c = true ↔ (97 ≤ c.toNat ∧ c.toNat ≤ 122) ∨ c.toNat = 95 ∨ (65 ≤ c.toNat ∧ c.toNat ≤ 90) := by
  simp only [lt, Bool.or_eq_true, sm_iff, cap_iff]; omega
theorem inw_iff (c : UInt8) : inw c = true ↔ (97 ≤ c.toNat ∧ c.toNat ≤ 122) ∨ c.toNat = 95 ∨ (65 ≤ c.toNat ∧ c.toNat ≤ 90) ∨ (48 ≤ c.toNat ∧ c.toNat ≤ 57) := by
  simp only [inw, Bool.or_eq_true, lt_iff, dg_iff]; omega
theorem eq_false_of {b : Bool} (h : ¬ b = true) : b = false := by simpa using h
theorem bl_inw {c : UInt8} (h : bl c = true) : inw c = false := eq_false_of (by rw [inw_iff]; rw [bl_iff] at h; omega)
theorem bl_dg {c : UInt8} (h : bl c = true) : dg c = false := eq_false_of (by rw [dg_iff]; rw [bl_iff] at h; omega)
theorem bl_lt {c : UInt8} (h : bl c = true) : lt c = false := eq_false_of (by rw [lt_iff]; rw [bl_iff] at h; omega)
theorem u8_of (c : UInt8) (n : Nat) (hn : n < 256) : c = UInt8.ofNat n ↔ c.toNat = n := by
  constructor
  · rintro rfl; simp; omega
  · intro h; apply UInt8.toNat_inj.1; simp; omega
theorem ne39 {c : UInt8} (h : bl c = true) : c ≠ 39 := by
  rintro rfl; exact absurd h (by decide)

/-- Nothing stands behind, or a blank. -/
def Ends (r : List UInt8) : Prop := r = [] ∨ ∃ b t, r = b :: t ∧ bl b = true
theorem ends_nil : Ends [] := .inl rfl
theorem ends_cons {b : UInt8} (t : List UInt8) (h : bl b = true) : Ends (b :: t) := .inr ⟨b, t, rfl, h⟩

theorem take_tw (p : UInt8 → Bool) (l : List UInt8) : l.take (l.takeWhile p).length = l.takeWhile p := by
  induction l with
  | nil => rfl
  | cons c r ih =>
    by_cases h : p c = true
    · rw [List.takeWhile_cons_of_pos h, List.length_cons, List.take_succ_cons, ih]
    · rw [List.takeWhile_cons_of_neg h]; rfl
theorem tw_all (p : UInt8 → Bool) (l : List UInt8) : ∀ a ∈ l.takeWhile p, p a = true := by
  intro a ha
  exact List.all_eq_true.1 (List.all_takeWhile (l := l) (p := p)) a ha
theorem tw_ends (p : UInt8 → Bool) (hp : ∀ c, bl c = true → p c = false) {r : List UInt8} (h : Ends r) : r.takeWhile p = [] := by
  rcases h with rfl | ⟨b, t, rfl, hb⟩
  · rfl
  · rw [List.takeWhile_cons_of_neg (by rw [hp b hb]; simp)]
theorem tw_app (p : UInt8 → Bool) (hp : ∀ c, bl c = true → p c = false) (l : List UInt8) (h : ∀ a ∈ l, p a = true) {r : List UInt8} (hr : Ends r) : (l ++ r).takeWhile p = l := by
  rw [List.takeWhile_append_of_pos h, tw_ends p hp hr, List.append_nil]

theorem isS_not {c b : UInt8} (h : bl b = true) : isS [c, b] = false := by
  apply eq_false_of
  unfold isS signs
  simp only [List.contains_eq_mem, List.mem_cons, List.cons.injEq, List.not_mem_nil, reduceCtorEq, and_false, and_true, or_false, false_or, decide_eq_true_eq]
  rw [bl_iff] at h
  rintro (⟨_, rfl⟩ | ⟨_, rfl⟩ | ⟨_, rfl⟩ | ⟨_, rfl⟩) <;> simp at h

theorem scanT_end : ∀ (l said : List UInt8) (n : Nat), scanT l = some (said, n) → ∀ r, Ends r → scanT (l.take n ++ r) = some (said, n)
  | [], _, _, h, _, _ => by simp [scanT] at h
  | [c], said, n, h, r, hr => by
    rw [scanT] at h
    split at h
    · simp only [Option.some.injEq, Prod.mk.injEq] at h
      obtain ⟨rfl, rfl⟩ := h
      rename_i hc
      subst hc
      rcases hr with rfl | ⟨b, t, rfl, hb⟩
      · rfl
      · show scanT (39 :: b :: t) = _
        rw [scanT, if_pos rfl, if_neg (ne39 hb)]
    · cases h
  | c :: d :: q, said, n, h, r, hr => by
    rw [scanT] at h
    split at h
    · rename_i hc
      subst hc
      split at h
      · rename_i hd
        subst hd
        cases hq : scanT q with
        | none => rw [hq] at h; cases h
        | some x =>
          obtain ⟨a, m⟩ := x
          have ih := scanT_end q a m hq r hr
          rw [hq] at h
          simp only [Option.map_some, Option.some.injEq, Prod.mk.injEq] at h
          obtain ⟨rfl, rfl⟩ := h
          show scanT (39 :: 39 :: (q.take m ++ r)) = _
          rw [scanT, if_pos rfl, if_pos rfl, ih]; rfl
      · simp only [Option.some.injEq, Prod.mk.injEq] at h
        obtain ⟨rfl, rfl⟩ := h
        rcases hr with rfl | ⟨b, t, rfl, hb⟩
        · rfl
        · show scanT (39 :: b :: t) = _
          rw [scanT, if_pos rfl, if_neg (ne39 hb)]
    · rename_i hc
      cases hq : scanT (d :: q) with
      | none => rw [hq] at h; cases h
      | some x =>
        obtain ⟨a, m⟩ := x
        have ih := scanT_end (d :: q) a m hq r hr
        have hm := scanT_le (d :: q) a m hq
        rw [hq] at h
        simp only [Option.map_some, Option.some.injEq, Prod.mk.injEq] at h
        obtain ⟨rfl, rfl⟩ := h
        obtain ⟨k, rfl⟩ : ∃ k, m = k + 1 := ⟨m - 1, by omega⟩
        have e : (c :: d :: q).take (k + 1 + 1) ++ r = c :: d :: (q.take k ++ r) := rfl
        have e2 : (d :: q).take (k + 1) ++ r = d :: (q.take k ++ r) := rfl
        rw [e2] at ih
        rw [e, scanT, if_neg hc, ih]; rfl

/-- A token's bytes, with nothing or a blank behind them, are that token. -/
theorem next_end {l : List UInt8} {x : Tk} {n : Nat} (h : next l = .tok x n) {r : List UInt8} (hr : Ends r) : next (l.take n ++ r) = .tok x n := by
  have hw := next_width h
  cases l with
  | nil => cases h
  | cons c q =>
    obtain ⟨m, rfl⟩ : ∃ m, n = m + 1 := ⟨n - 1, by omega⟩
    have e0 : (c :: q).take (m + 1) ++ r = c :: (q.take m ++ r) := rfl
    unfold next at h ⊢
    rw [e0]
    simp only at h ⊢
    split
    · rename_i hl
      rw [if_pos hl] at h
      unfold wordN at h
      split at h
      · cases h
      · rename_i h32
        simp only [Nx.tok.injEq] at h
        obtain ⟨hx, hm⟩ := h
        have ht : (c :: q).take (m + 1) = (c :: q).takeWhile inw := by rw [← hm]; exact take_tw _ _
        have hW : wordW ((c :: q).take (m + 1) ++ r) = m + 1 := by
          unfold wordW
          rw [ht, tw_app inw (fun c h => bl_inw h) _ (tw_all _ _) hr]
          exact hm
        rw [← e0]
        unfold wordN
        rw [hW, if_neg (by rw [hm] at h32; exact h32)]
        rw [hm] at hx
        rw [← hx, List.take_append_of_le_length (by rw [List.length_take]; omega), List.take_take, Nat.min_self]
    · rename_i hl
      rw [if_neg hl] at h
      split
      · rename_i hd
        rw [if_pos hd] at h
        unfold numN at h
        split at h
        · cases h
        · rename_i u hu
          simp only [Nx.tok.injEq] at h
          obtain ⟨hx, hm⟩ := h
          have ht : (c :: q).take (m + 1) = (c :: q).takeWhile dg := by rw [← hm]; exact take_tw _ _
          have hW : numW ((c :: q).take (m + 1) ++ r) = m + 1 := by
            unfold numW
            rw [ht, tw_app dg (fun c h => bl_dg h) _ (tw_all _ _) hr]
            exact hm
          rw [← e0]
          unfold numN
          rw [hW, List.take_append_of_le_length (by rw [List.length_take]; omega), List.take_take, Nat.min_self]
          rw [hm] at hu
          rw [hu]
          simp only
          rw [hx]
      · rename_i hd
        rw [if_neg hd] at h
        split
        · rename_i h39
          rw [if_pos h39] at h
          unfold textN at h ⊢
          simp only [List.drop_succ_cons, List.drop_zero] at h ⊢
          split at h
          · cases h
          · rename_i said k hk
            have hs := scanT_end q said k hk r hr
            split at h
            · rename_i hv
              split at h
              · cases h
              · rename_i h64
                simp only [Nx.tok.injEq] at h
                obtain ⟨hx, hm⟩ := h
                obtain rfl : k = m := by omega
                rw [hs]
                simp only
                rw [if_pos hv, if_neg h64, hx]
            · cases h
        · rename_i h39
          rw [if_neg h39] at h
          unfold signN at h ⊢
          split at h
          · rename_i h2
            simp only [Nx.tok.injEq] at h
            obtain ⟨hx, hm⟩ := h
            obtain rfl : m = 1 := by omega
            cases q with
            | nil => simp at h2
            | cons d q2 =>
              have e1 : c :: ((d :: q2).take 1 ++ r) = c :: d :: r := rfl
              rw [e1]
              have e2 : (c :: d :: r).take 2 = (c :: d :: q2).take 2 := rfl
              rw [if_pos ⟨by simp, by rw [e2]; exact h2.2⟩, e2, hx]
          · rename_i h2
            split at h
            · rename_i h1
              simp only [Nx.tok.injEq] at h
              obtain ⟨hx, hm⟩ := h
              obtain rfl : m = 0 := by omega
              have e1 : c :: (q.take 0 ++ r) = c :: r := rfl
              rw [e1]
              have hn : ¬ (2 ≤ (c :: r).length ∧ isS ((c :: r).take 2) = true) := by
                rcases hr with rfl | ⟨b, t, rfl, hb⟩
                · simp
                · rintro ⟨_, h'⟩
                  have e3 : (c :: b :: t).take 2 = [c, b] := rfl
                  rw [e3, isS_not hb] at h'; cases h'
              rw [if_neg hn]
              have e4 : (c :: r).take 1 = (c :: q).take 1 := rfl
              rw [e4, if_pos h1, hx]
            · cases h

theorem next_bl {l : List UInt8} {x : Tk} {n : Nat} (h : next l = .tok x n) : ∃ c r, l = c :: r ∧ bl c = false := by
  cases l with
  | nil => cases h
  | cons c r =>
    refine ⟨c, r, rfl, eq_false_of fun hb => ?_⟩
    unfold next at h
    simp only at h
    rw [if_neg (by rw [bl_lt hb]; simp), if_neg (by rw [bl_dg hb]; simp), if_neg (ne39 hb)] at h
    unfold signN at h
    split at h
    · rename_i h2
      obtain ⟨h2, h3⟩ := h2
      cases r with
      | nil => simp at h2
      | cons d q =>
        have e3 : (c :: d :: q).take 2 = [c, d] := rfl
        rw [e3] at h3
        unfold isS signs at h3
        simp only [List.contains_eq_mem, List.mem_cons, List.cons.injEq, List.not_mem_nil, reduceCtorEq, and_false, and_true, or_false, false_or, decide_eq_true_eq] at h3
        rw [bl_iff] at hb
        rcases h3 with ⟨rfl, _⟩ | ⟨rfl, _⟩ | ⟨rfl, _⟩ | ⟨rfl, _⟩ <;> simp at hb
    · split at h
      · rename_i h3
        have e3 : (c :: r).take 1 = [c] := rfl
        rw [e3] at h3
        unfold isS signs at h3
        simp only [List.contains_eq_mem, List.mem_cons, List.cons.injEq, List.not_mem_nil, reduceCtorEq, and_false, and_true, or_false, decide_eq_true_eq] at h3
        rw [bl_iff] at hb
        rcases h3 with rfl | rfl | rfl | rfl | rfl | rfl | rfl | rfl | rfl | rfl | rfl | rfl | rfl <;> simp at hb
      · cases h

/-- One token and what stands behind it. -/
theorem lexA_next {l : List UInt8} {x : Tk} {n : Nat} (a : Nat) (h : next l = .tok x n) : lexA l a = (lexA (l.drop n) (a + n)).map fun q => { x with at' := a } :: q := by
  obtain ⟨c, r, rfl, hb⟩ := next_bl h
  exact lexA_tok a hb h
theorem lexA_blanks : ∀ (B r : List UInt8) (a : Nat), (∀ b ∈ B, bl b = true) → lexA (B ++ r) a = lexA r (a + B.length)
  | [], r, a, _ => by simp
  | b :: B, r, a, h => by
    rw [List.cons_append, lexA_blank _ _ (h b (by simp)), lexA_blanks B r (a + 1) (fun c hc => h c (by simp [hc])), List.length_cons]
    congr 1; omega
/-- A token's bytes, blanks behind them, then more. -/
theorem lexA_piece {l : List UInt8} {x : Tk} {n : Nat} (h : next l = .tok x n) (B r : List UInt8) (hB : ∀ b ∈ B, bl b = true) (hE : B ≠ [] ∨ Ends r) (a : Nat) :
    lexA (l.take n ++ (B ++ r)) a = (lexA r (a + n + B.length)).map fun q => { x with at' := a } :: q := by
  have hw := next_width h
  have he : Ends (B ++ r) := by
    cases B with
    | nil => rcases hE with h | h
             · exact absurd rfl h
             · exact h
    | cons b B => exact ends_cons _ (hB b (by simp))
  rw [lexA_next a (next_end h he)]
  have hl : (l.take n).length = n := by rw [List.length_take]; omega
  have e : (l.take n ++ (B ++ r)).drop n = B ++ r := by
    rw [List.drop_append_of_le_length (by omega), List.drop_of_length_le (by omega), List.nil_append]
  rw [e, lexA_blanks B r _ hB]
end Go.Proofs.YtfkfljpajeeclaaDoor.Lx
