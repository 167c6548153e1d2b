/-
  Plain: tokens that may be and what they say; where tokens lie; blanks and capital letters.
-/
import Derived.Test.YtfkfljpajeeclaaDoorLxQ
namespace Go.Proofs.YtfkfljpajeeclaaDoor.Lx

def tw (l : List UInt8) : List UInt8 := l.flatMap fun c => if c = 39 then [39, 39] else [c]
def isWd (l : List UInt8) : Bool := match l with
  | [] => false
  | c :: r => sm c && r.all (fun d => sm d || dg d) && decide ((c :: r).length ≤ 32)
/-- A token may be. -/
def mayT (x : Tk) : Bool := x.at' == 0 && (x.k == 2 || x.n == 0) &&
  (if x.k = 1 then isWd x.t else if x.k = 2 then x.t.isEmpty && decide (x.n ≤ 9223372036854775808) else if x.k = 3 then decide (x.t.length ≤ 64) && Lib.validD x.t else if x.k = 4 then isS x.t else false)
/-- What it says, as a text. -/
def saidT (x : Tk) : List UInt8 := if x.k = 2 then Lib.decDigits x.n else if x.k = 3 then 39 :: (tw x.t ++ [39]) else x.t
def unp (x : Tk) : Tk := { x with at' := 0 }

theorem tw_cons (c : UInt8) (s : List UInt8) : tw (c :: s) = (if c = 39 then [39, 39] else [c]) ++ tw s := by simp [tw]
theorem scan_tw : ∀ t : List UInt8, scanT (tw t ++ [39]) = some (t, (tw t).length + 1)
  | [] => rfl
  | c :: t => by
    have ih := scan_tw t
    rw [tw_cons]
    by_cases h : c = 39
    · subst h
      show scanT (39 :: 39 :: (tw t ++ [39])) = _
      rw [scanT, if_pos rfl, if_pos rfl, ih]; rfl
    · rw [if_neg h]
      show scanT (c :: (tw t ++ [39])) = some (c :: t, (tw t).length + 1 + 1)
      obtain ⟨d, q, hq⟩ : ∃ d q, tw t ++ [39] = d :: q := by
        cases ht : tw t with
        | nil => exact ⟨39, [], rfl⟩
        | cons d q => exact ⟨d, q ++ [39], rfl⟩
      rw [hq] at ih ⊢
      rw [scanT, if_neg h, ih]; rfl

theorem low_sm {c : UInt8} (h : sm c = true) : low c = c := by
  unfold low
  rw [if_neg]
  rw [cap_iff]; rw [sm_iff] at h; omega
theorem low_dg {c : UInt8} (h : dg c = true) : low c = c := by
  unfold low
  rw [if_neg]
  rw [cap_iff]; rw [dg_iff] at h; omega
theorem add32 {c : UInt8} (h : cap c = true) : (c + 32).toNat = c.toNat + 32 := by
  rw [cap_iff] at h
  rw [UInt8.toNat_add]
  show (c.toNat + 32) % 256 = _
  omega
theorem lt_low {c : UInt8} (h : lt c = true) : sm (low c) = true := by
  unfold low
  split
  · rename_i hc
    rw [sm_iff, add32 hc]; rw [cap_iff] at hc; omega
  · rename_i hc
    unfold lt at h
    simp only [Bool.or_eq_true] at h
    rcases h with h | h
    · exact h
    · exact absurd h hc
theorem inw_low {c : UInt8} (h : inw c = true) : (sm (low c) || dg (low c)) = true := by
  unfold inw at h
  simp only [Bool.or_eq_true] at h ⊢
  rcases h with h | h
  · exact .inl (lt_low h)
  · right; rw [low_dg h]; exact h

theorem numG_app : ∀ (a b : List UInt8) (m : Nat), numG (a ++ b) m = (numG a m).bind (numG b)
  | [], b, m => rfl
  | c :: a, b, m => by
    rw [List.cons_append, numG, numG]
    split
    · rfl
    · exact numG_app a b _
theorem numG_le : ∀ (l : List UInt8) (m n : Nat), m ≤ 9223372036854775808 → numG l m = some n → n ≤ 9223372036854775808
  | [], m, n, h, e => by simp only [numG, Option.some.injEq] at e; omega
  | c :: l, m, n, h, e => by
    rw [numG] at e
    split at e
    · cases e
    · rename_i hk
      have := c.toNat_lt
      exact numG_le l _ n (by omega) e
theorem dec_dg : ∀ u : Nat, ∀ c ∈ Lib.decDigits u, dg c = true := by
  intro u
  induction u using Nat.strongRecOn with
  | _ u ih =>
    by_cases h : u < 10
    · rw [Lib.decDigits, dif_pos h]
      intro c hc
      simp only [List.mem_cons, List.not_mem_nil, or_false] at hc
      subst hc
      rw [dg_iff]; simp; omega
    · rw [Lib.decDigits, dif_neg h]
      intro c hc
      simp only [List.mem_append, List.mem_cons, List.not_mem_nil, or_false] at hc
      rcases hc with hc | rfl
      · exact ih (u / 10) (by omega) c hc
      · rw [dg_iff]; simp; omega
theorem numG_dec : ∀ u : Nat, u ≤ 9223372036854775808 → numG (Lib.decDigits u) 0 = some u := by
  intro u
  induction u using Nat.strongRecOn with
  | _ u ih =>
    intro hu
    by_cases h : u < 10
    · rw [Lib.decDigits, dif_pos h, numG, if_neg (by omega), numG]
      have : (UInt8.ofNat (48 + u)).toNat = 48 + u := by simp; omega
      rw [this]; congr 1; omega
    · rw [Lib.decDigits, dif_neg h, numG_app, ih (u / 10) (by omega) (by omega)]
      show numG [UInt8.ofNat (48 + u % 10)] (u / 10) = some u
      have : (UInt8.ofNat (48 + u % 10)).toNat = 48 + u % 10 := by simp; omega
      rw [numG, this, if_neg (by omega), numG]; congr 1; omega
theorem dec_ne (u : Nat) : ∃ c r, Lib.decDigits u = c :: r := by
  cases h : Lib.decDigits u with
  | nil => have := Lib.decDigits_length u; have h2 := Lib.nDigits_pos u; rw [h] at this; simp at this; omega
  | cons c r => exact ⟨c, r, rfl⟩

theorem signs_next : ∀ l ∈ signs, next l = .tok ⟨4, l, 0, 0⟩ l.length := by
  intro l hl
  unfold signs at hl
  simp only [List.mem_cons, List.not_mem_nil, or_false] at hl
  rcases hl with rfl | rfl | rfl | rfl | rfl | rfl | rfl | rfl | rfl | rfl | rfl | rfl | rfl | rfl | rfl | rfl | rfl <;> rfl

theorem may_at {x : Tk} (h : mayT x = true) : x.at' = 0 := by
  unfold mayT at h
  simp only [Bool.and_eq_true, beq_iff_eq] at h
  exact h.1.1
theorem may_unp {x : Tk} (h : mayT x = true) : unp x = x := by
  have := may_at h
  obtain ⟨k, t, n, a⟩ := x
  simp only at this
  subst this
  rfl

/-- A token that may be is read as itself. -/
theorem said_next {x : Tk} (h : mayT x = true) : next (saidT x) = .tok x (saidT x).length := by
  obtain ⟨k, t, n, a⟩ := x
  have h0 := may_at h
  simp only at h0
  subst h0
  unfold mayT at h
  simp only [Bool.and_eq_true, beq_iff_eq, Bool.or_eq_true] at h
  obtain ⟨⟨_, hn⟩, h⟩ := h
  unfold saidT
  simp only at hn ⊢
  split at h
  · rename_i hk
    subst hk
    rw [if_neg (by decide), if_neg (by decide)]
    obtain rfl : n = 0 := by omega
    cases t with
    | nil => cases h
    | cons c r =>
      unfold isWd at h
      simp only [Bool.and_eq_true, decide_eq_true_eq, List.all_eq_true, Bool.or_eq_true] at h
      obtain ⟨⟨hc, hr⟩, hl⟩ := h
      have hlt : lt c = true := by unfold lt; rw [hc]; rfl
      have hall : ∀ a ∈ c :: r, inw a = true := by
        intro a ha
        simp only [List.mem_cons] at ha
        rcases ha with rfl | ha
        · unfold inw; rw [hlt]; rfl
        · rcases hr a ha with h | h
          · unfold inw lt; rw [h]; rfl
          · unfold inw; rw [h]; simp
      have hW : wordW (c :: r) = (c :: r).length := by
        unfold wordW
        have := tw_app inw (fun c h => bl_inw h) (c :: r) hall ends_nil
        rw [List.append_nil] at this
        rw [this]
      have hmap : (c :: r).map low = c :: r := by
        have : ∀ a ∈ c :: r, low a = a := by
          intro a ha
          simp only [List.mem_cons] at ha
          rcases ha with rfl | ha
          · exact low_sm hc
          · rcases hr a ha with h | h
            · exact low_sm h
            · exact low_dg h
        exact (List.map_congr_left this).trans (List.map_id _)
      unfold next
      simp only
      rw [if_pos hlt]
      unfold wordN
      rw [hW, if_neg (by omega), List.take_length, hmap]
  · split at h
    · rename_i hk
      subst hk
      rw [if_pos rfl]
      simp only [Bool.and_eq_true, decide_eq_true_eq, List.isEmpty_iff] at h
      obtain ⟨rfl, hu⟩ := h
      have hd := dec_dg n
      have hg := numG_dec n hu
      obtain ⟨c, r, hcr⟩ := dec_ne n
      rw [hcr] at hd hg ⊢
      have hc : dg c = true := hd c (by simp)
      have hl : lt c = false := eq_false_of (by rw [lt_iff]; rw [dg_iff] at hc; omega)
      have hW : numW (c :: r) = (c :: r).length := by
        unfold numW
        have := tw_app dg (fun c h => bl_dg h) (c :: r) hd ends_nil
        rw [List.append_nil] at this
        rw [this]
      unfold next
      simp only
      rw [if_neg (by rw [hl]; simp), if_pos hc]
      unfold numN
      rw [hW, List.take_length, hg]
    · split at h
      · rename_i hk
        subst hk
        rw [if_neg (by decide), if_pos rfl]
        simp only [Bool.and_eq_true, decide_eq_true_eq] at h
        obtain ⟨hl, hv⟩ := h
        obtain rfl : n = 0 := by omega
        unfold next
        simp only
        rw [if_neg (by decide), if_neg (by decide), if_pos trivial]
        unfold textN
        simp only [List.drop_succ_cons, List.drop_zero]
        rw [scan_tw]
        simp only
        rw [if_pos hv, if_neg (by omega)]
        simp
      · split at h
        · rename_i hk
          subst hk
          rw [if_neg (by decide), if_neg (by decide)]
          obtain rfl : n = 0 := by omega
          exact signs_next t (by unfold isS at h; simpa using h)
        · cases h

/-- What is read as a token may be. -/
theorem next_may {l : List UInt8} {x : Tk} {n : Nat} (h : next l = .tok x n) : mayT x = true := by
  cases l with
  | nil => cases h
  | cons c q =>
    unfold next at h
    simp only at h
    split at h
    · rename_i hl
      unfold wordN at h
      split at h
      · cases h
      · rename_i h32
        simp only [Nx.tok.injEq] at h
        obtain ⟨rfl, hm⟩ := h
        have ht : (c :: q).take (wordW (c :: q)) = (c :: q).takeWhile inw := take_tw _ _
        have hp := tw_all inw (c :: q)
        rw [← ht] at hp
        have hw := tw_le inw (c :: q)
        have hw1 := word_pos (r := q) hl
        obtain ⟨m, hm1⟩ : ∃ m, wordW (c :: q) = m + 1 := ⟨wordW (c :: q) - 1, by omega⟩
        rw [hm1] at hp h32 ⊢
        have e : (c :: q).take (m + 1) = c :: q.take m := rfl
        rw [e] at hp ⊢
        unfold mayT isWd
        simp only [List.map_cons, List.length_cons, List.length_map, List.length_take, Bool.and_eq_true]
        refine ⟨⟨rfl, rfl⟩, ?_⟩
        rw [if_pos trivial]
        simp only [Bool.and_eq_true, decide_eq_true_eq, List.all_eq_true, List.mem_map]
        refine ⟨⟨lt_low hl, ?_⟩, by omega⟩
        rintro d ⟨a, ha, rfl⟩
        exact inw_low (hp a (by simp [ha]))
    · split at h
      · unfold numN at h
        split at h
        · cases h
        · rename_i u hu
          simp only [Nx.tok.injEq] at h
          obtain ⟨rfl, _⟩ := h
          have := numG_le _ 0 u (by omega) hu
          unfold mayT
          simp [this]
      · split at h
        · unfold textN at h
          split at h
          · cases h
          · split at h
            · rename_i hv
              split at h
              · cases h
              · rename_i h64
                simp only [Nx.tok.injEq] at h
                obtain ⟨rfl, _⟩ := h
                unfold mayT
                simp [hv]; omega
            · cases h
        · unfold signN at h
          split at h
          · rename_i h2
            simp only [Nx.tok.injEq] at h
            obtain ⟨rfl, _⟩ := h
            exact h2.2
          · split at h
            · rename_i h1
              simp only [Nx.tok.injEq] at h
              obtain ⟨rfl, _⟩ := h
              exact h1
            · cases h

/-- The text of tokens. -/
def textL : List Tk → List UInt8
  | [] => []
  | [x] => saidT x
  | x :: y :: r => saidT x ++ ([32] ++ textL (y :: r))
/-- The first token that may not be. -/
def badAt : List Tk → Option Nat
  | [] => none
  | x :: r => if mayT x then (badAt r).map (· + 1) else some 0
theorem bad_none : ∀ l : List Tk, badAt l = none ↔ ∀ x ∈ l, mayT x = true
  | [] => by simp [badAt]
  | x :: r => by
    rw [badAt]
    by_cases h : mayT x = true
    · rw [if_pos h]; simp [h, bad_none r]
    · rw [if_neg h]; simp [h]
theorem bad_lt : ∀ (l : List Tk) (i : Nat), badAt l = some i → i < l.length
  | [], i, h => by cases h
  | x :: r, i, h => by
    rw [badAt] at h
    split at h
    · cases hb : badAt r with
      | none => rw [hb] at h; cases h
      | some j =>
        rw [hb] at h
        simp only [Option.map_some, Option.some.injEq] at h
        have := bad_lt r j hb
        simp only [List.length_cons]; omega
    · simp only [Option.some.injEq] at h; simp only [List.length_cons]; omega

theorem tk_at (x : Tk) (a : Int) : unp { x with at' := a } = unp x := rfl
theorem take_said {x : Tk} : (saidT x).take (saidT x).length = saidT x := List.take_length
theorem lex_text : ∀ (l : List Tk) (a : Nat), (∀ x ∈ l, mayT x = true) → ∃ q, lexA (textL l) a = .ok q ∧ q.map unp = l
  | [], a, _ => ⟨[], rfl, rfl⟩
  | [x], a, h => by
    have hx := h x (by simp)
    have hp := lexA_piece (said_next hx) [] [] (by simp) (.inr ends_nil) a
    rw [take_said, List.append_nil, List.append_nil] at hp
    refine ⟨[{ x with at' := a }], ?_, by simp [tk_at, may_unp hx]⟩
    rw [textL, hp, lexA_nil]; rfl
  | x :: y :: r, a, h => by
    have hx := h x (by simp)
    obtain ⟨q, hq, hm⟩ := lex_text (y :: r) (a + (saidT x).length + 1) (fun z hz => h z (by simp [hz]))
    have hp := lexA_piece (said_next hx) [32] (textL (y :: r)) (by intro b hb; simp at hb; subst hb; rfl) (.inl (by simp)) a
    rw [take_said] at hp
    refine ⟨{ x with at' := a } :: q, ?_, by rw [List.map_cons, tk_at, may_unp hx, hm]⟩
    rw [textL, hp]
    show (lexA _ (a + (saidT x).length + 1)).map _ = _
    rw [hq]; rfl

/-! ### Where tokens lie -/
/-- The tokens of the bytes from a place on. -/
def Gs (l : List UInt8) : List Tk → Nat → Prop
  | [], p => ∀ b ∈ l.drop p, bl b = true
  | x :: r, p => ∃ s n : Nat, p ≤ s ∧ x.at' = s ∧ (∀ b ∈ (l.drop p).take (s - p), bl b = true) ∧ next (l.drop s) = .tok (unp x) n ∧ s + n ≤ l.length ∧ Gs l r (s + n)

theorem gs_blank {l : List UInt8} {q : List Tk} {p : Nat} {c : UInt8} {r : List UInt8} (hl : l.drop p = c :: r) (hb : bl c = true) (h : Gs l q (p + 1)) : Gs l q p := by
  have hd : l.drop (p + 1) = r := by
    have := congrArg (List.drop 1) hl
    rw [List.drop_drop] at this
    exact this
  cases q with
  | nil =>
    unfold Gs at h ⊢
    rw [hd] at h
    rw [hl]
    intro b hm
    simp only [List.mem_cons] at hm
    rcases hm with rfl | hm
    · exact hb
    · exact h b hm
  | cons x q =>
    unfold Gs at h ⊢
    obtain ⟨s, n, hs, hx, hB, hn, hz, hg⟩ := h
    refine ⟨s, n, by omega, hx, ?_, hn, hz, hg⟩
    rw [hl]
    rw [hd] at hB
    obtain ⟨k, hk⟩ : ∃ k, s - p = k + 1 := ⟨s - p - 1, by omega⟩
    rw [hk, List.take_succ_cons]
    rw [show s - (p + 1) = k from by omega] at hB
    intro b hm
    simp only [List.mem_cons] at hm
    rcases hm with rfl | hm
    · exact hb
    · exact hB b hm
theorem next_at0 {l : List UInt8} {x : Tk} {n : Nat} (h : next l = .tok x n) : unp x = x := may_unp (next_may h)
theorem gs_of (l : List UInt8) : ∀ (f p : Nat) (q : List Tk), l.length - p ≤ f → p ≤ l.length → lexA (l.drop p) p = .ok q → Gs l q p := by
  intro f
  induction f with
  | zero =>
    intro p q hf hp h
    have e : l.drop p = [] := List.drop_eq_nil_of_le (by omega)
    rw [e, lexA_nil] at h
    cases h
    unfold Gs
    rw [e]; simp
  | succ f ih =>
    intro p q hf hp h
    cases hl : l.drop p with
    | nil =>
      rw [hl, lexA_nil] at h
      cases h
      unfold Gs
      rw [hl]; simp
    | cons c r =>
      have hlen : (l.drop p).length = r.length + 1 := by rw [hl]; rfl
      rw [List.length_drop] at hlen
      have hd : l.drop (p + 1) = r := by
        have := congrArg (List.drop 1) hl
        rw [List.drop_drop] at this
        exact this
      cases hb : bl c with
      | true =>
        rw [hl, lexA_blank r p hb, ← hd] at h
        exact gs_blank hl hb (ih (p + 1) q (by omega) (by omega) h)
      | false =>
        cases hn : next (c :: r) with
        | err e => rw [hl, lexA_err p hb hn] at h; cases h
        | tok x n =>
          rw [hl, lexA_tok p hb hn] at h
          have hw := next_width hn
          have hd2 : (c :: r).drop n = l.drop (p + n) := by rw [← hl, List.drop_drop]
          rw [hd2] at h
          simp only [List.length_cons] at hw
          cases hr : lexA (l.drop (p + n)) (p + n) with
          | error e => rw [hr] at h; cases h
          | ok q' =>
            rw [hr] at h
            cases h
            have := ih (p + n) q' (by omega) (by omega) hr
            unfold Gs
            refine ⟨p, n, Nat.le_refl _, rfl, by simp, ?_, by omega, this⟩
            rw [hl, hn, tk_at, next_at0 hn]

/-- Where the i-th token begins, or where the bytes end. -/
def nxt (l : List UInt8) (q : List Tk) (i : Nat) : Nat := match q[i]? with
  | some x => x.at'.toNat
  | none => l.length
theorem gs_le (l : List UInt8) : ∀ (q : List Tk) (p : Nat), p ≤ l.length → Gs l q p → p ≤ nxt l q 0 ∧ nxt l q 0 ≤ l.length ∧ ∀ b ∈ (l.drop p).take (nxt l q 0 - p), bl b = true
  | [], p, hp, h => by
    unfold Gs at h
    refine ⟨hp, Nat.le_refl _, fun b hb => h b (List.mem_of_mem_take hb)⟩
  | x :: r, p, hp, h => by
    unfold Gs at h
    obtain ⟨s, n, hs, hx, hB, hn, hz, hg⟩ := h
    have e : nxt l (x :: r) 0 = s := by
      show x.at'.toNat = s
      rw [hx]; rfl
    rw [e]
    exact ⟨hs, by omega, hB⟩
theorem gs_at (l : List UInt8) : ∀ (q : List Tk) (p i : Nat), Gs l q p → ∀ x, q[i]? = some x → ∃ s n : Nat, x.at' = s ∧ next (l.drop s) = .tok (unp x) n ∧ s + n ≤ nxt l q (i + 1) ∧ nxt l q (i + 1) ≤ l.length ∧ ∀ b ∈ (l.drop (s + n)).take (nxt l q (i + 1) - (s + n)), bl b = true
  | [], p, i, h, x, hx => by cases hx
  | y :: r, p, 0, h, x, hx => by
    unfold Gs at h
    obtain ⟨s, n, hs, hy, hB, hn, hz, hg⟩ := h
    simp only [List.getElem?_cons_zero, Option.some.injEq] at hx
    subst hx
    have := gs_le l r (s + n) hz hg
    exact ⟨s, n, hy, hn, this.1, this.2.1, this.2.2⟩
  | y :: r, p, i + 1, h, x, hx => by
    unfold Gs at h
    obtain ⟨s, n, hs, hy, hB, hn, hz, hg⟩ := h
    exact gs_at l r (s + n) i hg x hx

/-- One token's piece, cut into tokens alone. -/
theorem gap_lex {l : List UInt8} {x : Tk} {s n to' : Nat} (hn : next (l.drop s) = .tok (unp x) n) (h1 : s + n ≤ to') (hB : ∀ b ∈ (l.drop (s + n)).take (to' - (s + n)), bl b = true) :
    lexA ((l.drop s).take (to' - s)) 0 = .ok [unp x] := by
  have e : (l.drop s).take (to' - s) = (l.drop s).take n ++ ((l.drop (s + n)).take (to' - (s + n)) ++ []) := by
    rw [List.append_nil, ← List.drop_drop, show to' - s = n + (to' - (s + n)) from by omega, List.take_add]
  rw [e, lexA_piece hn _ [] hB (.inr ends_nil) 0, lexA_nil]
  rfl

/-! ### Blanks and capital letters -/
def up (c : UInt8) : UInt8 := if 97 ≤ c.toNat ∧ c.toNat ≤ 122 then c - 32 else c
theorem sub32 {c : UInt8} (h : 97 ≤ c.toNat ∧ c.toNat ≤ 122) : (c - 32).toNat = c.toNat - 32 := by
  rw [UInt8.toNat_sub_of_le]
  · rfl
  · rw [UInt8.le_iff_toNat_le]; show 32 ≤ c.toNat; omega
theorem up_inw {c : UInt8} (h : inw c = true) : inw (up c) = true := by
  unfold up
  split
  · rename_i hc
    rw [inw_iff, sub32 hc]; omega
  · exact h
theorem up_lt {c : UInt8} (h : lt c = true) : lt (up c) = true := by
  unfold up
  split
  · rename_i hc
    rw [lt_iff, sub32 hc]; omega
  · exact h
theorem low_up (c : UInt8) : low (up c) = low c := by
  unfold up
  split
  · rename_i hc
    have hs := sub32 hc
    have h1 : cap (c - 32) = true := by rw [cap_iff, hs]; omega
    have h2 : cap c = false := eq_false_of (by rw [cap_iff]; omega)
    unfold low
    rw [if_pos h1, h2]
    apply UInt8.toNat_inj.1
    rw [add32 h1, hs]
    simp only [Bool.false_eq_true, if_false]; omega
  · rfl
theorem up_bl {c : UInt8} (h : bl c = true) : up c = c := by
  unfold up
  rw [if_neg]
  rw [bl_iff] at h; omega
theorem kind_word {l : List UInt8} {x : Tk} {n : Nat} (h : next l = .tok x n) (hk : x.k = 1) : ∃ c r, l = c :: r ∧ lt c = true ∧ wordN l = .tok x n := by
  cases l with
  | nil => cases h
  | cons c q =>
    have h' := h
    unfold next at h
    simp only at h
    split at h
    · rename_i hl
      exact ⟨c, q, rfl, hl, h⟩
    · split at h
      · unfold numN at h
        split at h
        · cases h
        · simp only [Nx.tok.injEq] at h; obtain ⟨rfl, _⟩ := h; simp at hk
      · split at h
        · unfold textN at h
          split at h
          · cases h
          · split at h
            · split at h
              · cases h
              · simp only [Nx.tok.injEq] at h; obtain ⟨rfl, _⟩ := h; simp at hk
            · cases h
        · unfold signN at h
          split at h
          · simp only [Nx.tok.injEq] at h; obtain ⟨rfl, _⟩ := h; simp at hk
          · split at h
            · simp only [Nx.tok.injEq] at h; obtain ⟨rfl, _⟩ := h; simp at hk
            · cases h
theorem next_up {l : List UInt8} {x : Tk} {n : Nat} (h : next l = .tok x n) (hk : x.k = 1) : next ((l.take n).map up) = .tok x n ∧ ∀ c ∈ l.take n, inw c = true := by
  obtain ⟨c, r, rfl, hl, hw⟩ := kind_word h hk
  unfold wordN at hw
  split at hw
  · cases hw
  · rename_i h32
    simp only [Nx.tok.injEq] at hw
    obtain ⟨hx, hm⟩ := hw
    have ht : (c :: r).take n = (c :: r).takeWhile inw := by rw [← hm]; exact take_tw _ _
    have hp := tw_all inw (c :: r)
    rw [← ht] at hp
    refine ⟨?_, hp⟩
    have hww := tw_le inw (c :: r)
    have hw1 := word_pos (r := r) hl
    have hwd : wordW (c :: r) = ((c :: r).takeWhile inw).length := rfl
    obtain ⟨m, rfl⟩ : ∃ m, n = m + 1 := ⟨n - 1, by omega⟩
    have e : (c :: r).take (m + 1) = c :: r.take m := rfl
    have hlen : ((c :: r).take (m + 1)).length = m + 1 := by rw [List.length_take]; omega
    have hW : wordW (((c :: r).take (m + 1)).map up) = m + 1 := by
      unfold wordW
      have := tw_app inw (fun c h => bl_inw h) (((c :: r).take (m + 1)).map up) (by
        intro a ha
        obtain ⟨b, hb, rfl⟩ := List.mem_map.1 ha
        exact up_inw (hp b hb)) ends_nil
      rw [List.append_nil] at this
      rw [this, List.length_map, hlen]
    have hlow : (((c :: r).take (m + 1)).map up).map low = ((c :: r).take (m + 1)).map low := by
      rw [List.map_map]
      exact List.map_congr_left fun a _ => low_up a
    have hN : wordN (((c :: r).take (m + 1)).map up) = .tok x (m + 1) := by
      unfold wordN
      rw [hW, if_neg (by omega), List.take_of_length_le (by rw [List.length_map]; omega), hlow, ← hx, hm]
    rw [e] at hN ⊢
    rw [List.map_cons] at hN ⊢
    unfold next
    simp only
    rw [if_pos (up_lt hl)]
    exact hN

/-- What was put together so far is read as so many tokens, whatever stands behind it. -/
def Pre (T : List UInt8) (z : List Tk) : Prop := ∀ (r : List UInt8) (a : Nat), ∃ Z, lexA (T ++ r) a = (lexA r (a + T.length)).map (Z ++ ·) ∧ Z.map unp = z
theorem pre_nil : Pre [] [] := fun r a => ⟨[], by simp [Except.map]; cases lexA r a <;> rfl, rfl⟩
theorem pre_step {T : List UInt8} {z : List Tk} (h : Pre T z) {l : List UInt8} {x : Tk} {n : Nat} (hn : next l = .tok x n) (B : List UInt8) (hB : ∀ b ∈ B, bl b = true) (h0 : B ≠ []) : Pre (T ++ (l.take n ++ B)) (z ++ [x]) := by
  intro r a
  have hw := next_width hn
  obtain ⟨Z, hZ, hz⟩ := h ((l.take n ++ B) ++ r) a
  have hp := lexA_piece hn B r hB (.inl h0) (a + T.length)
  have hl : (l.take n).length = n := by rw [List.length_take]; omega
  refine ⟨Z ++ [{ x with at' := ((a + T.length : Nat) : Int) }], ?_, by rw [List.map_append, hz]; simp [tk_at, next_at0 hn]⟩
  rw [List.append_assoc, hZ, List.append_assoc, hp]
  have e : a + (T ++ (l.take n ++ B)).length = a + T.length + n + B.length := by simp only [List.length_append, hl]; omega
  rw [e]
  cases lexA r (a + T.length + n + B.length) with
  | error e => rfl
  | ok q => simp [Except.map]
theorem pre_end {T : List UInt8} {z : List Tk} (h : Pre T z) : ∃ q, lexA T 0 = .ok q ∧ q.map unp = z := by
  obtain ⟨Z, hZ, hz⟩ := h [] 0
  rw [List.append_nil, lexA_nil] at hZ
  exact ⟨Z, by rw [hZ]; simp [Except.map], hz⟩
end Go.Proofs.YtfkfljpajeeclaaDoor.Lx
