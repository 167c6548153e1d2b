/-
  Plain facts on the texts of tuples: they stand in the order of the tuples, and are equal just if the tuples are.
-/
import Derived.Test.YtbcbdaaaglkjhaaCompare
import Derived.Test.YtbcbdaaaglkjhaaStampFacts
namespace Go.Proofs.Ytbcbdaaaglkjhaa
open Go.RowKit

theorem esc_cons (c : UInt8) (s : List UInt8) : esc (c :: s) = (if c = 0 then [0, 255] else [c]) ++ esc s := by simp [esc]

theorem u8_ne0 {c : UInt8} (h : ¬ c = 0) : c.toNat ≠ 0 := fun e => h (UInt8.toNat_inj.mp (by rw [e]; rfl))

theorem bl_same (c : UInt8) (x y : List UInt8) : Op.bytesLess (c :: x) (c :: y) = Op.bytesLess x y := by rw [bl_cons]; simp
theorem bl_lt (c d : UInt8) (x y : List UInt8) (h : c.toNat < d.toNat) : Op.bytesLess (c :: x) (d :: y) = true := by rw [bl_cons]; simp [h]
theorem bl_gt (c d : UInt8) (x y : List UInt8) (h : d.toNat < c.toNat) : Op.bytesLess (c :: x) (d :: y) = false := by
  rw [bl_cons]; have h1 : ¬ c.toNat < d.toNat := by omega
  have h2 : ¬ c.toNat = d.toNat := by omega
  simp [h1, h2]

/-- Texts with their ends stand in the order of the texts. -/
theorem esc_less (r r' : List UInt8) : ∀ s t : List UInt8, Op.bytesLess (esc s ++ [0, 1] ++ r) (esc t ++ [0, 1] ++ r') = (Op.bytesLess s t || (s == t && Op.bytesLess r r')) := by
  intro s
  induction s with
  | nil =>
    intro t
    cases t with
    | nil => simp [esc, bl_same, Op.bytesLess]
    | cons d t =>
      rw [esc_cons]
      by_cases h : d = 0
      · subst h
        simp only [esc, List.flatMap_nil, List.nil_append, if_true, List.cons_append, bl_same]
        rw [bl_lt 1 255 _ _ (by decide)]
        simp [Op.bytesLess]
      · have h1 := u8_ne0 h
        simp only [esc, List.flatMap_nil, List.nil_append, if_neg h, List.cons_append]
        rw [bl_lt 0 d _ _ (by show 0 < _; omega)]
        simp [Op.bytesLess]
  | cons c s ih =>
    intro t
    cases t with
    | nil =>
      rw [esc_cons]
      by_cases h : c = 0
      · subst h
        simp only [esc, List.flatMap_nil, List.nil_append, if_true, List.cons_append, bl_same]
        rw [bl_gt 255 1 _ _ (by decide)]
        simp [Op.bytesLess]
      · have h1 := u8_ne0 h
        simp only [esc, List.flatMap_nil, List.nil_append, if_neg h, List.cons_append]
        rw [bl_gt c 0 _ _ (by show 0 < _; omega)]
        simp [Op.bytesLess]
    | cons d t =>
      have hi := ih t
      rw [esc_cons, esc_cons]
      by_cases hc : c = 0
      · by_cases hd : d = 0
        · subst hc; subst hd
          simp only [if_true, List.cons_append, List.nil_append, bl_same]
          rw [hi]; simp
        · have h1 := u8_ne0 hd
          subst hc
          simp only [if_true, if_neg hd, List.cons_append, List.nil_append]
          rw [bl_lt 0 d _ _ (by show 0 < _; omega), bl_lt 0 d _ _ (by show 0 < _; omega)]
          simp
      · have h1 := u8_ne0 hc
        by_cases hd : d = 0
        · subst hd
          simp only [if_neg hc, if_true, List.cons_append, List.nil_append]
          rw [bl_gt c 0 _ _ (by show 0 < _; omega), bl_gt c 0 _ _ (by show 0 < _; omega)]
          simp [hc]
        · have h2 := u8_ne0 hd
          simp only [if_neg hc, if_neg hd, List.cons_append, List.nil_append]
          rw [bl_cons, bl_cons, hi]
          by_cases e : c.toNat = d.toNat
          · have e2 : c = d := UInt8.toNat_inj.mp e
            subst e2
            simp
          · have e2 : ¬ c = d := fun h => e (by rw [h])
            simp [e, e2]

theorem cmpI_lt (x y : Int) : cmpI x y = -1 ↔ x < y := by unfold cmpI; split <;> simp_all; split <;> omega
theorem cmpI_eq (x y : Int) : cmpI x y = 0 ↔ x = y := by
  unfold cmpI; split
  · constructor <;> intro h <;> omega
  · split <;> constructor <;> intro h <;> omega

/-- What the order of two values may be. -/
theorem cmpV_cases (v u : Val) : cmpV v u = -1 ∨ cmpV v u = 0 ∨ cmpV v u = 1 := by
  unfold cmpV or3 cmpI cmpS
  repeat' split
  all_goals simp_all

theorem may_cases (v : Val) (h : v.may = true) : (v.k = 0 ∧ v.n = 0 ∧ v.t.toList = []) ∨ (v.k = 1 ∧ (v.n = 0 ∨ v.n = 1) ∧ v.t.toList = []) ∨ (v.k = 2 ∧ v.t.toList = []) ∨ (v.k = 3 ∧ v.n = 0 ∧ v.t.size ≤ 64) := by
  simp only [Val.may, mayV, Bool.or_eq_true, Bool.and_eq_true, beq_iff_eq, decide_eq_true_eq, List.isEmpty_iff] at h
  rcases h with ((⟨⟨a, b⟩, c⟩ | ⟨⟨a, b⟩, c⟩) | ⟨a, c⟩) | ⟨⟨a, b⟩, c⟩
  · exact .inl ⟨a, b, c⟩
  · exact .inr (.inl ⟨a, b, c⟩)
  · exact .inr (.inr (.inl ⟨a, c⟩))
  · exact .inr (.inr (.inr ⟨a, b, c⟩))

/-- The first byte of a value's text tells its kind. -/
theorem text_head (v : Val) (h : v.may = true) : ∃ r, v.text = UInt8.ofNat (v.k.toNat + 1) :: r ∧ v.k.toNat ≤ 3 ∧ 0 ≤ v.k := by
  rcases may_cases v h with ⟨a, _⟩ | ⟨a, _⟩ | ⟨a, _⟩ | ⟨a, _⟩ <;> (unfold Val.text vtext; rw [a]; exact ⟨_, rfl, by decide, by decide⟩)

theorem cmpS_same {s t : ByteArray} (h : s.toList = t.toList) : cmpS s t = 0 := by unfold cmpS; rw [h, bytesLess_irrefl]; simp

/-- Texts of values, whatever stands behind them, stand in the order of the values. -/
theorem text_less (v u : Val) (hv : v.may = true) (hu : u.may = true) (wv : v.wf) (wu : u.wf) (r r' : List UInt8) :
    Op.bytesLess (v.text ++ r) (u.text ++ r') = (decide (cmpV v u = -1) || (decide (cmpV v u = 0) && Op.bytesLess r r')) := by
  by_cases hk : v.k = u.k
  · have hcV : cmpV v u = or3 0 (cmpI v.n u.n) (cmpS v.t u.t) := by unfold cmpV; rw [(cmpI_eq _ _).mpr hk]
    rcases may_cases v hv with ⟨a, b, c⟩ | ⟨a, b, c⟩ | ⟨a, c⟩ | ⟨a, b, c⟩
    · rcases may_cases u hu with ⟨a', b', c'⟩ | ⟨a', _⟩ | ⟨a', _⟩ | ⟨a', _⟩ <;> try omega
      have e : cmpV v u = 0 := by rw [hcV, cmpS_same (by rw [c, c']), b, b']; rfl
      unfold Val.text vtext
      rw [a, a', e]
      simp [bl_same]
    · rcases may_cases u hu with ⟨a', _⟩ | ⟨a', b', c'⟩ | ⟨a', _⟩ | ⟨a', _⟩ <;> try omega
      rw [hcV, cmpS_same (by rw [c, c'])]
      unfold Val.text vtext
      rw [a, a']
      rcases b with b | b <;> rcases b' with b' | b' <;> rw [b, b'] <;> simp [bl_same, bl_cons, or3, cmpI]
    · rcases may_cases u hu with ⟨a', _⟩ | ⟨a', _⟩ | ⟨a', c'⟩ | ⟨a', _⟩ <;> try omega
      rw [hcV, cmpS_same (by rw [c, c'])]
      unfold Val.text vtext
      rw [a, a']
      have v1 := wv.n0
      have v2 := wv.n1
      have u1 := wu.n0
      have u2 := wu.n1
      simp only [show ¬ (2 : Int) = 1 from by decide, if_false, if_true, List.cons_append, bl_same]
      rw [high_less, p8]
      rcases Int.lt_trichotomy v.n u.n with h | h | h
      · have h1 : (v.n + 9223372036854775808).toNat % 18446744073709551616 < (u.n + 9223372036854775808).toNat % 18446744073709551616 := by omega
        have e : or3 0 (cmpI v.n u.n) 0 = -1 := by rw [(cmpI_lt _ _).mpr h]; rfl
        simp [h1, e]
      · rw [h]
        have e : or3 0 (cmpI u.n u.n) 0 = 0 := by rw [(cmpI_eq _ _).mpr rfl]; rfl
        simp [e]
      · have h1 : ¬ (v.n + 9223372036854775808).toNat % 18446744073709551616 < (u.n + 9223372036854775808).toNat % 18446744073709551616 := by omega
        have h2 : ¬ (v.n + 9223372036854775808).toNat % 18446744073709551616 = (u.n + 9223372036854775808).toNat % 18446744073709551616 := by omega
        have e : or3 0 (cmpI v.n u.n) 0 = 1 := by unfold cmpI or3; have : ¬ v.n < u.n := by omega
                                                  simp [h, this]
        simp [h1, h2, e]
    · rcases may_cases u hu with ⟨a', _⟩ | ⟨a', _⟩ | ⟨a', _⟩ | ⟨a', b', c'⟩ <;> try omega
      rw [hcV, b, b']
      unfold Val.text vtext
      rw [a, a']
      simp only [show ¬ (3 : Int) = 1 from by decide, show ¬ (3 : Int) = 2 from by decide, if_false, if_true, List.cons_append, bl_same]
      rw [esc_less]
      have e0 : or3 0 (cmpI 0 0) (cmpS v.t u.t) = cmpS v.t u.t := rfl
      rw [e0]
      unfold cmpS
      rw [ByteArray.toList_eq, ByteArray.toList_eq]
      cases h1 : Op.bytesLess v.t.data.toList u.t.data.toList
      · cases h2 : v.t.data.toList == u.t.data.toList
        · simp
        · simp
      · simp
  · obtain ⟨x, hx, x1, x2⟩ := text_head v hv
    obtain ⟨y, hy, y1, y2⟩ := text_head u hu
    rw [hx, hy, List.cons_append, List.cons_append, bl_cons, UInt8.toNat_ofNat', UInt8.toNat_ofNat']
    have hcne : cmpI v.k u.k ≠ 0 := fun e => hk ((cmpI_eq _ _).mp e)
    have e : cmpV v u = cmpI v.k u.k := by unfold cmpV or3; rw [if_neg hcne]
    rw [e]
    by_cases h : v.k < u.k
    · have e2 := (cmpI_lt v.k u.k).mpr h
      have h1 : (v.k.toNat + 1) % 2 ^ 8 < (u.k.toNat + 1) % 2 ^ 8 := by omega
      simp [e2, h1]
    · have e2 : ¬ cmpI v.k u.k = -1 := fun e => h ((cmpI_lt v.k u.k).mp e)
      have h1 : ¬ (v.k.toNat + 1) % 2 ^ 8 < (u.k.toNat + 1) % 2 ^ 8 := by omega
      have h2 : ¬ (v.k.toNat + 1) % 2 ^ 8 = (u.k.toNat + 1) % 2 ^ 8 := by omega
      simp [e2, hcne, h1, h2]

theorem tupB_cons (v : Val) (a : List Val) : tupB (v :: a) = v.text ++ tupB a := by simp [tupB]

theorem text_ne (v : Val) (h : v.may = true) : ∃ c r, v.text = c :: r := by
  obtain ⟨r, hr, _⟩ := text_head v h
  exact ⟨_, r, hr⟩

/-- Texts of tuples stand in the order of the tuples. -/
theorem tup_less : ∀ (a b : List Val), (∀ v ∈ a, v.may = true ∧ v.wf) → (∀ v ∈ b, v.may = true ∧ v.wf) → Op.bytesLess (tupB a) (tupB b) = decide (cmpL a b = -1) := by
  intro a
  induction a with
  | nil =>
    intro b _ hb
    cases b with
    | nil => simp [tupB, cmpL, Op.bytesLess]
    | cons u b =>
      obtain ⟨c, r, hr⟩ := text_ne u (hb u (by simp)).1
      rw [tupB_cons, hr]
      simp [tupB, cmpL, Op.bytesLess]
  | cons v a ih =>
    intro b ha hb
    cases b with
    | nil =>
      obtain ⟨c, r, hr⟩ := text_ne v (ha v (by simp)).1
      rw [tupB_cons, hr]
      simp [tupB, cmpL, Op.bytesLess]
    | cons u b =>
      obtain ⟨m1, w1⟩ := ha v (by simp)
      obtain ⟨m2, w2⟩ := hb u (by simp)
      rw [tupB_cons, tupB_cons, text_less v u m1 m2 w1 w2, ih b (fun x hx => ha x (by simp [hx])) (fun x hx => hb x (by simp [hx])), cmpL]
      rcases cmpV_cases v u with h | h | h <;> simp [h]

theorem cmpL_cases (a b : List Val) : cmpL a b = -1 ∨ cmpL a b = 0 ∨ cmpL a b = 1 := by
  induction a generalizing b with
  | nil => cases b <;> simp [cmpL]
  | cons v a ih =>
    cases b with
    | nil => simp [cmpL]
    | cons u b =>
      rw [cmpL]
      rcases cmpV_cases v u with h | h | h
      · rw [h]; simp
      · rw [h]; simpa using ih b
      · rw [h]; simp

theorem cmpI_neg (x y : Int) : cmpI y x = - cmpI x y := by
  unfold cmpI
  rcases Int.lt_trichotomy x y with h | h | h
  · have : ¬ y < x := by omega
    simp [h, this]
  · subst h; simp
  · have : ¬ x < y := by omega
    simp [h, this]

theorem bl_total (a b : List UInt8) : Op.bytesLess a b = false → (a == b) = false → Op.bytesLess b a = true := by
  induction a generalizing b with
  | nil => cases b <;> simp [Op.bytesLess]
  | cons c a ih =>
    cases b with
    | nil => simp [Op.bytesLess]
    | cons d b =>
      rw [bl_cons, bl_cons, List.cons_beq_cons, u8_eq]
      intro h1 h2
      rw [Bool.or_eq_false_iff] at h1
      obtain ⟨h1, h3⟩ := h1
      have h1' : ¬ c.toNat < d.toNat := by simpa using h1
      by_cases e : c.toNat = d.toNat
      · have h3' : Op.bytesLess a b = false := by simpa [e] using h3
        have h2' : (a == b) = false := by simpa [e] using h2
        simp [e, ih b h3' h2']
      · have : d.toNat < c.toNat := by omega
        simp [this]
theorem bl_asym (a b : List UInt8) : Op.bytesLess a b = true → Op.bytesLess b a = false := by
  induction a generalizing b with
  | nil => cases b <;> simp [Op.bytesLess]
  | cons c a ih =>
    cases b with
    | nil => simp [Op.bytesLess]
    | cons d b =>
      rw [bl_cons, bl_cons]
      intro h
      rw [Bool.or_eq_true] at h
      rcases h with h | h
      · have h1 : c.toNat < d.toNat := by simpa using h
        have h2 : ¬ d.toNat < c.toNat := by omega
        have h3 : ¬ d.toNat = c.toNat := by omega
        simp [h2, h3]
      · rw [Bool.and_eq_true] at h
        have e : c.toNat = d.toNat := by simpa using h.1
        simp [e, ih b h.2]

theorem cmpS_neg (s t : ByteArray) : cmpS t s = - cmpS s t := by
  unfold cmpS
  cases h1 : Op.bytesLess s.toList t.toList
  · cases h2 : s.toList == t.toList
    · have h3 := bl_total _ _ h1 h2
      simp [h3]
    · have e : s.toList = t.toList := by simpa using h2
      rw [e, bytesLess_irrefl]; simp
  · have h3 := bl_asym _ _ h1
    have h4 : (t.toList == s.toList) = false := by
      rw [beq_eq_false_iff_ne]; intro e; rw [e, bytesLess_irrefl] at h1; cases h1
    simp [h3, h4]

theorem cmpV_neg (v u : Val) : cmpV u v = - cmpV v u := by
  unfold cmpV or3
  rw [cmpI_neg v.k u.k, cmpI_neg v.n u.n, cmpS_neg v.t u.t]
  by_cases h1 : cmpI v.k u.k = 0
  · by_cases h2 : cmpI v.n u.n = 0
    · simp [h1, h2]
    · have : ¬ -cmpI v.n u.n = 0 := by omega
      simp [h1, h2]
  · have : ¬ -cmpI v.k u.k = 0 := by omega
    simp [h1]

theorem cmpL_neg (a b : List Val) : cmpL b a = - cmpL a b := by
  induction a generalizing b with
  | nil => cases b <;> simp [cmpL]
  | cons v a ih =>
    cases b with
    | nil => simp [cmpL]
    | cons u b =>
      rw [cmpL, cmpL, cmpV_neg v u, ih b]
      by_cases h : cmpV v u = 0
      · simp [h]
      · have : ¬ - cmpV v u = 0 := by omega
        simp [h]

theorem cmpV_zero {v u : Val} (h : cmpV v u = 0) : v = u := by
  unfold cmpV or3 at h
  by_cases h1 : cmpI v.k u.k = 0
  · rw [if_pos h1] at h
    by_cases h2 : cmpI v.n u.n = 0
    · rw [if_pos h2] at h
      apply val_eq
      have h3 : v.t.toList == u.t.toList := by
        unfold cmpS at h
        cases h4 : Op.bytesLess v.t.toList u.t.toList
        · rw [h4] at h
          cases h5 : v.t.toList == u.t.toList
          · rw [h5] at h; simp at h
          · rfl
        · rw [h4] at h; simp at h
      simp [sameV, (cmpI_eq _ _).mp h1, (cmpI_eq _ _).mp h2, h3]
    · rw [if_neg h2] at h; exact absurd h h2
  · rw [if_neg h1] at h; exact absurd h h1

theorem cmpL_zero (a b : List Val) : cmpL a b = 0 → a = b := by
  induction a generalizing b with
  | nil => cases b <;> simp [cmpL]
  | cons v a ih =>
    cases b with
    | nil => simp [cmpL]
    | cons u b =>
      rw [cmpL]
      by_cases h : cmpV v u = 0
      · rw [if_pos h]; intro h2; rw [cmpV_zero h, ih b h2]
      · rw [if_neg h]; intro h2; exact absurd h2 h
end Go.Proofs.Ytbcbdaaaglkjhaa
