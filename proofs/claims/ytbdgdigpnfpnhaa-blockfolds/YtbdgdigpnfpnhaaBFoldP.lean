/-
  Folding in plain words: what stays, and that nothing is lost that somebody may still ask for. Nothing here speaks of the program.
-/
import Derived.Test.YtbdgdigpnfpnhaaKE
namespace Go.Proofs.Ytbdgdigpnfpnhaa
namespace Bk
open Mm (Ent Up told spanL inB)

/-! ### Lists in order -/
theorem up_same {l : List Ent} (h : Up l) {x y : Ent} (hx : x ∈ l) (hy : y ∈ l) (hk : x.key = y.key) (hs : x.seq = y.seq) : x = y := by
  obtain ⟨i, hi, rfl⟩ := List.mem_iff_getElem.1 hx
  obtain ⟨j, hj, rfl⟩ := List.mem_iff_getElem.1 hy
  rcases Nat.lt_trichotomy i j with h1 | h1 | h1
  · have := List.pairwise_iff_getElem.1 h i j hi hj h1
    rcases Mm.ahead_key this with ⟨_, h2⟩ | h2
    · omega
    · rw [hk, Mm.bl_irrefl] at h2; cases h2
  · subst h1; rfl
  · have := List.pairwise_iff_getElem.1 h j i hj hi h1
    rcases Mm.ahead_key this with ⟨_, h2⟩ | h2
    · omega
    · rw [hk, Mm.bl_irrefl] at h2; cases h2
theorem up_ext : ∀ (a b : List Ent), Up a → Up b → (∀ x, x ∈ a ↔ x ∈ b) → a = b := by
  intro a
  induction a with
  | nil =>
    intro b _ _ h
    cases b with
    | nil => rfl
    | cons y b => exact absurd ((h y).2 (by simp)) (by simp)
  | cons x a ih =>
    intro b ha hb h
    cases b with
    | nil => exact absurd ((h x).1 (by simp)) (by simp)
    | cons y b =>
      obtain ⟨a1, a2⟩ := List.pairwise_cons.1 ha
      obtain ⟨b1, b2⟩ := List.pairwise_cons.1 hb
      have hxy : x = y := by
        rcases List.mem_cons.1 ((h x).1 (by simp)) with h1 | h1
        · exact h1
        · rcases List.mem_cons.1 ((h y).2 (by simp)) with h2 | h2
          · exact h2.symm
          · have := Mm.ahead_trans (a1 y h2) (b1 x h1)
            rw [Mm.ahead_irrefl] at this; cases this
      subst hxy
      rw [ih b a2 b2 (fun z => ?_)]
      constructor
      · intro hz
        rcases List.mem_cons.1 ((h z).1 (by simp [hz])) with h1 | h1
        · have := a1 z hz; rw [h1, Mm.ahead_irrefl] at this; cases this
        · exact h1
      · intro hz
        rcases List.mem_cons.1 ((h z).2 (by simp [hz])) with h1 | h1
        · have := b1 z hz; rw [h1, Mm.ahead_irrefl] at this; cases this
        · exact h1

/-- x is the visible version of its key at s. -/
def Vis (s : Int) (l : List Ent) (x : Ent) : Prop := x ∈ l ∧ x.seq ≤ s ∧ ∀ y ∈ l, y.key = x.key → y.seq ≤ s → y.seq ≤ x.seq
theorem told_vis (s : Int) {l : List Ent} (h : Up l) (x : Ent) : x ∈ told s l ↔ Vis s l x := by
  obtain ⟨t1, t2, t3⟩ := Mm.told_ok s l h
  constructor
  · intro hx
    obtain ⟨h1, h2⟩ := t1 x hx
    refine ⟨h1, h2, fun y hy hk hs => ?_⟩
    obtain ⟨z, hz, hzk, hzs⟩ := t3 y hy hs
    have : z = x := by
      obtain ⟨i, hi, rfl⟩ := List.mem_iff_getElem.1 hz
      obtain ⟨j, hj, rfl⟩ := List.mem_iff_getElem.1 hx
      rcases Nat.lt_trichotomy i j with e | e | e
      · have := List.pairwise_iff_getElem.1 t2 i j hi hj e
        rw [hzk, hk, Mm.bl_irrefl] at this; cases this
      · subst e; rfl
      · have := List.pairwise_iff_getElem.1 t2 j i hj hi e
        rw [hzk, hk, Mm.bl_irrefl] at this; cases this
    rw [this] at hzs
    exact hzs
  · rintro ⟨h1, h2, h3⟩
    obtain ⟨y, hy, hk, hs⟩ := t3 x h1 h2
    obtain ⟨g1, g2⟩ := t1 y hy
    have := h3 y g1 hk g2
    have : y = x := up_same h g1 h1 hk (by omega)
    rw [← this]
    exact hy
theorem told_up (s : Int) {l : List Ent} (h : Up l) : Up (told s l) := by
  refine (Mm.told_ok s l h).up.imp fun {a b} hab => ?_
  unfold Mm.ahead
  rw [if_neg (fun e => by rw [e, Mm.bl_irrefl] at hab; cases hab)]
  exact hab
theorem span_up {f t : List UInt8} {l : List Ent} (h : Up l) : Up (spanL f t l) := List.Pairwise.sublist List.filter_sublist h
theorem span_vis {s : Int} {f t : List UInt8} {l : List Ent} {x : Ent} : Vis s (spanL f t l) x ↔ Vis s l x ∧ inB x.key f t = true := by
  unfold Vis spanL
  constructor
  · rintro ⟨h1, h2, h3⟩
    obtain ⟨g1, g2⟩ := List.mem_filter.1 h1
    exact ⟨⟨g1, h2, fun y hy hk => h3 y (List.mem_filter.2 ⟨hy, by rw [hk]; exact g2⟩) hk⟩, g2⟩
  · rintro ⟨⟨h1, h2, h3⟩, h4⟩
    exact ⟨List.mem_filter.2 ⟨h1, h4⟩, h2, fun y hy => h3 y (List.mem_filter.1 hy).1⟩
theorem vis_over {s : Int} {l : List Ent} (h : Up l) {x : Ent} (hx : x ∈ l) (hs : x.seq ≤ s) : ∃ y, Vis s l y ∧ y.key = x.key ∧ x.seq ≤ y.seq := by
  obtain ⟨y, hy, hk, hsq⟩ := (Mm.told_ok s l h).all x hx hs
  exact ⟨y, (told_vis s h y).1 hy, hk, hsq⟩

/-! ### What stays -/
def staysB (A : List Int) (prev : Option Ent) (x : Ent) : Bool := A.any fun s => decide (x.seq ≤ s) && (match prev with | none => true | some p => !decide (p.key = x.key) || decide (s < p.seq))
def foldR (A : List Int) (last : Bool) : Option Ent → List Ent → List Ent
  | _, [] => []
  | p, x :: r => if staysB A p x && !(last && !decide ((foldR A last (some x) r).head?.map (·.key) = some x.key) && x.del) then x :: foldR A last (some x) r else foldR A last (some x) r
theorem fold_sub (A : List Int) (last : Bool) : ∀ (l : List Ent) (p : Option Ent), (foldR A last p l).Sublist l
  | [], _ => List.Sublist.refl _
  | x :: r, p => by
    rw [foldR]
    split
    · exact (fold_sub A last r (some x)).cons_cons x
    · exact (fold_sub A last r (some x)).cons x
theorem stays_vis {A : List Int} {q r : List Ent} {x : Ent} (h : Up (q ++ x :: r)) {s : Int} (hs : s ∈ A) (hv : Vis s (q ++ x :: r) x) : staysB A q.getLast? x = true := by
  obtain ⟨h1, h2, h3⟩ := hv
  refine List.any_eq_true.2 ⟨s, hs, ?_⟩
  rw [decide_eq_true h2, Bool.true_and]
  cases hg : q.getLast? with
  | none => rfl
  | some p =>
    have hp := List.mem_of_getLast? hg
    simp only [Bool.or_eq_true, Bool.not_eq_true', decide_eq_false_iff_not, decide_eq_true_eq]
    by_cases hk : p.key = x.key
    · right
      have ha : Mm.ahead p x = true := (List.pairwise_append.1 h).2.2 p hp x (by simp)
      rcases Mm.ahead_key ha with ⟨_, h4⟩ | h4
      · have h5 := h3 p (by simp [hp]) hk
        by_cases h6 : p.seq ≤ s
        · have := h5 h6; omega
        · omega
      · rw [hk, Mm.bl_irrefl] at h4; cases h4
    · exact .inl hk
theorem last_snoc (q : List Ent) (x : Ent) : (q ++ [x]).getLast? = some x := by simp
theorem fold_keeps {A : List Int} {last : Bool} {s : Int} (hs : s ∈ A) : ∀ (m q : List Ent), Up (q ++ m) → ∀ x ∈ m, Vis s (q ++ m) x → (last = false ∨ x.del = false) → x ∈ foldR A last q.getLast? m := by
  intro m
  induction m with
  | nil => intro q _ x hx; cases hx
  | cons x0 r ih =>
    intro q hu x hx hv hd
    have e : q ++ x0 :: r = (q ++ [x0]) ++ r := by simp
    rw [foldR]
    rcases List.mem_cons.1 hx with rfl | hx
    · rw [stays_vis hu hs hv]
      have : (true && !(last && !decide ((foldR A last (some x) r).head?.map (·.key) = some x.key) && x.del)) = true := by
        rcases hd with hd | hd <;> rw [hd] <;> simp
      rw [this, if_pos rfl]
      simp
    · rw [e] at hu hv
      have := ih (q ++ [x0]) hu x hx hv hd
      rw [last_snoc] at this
      split
      · exact List.mem_cons_of_mem _ this
      · exact this
theorem fold_over {A : List Int} {last : Bool} {s : Int} (hs : s ∈ A) : ∀ (m q : List Ent), Up (q ++ m) → ∀ x ∈ m, Vis s (q ++ m) x → (∃ z ∈ foldR A last q.getLast? m, z.key = x.key ∧ z.seq < x.seq) → x ∈ foldR A last q.getLast? m := by
  intro m
  induction m with
  | nil => intro q _ x hx; cases hx
  | cons x0 r ih =>
    intro q hu x hx hv hz
    obtain ⟨z, hz, hzk, hzs⟩ := hz
    have e : q ++ x0 :: r = (q ++ [x0]) ++ r := by simp
    have hur : Up (x0 :: r) := (List.pairwise_append.1 hu).2.1
    obtain ⟨u1, u2⟩ := List.pairwise_cons.1 hur
    have hsub := fold_sub A last r (some x0)
    rcases List.mem_cons.1 hx with rfl | hx
    · have hzo : z ∈ foldR A last (some x) r := by
        rw [foldR] at hz
        split at hz
        · rcases List.mem_cons.1 hz with h1 | h1
          · rw [h1] at hzs; omega
          · exact h1
        · exact hz
      have hh : (foldR A last (some x) r).head?.map (·.key) = some x.key := by
        cases ho : foldR A last (some x) r with
        | nil => rw [ho] at hzo; cases hzo
        | cons h o =>
          rw [ho] at hzo hsub
          have hhr : h ∈ r := hsub.subset (by simp)
          have hxh := u1 h hhr
          have hk : h.key = x.key := by
            rcases Mm.ahead_key hxh with ⟨h1, _⟩ | h1
            · exact h1.symm
            · rcases List.mem_cons.1 hzo with h2 | h2
              · rw [← h2]; exact hzk
              · have hhz : Mm.ahead h z = true := (List.pairwise_cons.1 (List.Pairwise.sublist hsub u2)).1 z h2
                rcases Mm.ahead_key hhz with ⟨h3, _⟩ | h3
                · rw [h3]; exact hzk
                · have := Mm.bl_trans h1 h3
                  rw [hzk, Mm.bl_irrefl] at this; cases this
          simp [hk]
      rw [foldR, stays_vis hu hs hv, hh]
      simp
    · have hzo : z ∈ foldR A last (some x0) r := by
        rw [foldR] at hz
        split at hz
        · rcases List.mem_cons.1 hz with h1 | h1
          · have := u1 x hx
            rw [← h1] at this
            rcases Mm.ahead_key this with ⟨_, h2⟩ | h2
            · omega
            · rw [hzk, Mm.bl_irrefl] at h2; cases h2
          · exact h1
        · exact hz
      rw [e] at hu hv
      have := ih (q ++ [x0]) hu x hx hv
      rw [last_snoc] at this
      have := this ⟨z, hzo, hzk, hzs⟩
      rw [foldR]
      split
      · exact List.mem_cons_of_mem _ this
      · exact this

/-! ### Nothing is lost -/
theorem fold_vis_back {A : List Int} {last : Bool} {s : Int} (hs : s ∈ A) {l : List Ent} (h : Up l) {x : Ent} (hv : Vis s (foldR A last none l) x) : Vis s l x := by
  obtain ⟨h1, h2, h3⟩ := hv
  have hsub := fold_sub A last l none
  refine ⟨hsub.subset h1, h2, fun y hy hk hys => ?_⟩
  rcases Int.lt_or_le x.seq y.seq with hlt | hle
  · exfalso
    obtain ⟨z, hz, hzk, hzs⟩ := vis_over h hy hys
    have hmem : z ∈ foldR A last none l := by
      have := fold_over (last := last) hs l [] (by simpa using h) z hz.1 (by simpa using hz)
      exact this ⟨x, h1, by rw [hzk, hk], by omega⟩
    have := h3 z hmem (by rw [hzk, hk]) hz.2.1
    omega
  · exact hle
theorem fold_vis_to {A : List Int} {last : Bool} {s : Int} (hs : s ∈ A) {l : List Ent} (h : Up l) {x : Ent} (hv : Vis s l x) (hd : last = false ∨ x.del = false) : Vis s (foldR A last none l) x := by
  have hm := fold_keeps (last := last) hs l [] (by simpa using h) x hv.1 (by simpa using hv) hd
  exact ⟨hm, hv.2.1, fun y hy => hv.2.2 y ((fold_sub A last l none).subset hy)⟩
def putsL (l : List Ent) : List Ent := l.filter fun x => !x.del
theorem fold_all {A : List Int} {s : Int} (hs : s ∈ A) {l : List Ent} (h : Up l) (f t : List UInt8) : told s (spanL f t (foldR A false none l)) = told s (spanL f t l) := by
  have hF : Up (foldR A false none l) := List.Pairwise.sublist (fold_sub _ _ _ _) h
  refine up_ext _ _ (told_up s (span_up hF)) (told_up s (span_up h)) (fun x => ?_)
  rw [told_vis s (span_up hF), told_vis s (span_up h), span_vis, span_vis]
  exact ⟨fun ⟨a, b⟩ => ⟨fold_vis_back hs h a, b⟩, fun ⟨a, b⟩ => ⟨fold_vis_to hs h a (.inl rfl), b⟩⟩
theorem fold_puts {A : List Int} {last : Bool} {s : Int} (hs : s ∈ A) {l : List Ent} (h : Up l) (f t : List UInt8) : putsL (told s (spanL f t (foldR A last none l))) = putsL (told s (spanL f t l)) := by
  have hF : Up (foldR A last none l) := List.Pairwise.sublist (fold_sub _ _ _ _) h
  refine up_ext _ _ (List.Pairwise.sublist List.filter_sublist (told_up s (span_up hF))) (List.Pairwise.sublist List.filter_sublist (told_up s (span_up h))) (fun x => ?_)
  unfold putsL
  rw [List.mem_filter, List.mem_filter, told_vis s (span_up hF), told_vis s (span_up h), span_vis, span_vis]
  constructor
  · rintro ⟨⟨a, b⟩, c⟩
    exact ⟨⟨fold_vis_back hs h a, b⟩, c⟩
  · rintro ⟨⟨a, b⟩, c⟩
    exact ⟨⟨fold_vis_to hs h a (.inr (by simpa using c)), b⟩, c⟩

/-! ### What stays, asked of numbers in order -/
theorem cnt_split (x : Int) : ∀ (S : List Int), S.Pairwise (· ≤ ·) → ∀ j (h : j < S.length), (j < S.countP (· < x) ↔ S[j] < x) := by
  intro S
  induction S with
  | nil => intro _ j h; simp at h
  | cons a r ih =>
    intro hs j h
    obtain ⟨h1, h2⟩ := List.pairwise_cons.1 hs
    by_cases ha : a < x
    · rw [List.countP_cons_of_pos (by simpa using ha)]
      cases j with
      | zero => simp [ha]
      | succ j =>
        have := ih h2 j (by simpa using h)
        simp only [List.getElem_cons_succ]
        rw [← this]
        omega
    · have hz : (a :: r).countP (· < x) = 0 := by
        rw [List.countP_eq_zero]
        intro y hy
        rcases List.mem_cons.1 hy with rfl | hy
        · simpa using ha
        · have := h1 y hy
          simp; omega
      rw [hz]
      constructor
      · intro h; omega
      · intro hlt
        cases j with
        | zero => exact absurd hlt ha
        | succ j =>
          have hj : j < r.length := by simpa using h
          have := h1 r[j] (List.getElem_mem hj)
          simp only [List.getElem_cons_succ] at hlt
          omega
theorem stays_none {A S : List Int} (hp : S.Perm A) (hs : S.Pairwise (· ≤ ·)) (prev : Option Ent) (x : Ent) (h : S.countP (· < x.seq) = S.length) : staysB A prev x = false := by
  unfold staysB
  rw [List.any_eq_false]
  intro s hsA
  obtain ⟨j, hj, rfl⟩ := List.mem_iff_getElem.1 (hp.symm.subset hsA)
  have := (cnt_split x.seq S hs j hj).1 (by omega)
  rw [decide_eq_false (by omega)]
  simp
theorem stays_some {A S : List Int} (hp : S.Perm A) (hs : S.Pairwise (· ≤ ·)) (prev : Option Ent) (x : Ent) (h : S.countP (· < x.seq) < S.length) :
    staysB A prev x = (match prev with | none => true | some p => !decide (p.key = x.key) || decide (S[S.countP (· < x.seq)] < p.seq)) := by
  have hge : ¬ S[S.countP (· < x.seq)] < x.seq := fun hc => by
    have := (cnt_split x.seq S hs _ h).2 hc
    omega
  have hin : S[S.countP (· < x.seq)] ∈ A := hp.subset (List.getElem_mem h)
  unfold staysB
  cases prev with
  | none =>
    refine List.any_eq_true.2 ⟨_, hin, ?_⟩
    rw [decide_eq_true (by omega)]
    rfl
  | some p =>
    by_cases hk : p.key = x.key
    · simp only [hk, decide_true, Bool.not_true, Bool.false_or]
      by_cases hlt : S[S.countP (· < x.seq)] < p.seq
      · rw [decide_eq_true hlt]
        refine List.any_eq_true.2 ⟨_, hin, ?_⟩
        rw [decide_eq_true (by omega), decide_eq_true hlt]
        rfl
      · rw [decide_eq_false hlt]
        rw [List.any_eq_false]
        intro s hsA
        obtain ⟨j, hj, rfl⟩ := List.mem_iff_getElem.1 (hp.symm.subset hsA)
        by_cases hx : x.seq ≤ S[j]
        · have hjc : ¬ j < S.countP (· < x.seq) := fun hc => by
            have := (cnt_split x.seq S hs j hj).1 hc
            omega
          have hle : S[S.countP (· < x.seq)] ≤ S[j] := by
            rcases Nat.lt_or_eq_of_le (Nat.le_of_not_lt hjc) with h1 | h1
            · exact List.pairwise_iff_getElem.1 hs _ j h hj h1
            · have : S[S.countP (· < x.seq)] = S[j] := by congr 1
              omega
          rw [decide_eq_true hx, decide_eq_false (show ¬ S[j] < p.seq by omega)]
          simp
        · rw [decide_eq_false hx]; simp
    · simp only [hk, decide_false, Bool.not_false, Bool.true_or]
      refine List.any_eq_true.2 ⟨_, hin, ?_⟩
      rw [decide_eq_true (by omega)]
      rfl
end Bk
end Go.Proofs.Ytbdgdigpnfpnhaa
