/-
  Folding in plain words: what stays, and that nothing is lost that somebody may still ask for. Nothing here speaks of the program. .. and what follows from it.
-/
import Derived.Test.YtbdgdigpnfpnhaaBTell
import Derived.Test.YtbdgdigpnfpnhaaKT
namespace Go.Proofs.Ytbdgdigpnfpnhaa.Q
namespace Bk
open Mm (Ent Up told spanL inB)

/-! ### Lists in order -/
theorem up_same {l : List Ent} (h : Up l) {x y : Ent} (hx : x ∈ l) (hy : y ∈ l) (hk : x.key = y.key) (hs : x.seq = y.seq) : x = y := by
  obtain ⟨i, hi, rfl⟩ := List.mem_iff_getElem.1 hx
  obtain ⟨j, hj, rfl⟩ := List.mem_iff_getElem.1 hy
  rcases Nat.lt_trichotomy i j with h1 | h1 | h1
  · have := List.pairwise_iff_getElem.1 h i j hi hj h1
    rcases Mm.ahead_key this with ⟨_, h2⟩ | h2
    · omega
    · rw [hk, Mm.bl_irrefl] at h2; cases h2
  · subst h1; rfl
  · have := List.pairwise_iff_getElem.1 h j i hj hi h1
    rcases Mm.ahead_key this with ⟨_, h2⟩ | h2
    · omega
    · rw [hk, Mm.bl_irrefl] at h2; cases h2
theorem up_ext : ∀ (a b : List Ent), Up a → Up b → (∀ x, x ∈ a ↔ x ∈ b) → a = b := by
  intro a
  induction a with
  | nil =>
    intro b _ _ h
    cases b with
    | nil => rfl
    | cons y b => exact absurd ((h y).2 (by simp)) (by simp)
  | cons x a ih =>
    intro b ha hb h
    cases b with
    | nil => exact absurd ((h x).1 (by simp)) (by simp)
    | cons y b =>
      obtain ⟨a1, a2⟩ := List.pairwise_cons.1 ha
      obtain ⟨b1, b2⟩ := List.pairwise_cons.1 hb
      have hxy : x = y := by
        rcases List.mem_cons.1 ((h x).1 (by simp)) with h1 | h1
        · exact h1
        · rcases List.mem_cons.1 ((h y).2 (by simp)) with h2 | h2
          · exact h2.symm
          · have := Mm.ahead_trans (a1 y h2) (b1 x h1)
            rw [Mm.ahead_irrefl] at this; cases this
      subst hxy
      rw [ih b a2 b2 (fun z => ?_)]
      constructor
      · intro hz
        rcases List.mem_cons.1 ((h z).1 (by simp [hz])) with h1 | h1
        · have := a1 z hz; rw [h1, Mm.ahead_irrefl] at this; cases this
        · exact h1
      · intro hz
        rcases List.mem_cons.1 ((h z).2 (by simp [hz])) with h1 | h1
        · have := b1 z hz; rw [h1, Mm.ahead_irrefl] at this; cases this
        · exact h1

/-- x is the visible version of its key at s. -/
def Vis (s : Int) (l : List Ent) (x : Ent) : Prop := x ∈ l ∧ x.seq ≤ s ∧ ∀ y ∈ l, y.key = x.key → y.seq ≤ s → y.seq ≤ x.seq
theorem told_vis (s : Int) {l : List Ent} (h : Up l) (x : Ent) : x ∈ told s l ↔ Vis s l x := by
  obtain ⟨t1, t2, t3⟩ := Mm.told_ok s l h
  constructor
  · intro hx
    obtain ⟨h1, h2⟩ := t1 x hx
    refine ⟨h1, h2, fun y hy hk hs => ?_⟩
    obtain ⟨z, hz, hzk, hzs⟩ := t3 y hy hs
    have : z = x := by
      obtain ⟨i, hi, rfl⟩ := List.mem_iff_getElem.1 hz
      obtain ⟨j, hj, rfl⟩ := List.mem_iff_getElem.1 hx
      rcases Nat.lt_trichotomy i j with e | e | e
      · have := List.pairwise_iff_getElem.1 t2 i j hi hj e
        rw [hzk, hk, Mm.bl_irrefl] at this; cases this
      · subst e; rfl
      · have := List.pairwise_iff_getElem.1 t2 j i hj hi e
        rw [hzk, hk, Mm.bl_irrefl] at this; cases this
    rw [this] at hzs
    exact hzs
  · rintro ⟨h1, h2, h3⟩
    obtain ⟨y, hy, hk, hs⟩ := t3 x h1 h2
    obtain ⟨g1, g2⟩ := t1 y hy
    have := h3 y g1 hk g2
    have : y = x := up_same h g1 h1 hk (by omega)
    rw [← this]
    exact hy
theorem told_up (s : Int) {l : List Ent} (h : Up l) : Up (told s l) := by
  refine (Mm.told_ok s l h).up.imp fun {a b} hab => ?_
  unfold Mm.ahead
  rw [if_neg (fun e => by rw [e, Mm.bl_irrefl] at hab; cases hab)]
  exact hab
theorem span_up {f t : List UInt8} {l : List Ent} (h : Up l) : Up (spanL f t l) := List.Pairwise.sublist List.filter_sublist h
theorem span_vis {s : Int} {f t : List UInt8} {l : List Ent} {x : Ent} : Vis s (spanL f t l) x ↔ Vis s l x ∧ inB x.key f t = true := by
  unfold Vis spanL
  constructor
  · rintro ⟨h1, h2, h3⟩
    obtain ⟨g1, g2⟩ := List.mem_filter.1 h1
    exact ⟨⟨g1, h2, fun y hy hk => h3 y (List.mem_filter.2 ⟨hy, by rw [hk]; exact g2⟩) hk⟩, g2⟩
  · rintro ⟨⟨h1, h2, h3⟩, h4⟩
    exact ⟨List.mem_filter.2 ⟨h1, h4⟩, h2, fun y hy => h3 y (List.mem_filter.1 hy).1⟩
theorem vis_over {s : Int} {l : List Ent} (h : Up l) {x : Ent} (hx : x ∈ l) (hs : x.seq ≤ s) : ∃ y, Vis s l y ∧ y.key = x.key ∧ x.seq ≤ y.seq := by
  obtain ⟨y, hy, hk, hsq⟩ := (Mm.told_ok s l h).all x hx hs
  exact ⟨y, (told_vis s h y).1 hy, hk, hsq⟩

/-! ### What stays -/
def staysB (A : List Int) (prev : Option Ent) (x : Ent) : Bool := A.any fun s => decide (x.seq ≤ s) && (match prev with | none => true | some p => !decide (p.key = x.key) || decide (s < p.seq))
def foldR (A : List Int) (last : Bool) : Option Ent → List Ent → List Ent
  | _, [] => []
  | p, x :: r => if staysB A p x && !(last && !decide ((foldR A last (some x) r).head?.map (·.key) = some x.key) && x.del) then x :: foldR A last (some x) r else foldR A last (some x) r
theorem fold_sub (A : List Int) (last : Bool) : ∀ (l : List Ent) (p : Option Ent), (foldR A last p l).Sublist l
  | [], _ => List.Sublist.refl _
  | x :: r, p => by
    rw [foldR]
    split
    · exact (fold_sub A last r (some x)).cons_cons x
    · exact (fold_sub A last r (some x)).cons x
theorem stays_vis {A : List Int} {q r : List Ent} {x : Ent} (h : Up (q ++ x :: r)) {s : Int} (hs : s ∈ A) (hv : Vis s (q ++ x :: r) x) : staysB A q.getLast? x = true := by
  obtain ⟨h1, h2, h3⟩ := hv
  refine List.any_eq_true.2 ⟨s, hs, ?_⟩
  rw [decide_eq_true h2, Bool.true_and]
  cases hg : q.getLast? with
  | none => rfl
  | some p =>
    have hp := List.mem_of_getLast? hg
    simp only [Bool.or_eq_true, Bool.not_eq_true', decide_eq_false_iff_not, decide_eq_true_eq]
    by_cases hk : p.key = x.key
    · right
      have ha : Mm.ahead p x = true := (List.pairwise_append.1 h).2.2 p hp x (by simp)
      rcases Mm.ahead_key ha with ⟨_, h4⟩ | h4
      · have h5 := h3 p (by simp [hp]) hk
        by_cases h6 : p.seq ≤ s
        · have := h5 h6; omega
        · omega
      · rw [hk, Mm.bl_irrefl] at h4; cases h4
    · exact .inl hk
theorem last_snoc (q : List Ent) (x : Ent) : (q ++ [x]).getLast? = some x := by simp
theorem fold_keeps {A : List Int} {last : Bool} {s : Int} (hs : s ∈ A) : ∀ (m q : List Ent), Up (q ++ m) → ∀ x ∈ m, Vis s (q ++ m) x → (last = false ∨ x.del = false) → x ∈ foldR A last q.getLast? m := by
  intro m
  induction m with
  | nil => intro q _ x hx; cases hx
  | cons x0 r ih =>
    intro q hu x hx hv hd
    have e : q ++ x0 :: r = (q ++ [x0]) ++ r := by simp
    rw [foldR]
    rcases List.mem_cons.1 hx with rfl | hx
    · rw [stays_vis hu hs hv]
      have : (true && !(last && !decide ((foldR A last (some x) r).head?.map (·.key) = some x.key) && x.del)) = true := by
        rcases hd with hd | hd <;> rw [hd] <;> simp
      rw [this, if_pos rfl]
      simp
    · rw [e] at hu hv
      have := ih (q ++ [x0]) hu x hx hv hd
      rw [last_snoc] at this
      split
      · exact List.mem_cons_of_mem _ this
      · exact this
theorem fold_over {A : List Int} {last : Bool} {s : Int} (hs : s ∈ A) : ∀ (m q : List Ent), Up (q ++ m) → ∀ x ∈ m, Vis s (q ++ m) x → (∃ z ∈ foldR A last q.getLast? m, z.key = x.key ∧ z.seq < x.seq) → x ∈ foldR A last q.getLast? m := by
  intro m
  induction m with
  | nil => intro q _ x hx; cases hx
  | cons x0 r ih =>
    intro q hu x hx hv hz
    obtain ⟨z, hz, hzk, hzs⟩ := hz
    have e : q ++ x0 :: r = (q ++ [x0]) ++ r := by simp
    have hur : Up (x0 :: r) := (List.pairwise_append.1 hu).2.1
    obtain ⟨u1, u2⟩ := List.pairwise_cons.1 hur
    have hsub := fold_sub A last r (some x0)
    rcases List.mem_cons.1 hx with rfl | hx
    · have hzo : z ∈ foldR A last (some x) r := by
        rw [foldR] at hz
        split at hz
        · rcases List.mem_cons.1 hz with h1 | h1
          · rw [h1] at hzs; omega
          · exact h1
        · exact hz
      have hh : (foldR A last (some x) r).head?.map (·.key) = some x.key := by
        cases ho : foldR A last (some x) r with
        | nil => rw [ho] at hzo; cases hzo
        | cons h o =>
          rw [ho] at hzo hsub
          have hhr : h ∈ r := hsub.subset (by simp)
          have hxh := u1 h hhr
          have hk : h.key = x.key := by
            rcases Mm.ahead_key hxh with ⟨h1, _⟩ | h1
            · exact h1.symm
            · rcases List.mem_cons.1 hzo with h2 | h2
              · rw [← h2]; exact hzk
              · have hhz : Mm.ahead h z = true := (List.pairwise_cons.1 (List.Pairwise.sublist hsub u2)).1 z h2
                rcases Mm.ahead_key hhz with ⟨h3, _⟩ | h3
                · rw [h3]; exact hzk
                · have := Mm.bl_trans h1 h3
                  rw [hzk, Mm.bl_irrefl] at this; cases this
          simp [hk]
      rw [foldR, stays_vis hu hs hv, hh]
      simp
    · have hzo : z ∈ foldR A last (some x0) r := by
        rw [foldR] at hz
        split at hz
        · rcases List.mem_cons.1 hz with h1 | h1
          · have := u1 x hx
            rw [← h1] at this
            rcases Mm.ahead_key this with ⟨_, h2⟩ | h2
            · omega
            · rw [hzk, Mm.bl_irrefl] at h2; cases h2
          · exact h1
        · exact hz
      rw [e] at hu hv
      have := ih (q ++ [x0]) hu x hx hv
      rw [last_snoc] at this
      have := this ⟨z, hzo, hzk, hzs⟩
      rw [foldR]
      split
      · exact List.mem_cons_of_mem _ this
      · exact this

/-! ### Nothing is lost -/
theorem fold_vis_back {A : List Int} {last : Bool} {s : Int} (hs : s ∈ A) {l : List Ent} (h : Up l) {x : Ent} (hv : Vis s (foldR A last none l) x) : Vis s l x := by
  obtain ⟨h1, h2, h3⟩ := hv
  have hsub := fold_sub A last l none
  refine ⟨hsub.subset h1, h2, fun y hy hk hys => ?_⟩
  rcases Int.lt_or_le x.seq y.seq with hlt | hle
  · exfalso
    obtain ⟨z, hz, hzk, hzs⟩ := vis_over h hy hys
    have hmem : z ∈ foldR A last none l := by
      have := fold_over (last := last) hs l [] (by simpa using h) z hz.1 (by simpa using hz)
      exact this ⟨x, h1, by rw [hzk, hk], by omega⟩
    have := h3 z hmem (by rw [hzk, hk]) hz.2.1
    omega
  · exact hle
theorem fold_vis_to {A : List Int} {last : Bool} {s : Int} (hs : s ∈ A) {l : List Ent} (h : Up l) {x : Ent} (hv : Vis s l x) (hd : last = false ∨ x.del = false) : Vis s (foldR A last none l) x := by
  have hm := fold_keeps (last := last) hs l [] (by simpa using h) x hv.1 (by simpa using hv) hd
  exact ⟨hm, hv.2.1, fun y hy => hv.2.2 y ((fold_sub A last l none).subset hy)⟩
def putsL (l : List Ent) : List Ent := l.filter fun x => !x.del
theorem fold_all {A : List Int} {s : Int} (hs : s ∈ A) {l : List Ent} (h : Up l) (f t : List UInt8) : told s (spanL f t (foldR A false none l)) = told s (spanL f t l) := by
  have hF : Up (foldR A false none l) := List.Pairwise.sublist (fold_sub _ _ _ _) h
  refine up_ext _ _ (told_up s (span_up hF)) (told_up s (span_up h)) (fun x => ?_)
  rw [told_vis s (span_up hF), told_vis s (span_up h), span_vis, span_vis]
  exact ⟨fun ⟨a, b⟩ => ⟨fold_vis_back hs h a, b⟩, fun ⟨a, b⟩ => ⟨fold_vis_to hs h a (.inl rfl), b⟩⟩
theorem fold_puts {A : List Int} {last : Bool} {s : Int} (hs : s ∈ A) {l : List Ent} (h : Up l) (f t : List UInt8) : putsL (told s (spanL f t (foldR A last none l))) = putsL (told s (spanL f t l)) := by
  have hF : Up (foldR A last none l) := List.Pairwise.sublist (fold_sub _ _ _ _) h
  refine up_ext _ _ (List.Pairwise.sublist List.filter_sublist (told_up s (span_up hF))) (List.Pairwise.sublist List.filter_sublist (told_up s (span_up h))) (fun x => ?_)
  unfold putsL
  rw [List.mem_filter, List.mem_filter, told_vis s (span_up hF), told_vis s (span_up h), span_vis, span_vis]
  constructor
  · rintro ⟨⟨a, b⟩, c⟩
    exact ⟨⟨fold_vis_back hs h a, b⟩, c⟩
  · rintro ⟨⟨a, b⟩, c⟩
    exact ⟨⟨fold_vis_to hs h a (.inr (by simpa using c)), b⟩, c⟩

/-! ### What stays, asked of numbers in order -/
theorem cnt_split (x : Int) : ∀ (S : List Int), S.Pairwise (· ≤ ·) → ∀ j (h : j < S.length), (j < S.countP (· < x) ↔ S[j] < x) := by
  intro S
  induction S with
  | nil => intro _ j h; simp at h
  | cons a r ih =>
    intro hs j h
    obtain ⟨h1, h2⟩ := List.pairwise_cons.1 hs
    by_cases ha : a < x
    · rw [List.countP_cons_of_pos (by simpa using ha)]
      cases j with
      | zero => simp [ha]
      | succ j =>
        have := ih h2 j (by simpa using h)
        simp only [List.getElem_cons_succ]
        rw [← this]
        omega
    · have hz : (a :: r).countP (· < x) = 0 := by
        rw [List.countP_eq_zero]
        intro y hy
        rcases List.mem_cons.1 hy with rfl | hy
        · simpa using ha
        · have := h1 y hy
          simp; omega
      rw [hz]
      constructor
      · intro h; omega
      · intro hlt
        cases j with
        | zero => exact absurd hlt ha
        | succ j =>
          have hj : j < r.length := by simpa using h
          have := h1 r[j] (List.getElem_mem hj)
          simp only [List.getElem_cons_succ] at hlt
          omega
theorem stays_none {A S : List Int} (hp : S.Perm A) (hs : S.Pairwise (· ≤ ·)) (prev : Option Ent) (x : Ent) (h : S.countP (· < x.seq) = S.length) : staysB A prev x = false := by
  unfold staysB
  rw [List.any_eq_false]
  intro s hsA
  obtain ⟨j, hj, rfl⟩ := List.mem_iff_getElem.1 (hp.symm.subset hsA)
  have := (cnt_split x.seq S hs j hj).1 (by omega)
  rw [decide_eq_false (by omega)]
  simp
theorem stays_some {A S : List Int} (hp : S.Perm A) (hs : S.Pairwise (· ≤ ·)) (prev : Option Ent) (x : Ent) (h : S.countP (· < x.seq) < S.length) :
    staysB A prev x = (match prev with | none => true | some p => !decide (p.key = x.key) || decide (S[S.countP (· < x.seq)] < p.seq)) := by
  have hge : ¬ S[S.countP (· < x.seq)] < x.seq := fun hc => by
    have := (cnt_split x.seq S hs _ h).2 hc
    omega
  have hin : S[S.countP (· < x.seq)] ∈ A := hp.subset (List.getElem_mem h)
  unfold staysB
  cases prev with
  | none =>
    refine List.any_eq_true.2 ⟨_, hin, ?_⟩
    rw [decide_eq_true (by omega)]
    rfl
  | some p =>
    by_cases hk : p.key = x.key
    · simp only [hk, decide_true, Bool.not_true, Bool.false_or]
      by_cases hlt : S[S.countP (· < x.seq)] < p.seq
      · rw [decide_eq_true hlt]
        refine List.any_eq_true.2 ⟨_, hin, ?_⟩
        rw [decide_eq_true (by omega), decide_eq_true hlt]
        rfl
      · rw [decide_eq_false hlt]
        rw [List.any_eq_false]
        intro s hsA
        obtain ⟨j, hj, rfl⟩ := List.mem_iff_getElem.1 (hp.symm.subset hsA)
        by_cases hx : x.seq ≤ S[j]
        · have hjc : ¬ j < S.countP (· < x.seq) := fun hc => by
            have := (cnt_split x.seq S hs j hj).1 hc
            omega
          have hle : S[S.countP (· < x.seq)] ≤ S[j] := by
            rcases Nat.lt_or_eq_of_le (Nat.le_of_not_lt hjc) with h1 | h1
            · exact List.pairwise_iff_getElem.1 hs _ j h hj h1
            · have : S[S.countP (· < x.seq)] = S[j] := by congr 1
              omega
          rw [decide_eq_true hx, decide_eq_false (show ¬ S[j] < p.seq by omega)]
          simp
        · rw [decide_eq_false hx]; simp
    · simp only [hk, decide_false, Bool.not_false, Bool.true_or]
      refine List.any_eq_true.2 ⟨_, hin, ?_⟩
      rw [decide_eq_true (by omega)]
      rfl
end Bk
end Go.Proofs.Ytbdgdigpnfpnhaa.Q
namespace Go.Proofs.Ytbdgdigpnfpnhaa.Q
open Go.RowKit

/-- What Find answers. -/
def findE (l : List Mm.Ent) (k : List UInt8) (q : Int) : Option Mm.Ent :=
  match (l.dropWhile fun x => Mm.ahead x ⟨k, [], q, false⟩).head? with
  | none => none
  | some x => if x.key = k then some x else none
theorem drop_ahead {l : List Mm.Ent} (W : Mm.Ent) (r : Nat) (hr : r ≤ l.length) (h1 : ∀ k (h : k < l.length), k < r → Mm.ahead l[k] W = true) (h2 : ∀ h : r < l.length, Mm.ahead l[r] W = false) : l.dropWhile (fun x => Mm.ahead x W) = l.drop r := by
  have e : l = l.take r ++ l.drop r := (List.take_append_drop r l).symm
  conv => lhs; rw [e]
  rw [List.dropWhile_append_of_pos (fun x hx => by
    obtain ⟨k, hk, rfl⟩ := List.mem_iff_getElem.1 hx
    rw [List.length_take] at hk
    rw [List.getElem_take]
    exact h1 k (by omega) (by omega))]
  by_cases hlt : r < l.length
  · rw [List.drop_eq_getElem_cons hlt, List.dropWhile_cons, h2 hlt]
    simp
  · rw [List.drop_eq_nil_of_le (by omega)]
    rfl
abbrev foundV : Option Mm.Ent → Value
  | none => .tuple #[entV ⟨[], [], 0, false⟩, .bool false]
  | some x => .tuple #[entV x, .bool true]

end Go.Proofs.Ytbdgdigpnfpnhaa.Q
namespace Go.Proofs.Ytbdgdigpnfpnhaa.Q
open Go.RowKit

set_option maxRecDepth 10000 in
set_option maxHeartbeats 1600000 in
theorem rin_any (w : World) (k lo hi : Mm.Bs) : Calls Try.prog 87 #[str k, .agg #[str lo, str hi]] w fun e w' => e = .returned (.bool (Mm.inB k lo hi)) ∧ Below w.heap.size w w' := by
  unfold Mm.inB
  cases h1 : Op.bytesLess k lo with
  | true =>
    go_enter Try.func87, Try.ntmps87
    go_wp2_with (fail)
    go_ret
    exact ⟨rfl, (Below.refl _ _).alloc (Nat.le_refl _) _⟩
  | false =>
    cases hi with
    | nil =>
      go_enter Try.func87, Try.ntmps87
      go_wp2_with (fail)
      go_ret
      exact ⟨rfl, (Below.refl _ _).alloc (Nat.le_refl _) _⟩
    | cons c r =>
      cases h2 : Op.bytesLess k (c :: r) with
      | true =>
        go_enter Try.func87, Try.ntmps87
        go_wp2_with (fail)
        go_ret
        exact ⟨by simp, (Below.refl _ _).alloc (Nat.le_refl _) _⟩
      | false =>
        go_enter Try.func87, Try.ntmps87
        go_wp2_with (fail)
        go_ret
        exact ⟨by simp, (Below.refl _ _).alloc (Nat.le_refl _) _⟩

def visP (k : List UInt8) (q : Int) (x : Mm.Ent) : Bool := decide (x.key = k) && decide (x.seq ≤ q)
theorem find_vis (k : List UInt8) (q : Int) : ∀ (l : List Mm.Ent), Mm.Up l → findE l k q = l.find? (visP k q) := by
  intro l
  induction l with
  | nil => intro _; rfl
  | cons x r ih =>
    intro hu
    obtain ⟨u1, u2⟩ := List.pairwise_cons.1 hu
    unfold findE
    rw [List.dropWhile_cons, List.find?_cons]
    cases ha : Mm.ahead x ⟨k, [], q, false⟩ with
    | true =>
      have hp : visP k q x = false := by
        rcases Mm.ahead_key ha with ⟨h1, h2⟩ | h2
        · unfold visP
          simp only at h2
          rw [decide_eq_false (show ¬ x.seq ≤ q by omega), Bool.and_false]
        · unfold visP
          rw [decide_eq_false (show ¬ x.key = k from fun e => by rw [e] at h2; simp only [Mm.bl_irrefl] at h2; cases h2), Bool.false_and]
      rw [hp, if_pos rfl]
      exact ih u2
    | false =>
      rw [if_neg (by simp)]
      simp only [List.head?_cons]
      by_cases hk : x.key = k
      · have hs : x.seq ≤ q := by
          unfold Mm.ahead at ha
          rw [if_pos hk] at ha
          have := of_decide_eq_false ha
          simp only at this
          omega
        have hp : visP k q x = true := by unfold visP; rw [decide_eq_true hk, decide_eq_true hs]; rfl
        rw [hp, if_pos hk]
      · have hp : visP k q x = false := by unfold visP; rw [decide_eq_false hk, Bool.false_and]
        rw [hp, if_neg hk]
        symm
        rw [List.find?_eq_none]
        intro y hy
        have hlt : Op.bytesLess x.key k = false := by
          unfold Mm.ahead at ha
          rw [if_neg hk] at ha
          exact ha
        have hkx : Op.bytesLess k x.key = true := by
          cases hc : Op.bytesLess k x.key with
          | true => rfl
          | false => exact absurd (Mm.bl_total hlt hc) hk
        have hky : ¬ y.key = k := fun e => by
          rcases Mm.ahead_key (u1 y hy) with ⟨h1, _⟩ | h1
          · exact hk (h1.trans e)
          · have := Mm.bl_trans hkx h1
            rw [e, Mm.bl_irrefl] at this; cases this
        unfold visP
        rw [decide_eq_false hky]
        simp

set_option maxRecDepth 100000 in
set_option maxHeartbeats 8000000 in
theorem rvis_any (w : World) (a : Option Addr) (c n : Nat) (l : List Mm.Ent) (h : EntsAt w (.slice a n c) l) (hn : n = l.length) (hl : n ≤ 1000000) (k : List UInt8) (q : Int) :
    Calls Try.prog 73 #[.slice a n c, str k, .int .i64 q] w fun e w' => e = .returned (foundV (l.find? (visP k q))) ∧ Below w.heap.size w w' := by
  obtain ⟨W, hW⟩ : ∃ W, W = w.alloc (.cells #[.string ⟨#[]⟩, .string ⟨#[]⟩, .int .i64 0, .bool false] 38) := ⟨_, rfl⟩
  have b0 : Below w.heap.size w W := by rw [hW]; exact (Below.refl _ _).alloc (Nat.le_refl _) _
  have y0 : W.heap[w.heap.size]? = some (eO ⟨[], [], 0, false⟩) := by rw [hW]; exact World.alloc_heap_new w _
  have HA := hide (h.later b0)
  have HN : Hid (n = l.length) := hn
  have HW := hide hW
  obtain ⟨p0, p1, p2, p3, f0, f1, f2, f3⟩ := slot4 y0
  have FIN : Hid (∀ (e : Mm.Ent), (((((W.setCell ⟨w.heap.size, 0, none⟩ (str e.key)).setCell ⟨w.heap.size, 1, none⟩ (str e.value)).setCell ⟨w.heap.size, 2, none⟩ (.int .i64 e.seq)).setCell ⟨w.heap.size, 3, none⟩ (.bool e.del)).heap[w.heap.size]? = some (eO e) ∧ Below w.heap.size w ((((W.setCell ⟨w.heap.size, 0, none⟩ (str e.key)).setCell ⟨w.heap.size, 1, none⟩ (str e.value)).setCell ⟨w.heap.size, 2, none⟩ (.int .i64 e.seq)).setCell ⟨w.heap.size, 3, none⟩ (.bool e.del)))) := fun e => by
    have m5 : ∀ (v : World) (i : Nat) (u : Value), Moved (fun j => j = w.heap.size) v (v.setCell ⟨w.heap.size, i, none⟩ u) := fun v i u => Moved.setCell (S := fun j => j = w.heap.size) (Moved.refl _ v) (p := ⟨w.heap.size, i, none⟩) (fun _ => rfl) u
    have m6 := (((m5 W 0 (str e.key)).trans (m5 _ 1 (str e.value)) (fun _ _ h => h)).trans (m5 _ 2 (.int .i64 e.seq)) (fun _ _ h => h)).trans (m5 _ 3 (.bool e.del)) (fun _ _ h => h)
    exact ⟨(Joins.block_setCell (Joins.block_setCell (Joins.block_setCell (Joins.block_setCell y0 _) _) _) _).trans rfl, b0.trans (m6.under b0.size (fun i hi => by omega))⟩
  clear h hn b0 y0 hW
  go_enter Try.func73, Try.ntmps73
  go_wp2_with (fail)
  rw [← HW.out]
  go_loopw [8] (fun i wr => wr = W ∧ ∃ j : Nat, j ≤ n ∧ i = .int .i64 (j : Int) ∧ Hid ((l.take j).find? (visP k q) = none)) (fun i _ => n - (intOf i).toNat)
  case atStart => exact ⟨rfl, 0, Nat.zero_le _, rfl, by show _ = _; simp⟩
  case round =>
    obtain ⟨rfl, j, hj, rfl, HT⟩ := hrel
    by_cases hlt : j < n
    · have jl : j < l.length := by have := HN.out; omega
      obtain ⟨b, off, rfl⟩ := (HA.out).some (by omega)
      obtain ⟨c0, c1, c2, c3⟩ := HA.out.cells j jl
      have FT : Hid (visP k q l[j] = true → l.find? (visP k q) = some l[j]) := fun hp => by
        have e : l = l.take j ++ l[j] :: l.drop (j + 1) := by rw [← List.drop_eq_getElem_cons jl, List.take_append_drop]
        conv => lhs; rw [e]
        rw [List.find?_append, HT.out, List.find?_cons, hp]
        rfl
      have FF : Hid (visP k q l[j] = false → (l.take (j + 1)).find? (visP k q) = none) := fun hp => by
        rw [List.take_succ_eq_append_getElem jl, List.find?_append, HT.out, List.find?_cons, hp]
        rfl
      have j1 : (j : Int) < (n : Int) := by omega
      have j2 : (0 : Int) ≤ (j : Int) := by omega
      generalize l[j] = x at *
      obtain ⟨K, V, Q, D⟩ := x
      simp only at c0 c1 c2 c3
      clear HA HT HN
      by_cases hk : K = k
      · subst hk
        by_cases hs : Q ≤ q
        · have HF : Hid (l.find? (visP K q) = some ⟨K, V, Q, D⟩) := FT.out (by unfold visP; simp [hs])
          clear FT FF
          go_wp2_with (fail)
          obtain ⟨F1, F2⟩ := FIN.out ⟨K, V, Q, D⟩
          obtain ⟨t0, t1, t2, t3, _⟩ := slot4 F1
          refine bodyPost_ret (v := foundV (some ⟨K, V, Q, D⟩)) (by simp [results, Try.results73, go_sem, t0, t1, t2, t3]) rfl ?_
          rw [HF.out]
          exact ⟨rfl, F2⟩
        · have HF := hide (FF.out (by unfold visP; simp [hs]))
          clear FT FF
          go_wp2_with (fail)
          exact ⟨⟨trivial, j + 1, by omega, by go_num, HF⟩, by simp [intOf]; omega⟩
      · have hb : (K == k) = false := by simp [hk]
        have HF := hide (FF.out (by unfold visP; simp [hk]))
        clear FT FF
        go_wp2_with (fail)
        exact ⟨⟨trivial, j + 1, by omega, by go_num, HF⟩, by simp [intOf]; omega⟩
    · have i3 : ¬ (j : Int) < (n : Int) := by omega
      have HF : Hid (l.find? (visP k q) = none) := by
        have := HT.out
        rw [List.take_of_length_le (by have := HN.out; omega)] at this
        exact this
      clear HT HA HN
      go_wp2_with (fail)
      obtain ⟨F1, F2⟩ := FIN.out ⟨[], [], 0, false⟩
      obtain ⟨t0, t1, t2, t3, _⟩ := slot4 F1
      refine bodyPost_ret (v := foundV none) (by simp [results, Try.results73, go_sem, t0, t1, t2, t3]) rfl ?_
      rw [HF.out]
      exact ⟨rfl, F2⟩
end Go.Proofs.Ytbdgdigpnfpnhaa.Q
namespace Go.Proofs.Ytbdgdigpnfpnhaa.Q
open Go.RowKit

theorem skipH {P : Program} {md : Region.Mode} {ops : Array Oper} {Q : Exit → Act → World → Prop} {S : World → Prop} (i d : Nat) {fuel : Nat} {listed : Array Bool} {a : Act} {w : World}
    (ho : ∃ o, ops[i]? = some o ∧ o.dst = some d ∧ Region.wanted o (yielded ops a.tmps) = false)
    (hs : Region.noSelect ops = true) (hf : Region.free md ops listed i = true) (hr : (Region.ready md ops listed).contains i = true)
    (hQ : ∀ c a w, Q (.panic c) (a.put (some d) undef) w → Q (.panic c) a w) (hS : S w)
    (h : wpAnyH P md ops Q S fuel (listed.setIfInBounds i true) (a.put (some d) undef) w) : wpAnyH P md ops Q S (fuel + 1) listed a w := by
  obtain ⟨o, h1, h2, h3⟩ := ho
  refine wpAnyH_take h1 hs hf hr ?_ (Or.inr ⟨h3, rfl⟩) hS ?_
  · rw [h2]; exact hQ
  · rw [h2]; exact h
theorem takeH {P : Program} {md : Region.Mode} {ops : Array Oper} {Q : Exit → Act → World → Prop} {S : World → Prop} (i d : Nat) (v : Value) {fuel : Nat} {listed : Array Bool} {a : Act} {w : World} {oi : Oper}
    (ho : ops[i]? = some oi) (hd : oi.dst = some d) (hw : Region.wanted oi (yielded ops a.tmps) = true)
    (hy : ∀ w, S w → (execOp a.eval oi).run P w = .ok (.value v) w)
    (hs : Region.noSelect ops = true) (hf : Region.free md ops listed i = true) (hr : (Region.ready md ops listed).contains i = true)
    (hQ : ∀ c a w, Q (.panic c) (a.put (some d) v) w → Q (.panic c) a w) (hS : S w)
    (h : wpAnyH P md ops Q S fuel (listed.setIfInBounds i true) (a.put (some d) v) w) : wpAnyH P md ops Q S (fuel + 1) listed a w := by
  refine wpAnyH_take ho hs hf hr ?_ (Or.inl ⟨hw, hy⟩) hS ?_
  · rw [hd]; exact hQ
  · rw [hd]; exact h

theorem span_next (f t : List UInt8) (l : List Mm.Ent) (j : Nat) (h : j < l.length) : Mm.spanL f t (l.take (j + 1)) = if Mm.inB l[j].key f t then Mm.spanL f t (l.take j) ++ [l[j]] else Mm.spanL f t (l.take j) := by
  unfold Mm.spanL
  rw [List.take_succ_eq_append_getElem h, List.filter_append]
  cases hb : Mm.inB l[j].key f t <;> simp [hb]

set_option maxRecDepth 100000 in
set_option maxHeartbeats 8000000 in
theorem rspan_any (w : World) (a : Option Addr) (c n : Nat) (l : List Mm.Ent) (h : EntsAt w (.slice a n c) l) (hn : n = l.length) (hl : n ≤ 100000) (f t : List UInt8) (seq : Int) :
    Calls Try.prog 74 #[.slice a n c, .agg #[str f, str t], .int .i64 seq] w fun e w' => ∃ v, e = .returned v ∧ w'.ownsRow w.heap.size 38 4 v (Mm.told seq (Mm.spanL f t l)).length (ecs (Mm.told seq (Mm.spanL f t l))) ∧ Below w.heap.size w w' := by
  obtain ⟨i0, hi, hz0, hz1, hz2⟩ := info_parts infoE
  obtain ⟨W, hW⟩ : ∃ W, W = w.alloc (.cells #[str f, str t] 46) := ⟨_, rfl⟩
  have b0 : Below w.heap.size w W := by rw [hW]; exact (Below.refl _ _).alloc (Nat.le_refl _) _
  have y0 : W.heap[w.heap.size]? = some (.cells #[str f, str t] 46 (0, 0)) := by rw [hW]; exact World.alloc_heap_new w _
  have HA := hide (h.later b0)
  have HN : Hid (n = l.length) := hn
  have HW := hide hW
  have HY := hide y0
  have HB := hide b0
  have WZ : Hid (W.heap.size = w.heap.size + 1) := by show _ = _; rw [hW]; simp
  have IN : Hid (∀ wx k, Calls Try.prog 87 #[str k, .agg #[str f, str t]] wx fun e w' => e = .returned (.bool (Mm.inB k f t)) ∧ Below wx.heap.size wx w') := fun wx k => rin_any wx k f t
  clear h hn b0 y0 hW
  go_enter Try.func74, Try.ntmps74
  go_wp2_with (fail)
  rw [← HW.out]
  go_loopw [7, 8] (fun v i wr => ∃ j : Nat, j ≤ n ∧ i = .int .i64 j ∧ Below W.heap.size W wr ∧ wr.ownsRow W.heap.size 38 4 v (Mm.told seq (Mm.spanL f t (l.take j))).length (ecs (Mm.told seq (Mm.spanL f t (l.take j))))) (fun _ i _ => n - (intOf i).toNat)
  case atStart => exact ⟨0, Nat.zero_le _, rfl, Below.refl _ _, World.ownsRow_nil _ _ _ _⟩
  case round =>
    obtain ⟨j, hj, rfl, bx, o⟩ := hrel
    by_cases hlt : j < n
    · have jl : j < l.length := by have := HN.out; omega
      obtain ⟨b, off, rfl⟩ := (HA.out).some (by omega)
      have KC : Hid (∀ wx, Below W.heap.size W wx → (wx.cell? ⟨b, off + j * 4, none⟩ = some (str l[j].key) ∧ wx.cell? ⟨b, off + j * 4 + 2, none⟩ = some (.int .i64 l[j].seq)) ∧ wx.cell? ⟨w.heap.size, 0, none⟩ = some (str f) ∧ wx.cell? ⟨w.heap.size, 1, none⟩ = some (str t)) := fun wx hx => by
        obtain ⟨c0, _, c2, _⟩ := (HA.out.later hx).cells j jl
        have := keepB hx HY.out
        exact ⟨⟨c0, c2⟩, Joins.cell_of_block this 0, Joins.cell_of_block this 1⟩
      obtain ⟨e0, e1, e2, e3⟩ := (HA.out.later bx).cells j jl
      have CE : Hid (∀ wx, Below W.heap.size W wx → wx.cell? ⟨b, off + j * 4, none⟩ = some (str l[j].key) ∧ wx.cell? ⟨b, off + j * 4 + 1, none⟩ = some (str l[j].value) ∧ wx.cell? ⟨b, off + j * 4 + 2, none⟩ = some (.int .i64 l[j].seq) ∧ wx.cell? ⟨b, off + j * 4 + 3, none⟩ = some (.bool l[j].del)) := fun wx hx => (HA.out.later hx).cells j jl
      have hsp := span_next f t l j jl
      have TS : Hid (Mm.told seq (Mm.spanL f t (l.take (j + 1))) = if Mm.inB l[j].key f t then Mm.tell seq (Mm.told seq (Mm.spanL f t (l.take j))) l[j] else Mm.told seq (Mm.spanL f t (l.take j))) := by
        show _ = _
        rw [hsp]
        split
        · rw [Mm.told_snoc]
        · rfl
      have hlo : (Mm.told seq (Mm.spanL f t (l.take j))).length ≤ n := by
        have h1 := Mm.told_len seq (Mm.spanL f t (l.take j))
        have h2 : (Mm.spanL f t (l.take j)).length ≤ (l.take j).length := List.length_filter_le _ _
        rw [List.length_take] at h2
        omega
      have IX := hide (fun wx => IN.out wx l[j].key)
      have j1 : (j : Int) < (n : Int) := by omega
      have j2 : (0 : Int) ≤ (j : Int) := by omega
      generalize l[j] = x at *
      generalize Mm.told seq (Mm.spanL f t (l.take j)) = out at *
      generalize hIB : Mm.inB x.key f t = ib at *
      obtain ⟨K, V, Q, D⟩ := x
      simp only at KC CE TS e0 e1 e2 e3 IX
      obtain ⟨va, vc, rfl⟩ := row_shape o
      have O := hide o
      clear hIB hsp HA IN e0 e1 e2 e3
      obtain ⟨⟨p0, p2⟩, p4, p5⟩ := KC.out wr bx
      obtain ⟨tb, TB⟩ : ∃ tb, Hid (tb = (ib && decide (Q ≤ seq) && !toldB out ⟨K, V, Q, D⟩)) := ⟨_, rfl⟩
      go_wp2_with (fail)
      go_cut [51] from 18 to 51 (fun q wx => q = .bool tb ∧ Below wr.heap.size wr wx)
      case first =>
        clear TS CE
        have SH : Hid (∀ wx, Below wr.heap.size wr wx → (fun wx => (wx.cell? ⟨b, off + j * 4, none⟩ = some (str K) ∧ wx.cell? ⟨b, off + j * 4 + 2, none⟩ = some (.int .i64 Q)) ∧ (wx.cell? ⟨w.heap.size, 0, none⟩ = some (str f) ∧ wx.cell? ⟨w.heap.size, 1, none⟩ = some (str t)) ∧ Hid (Below wr.heap.size wr wx)) wx) := fun wx hx => by obtain ⟨h1, h2, h3⟩ := KC.out wx (bx.trans (hx.mono bx.size)); exact ⟨h1, ⟨h2, h3⟩, hx⟩
        have P0 := SH.out wr.drew (Below.refl _ _).drew
        refine wp_region_held_drew (S := (fun wx => (wx.cell? ⟨b, off + j * 4, none⟩ = some (str K) ∧ wx.cell? ⟨b, off + j * 4 + 2, none⟩ = some (.int .i64 Q)) ∧ (wx.cell? ⟨w.heap.size, 0, none⟩ = some (str f) ∧ wx.cell? ⟨w.heap.size, 1, none⟩ = some (str t)) ∧ Hid (Below wr.heap.size wr wx))) (by kernel_rfl) P0 (fun hHeld => ?_)
        refine takeH (oi := ?oi1) 0 18 (.slice (some ⟨b, off, none⟩) n c) ?hi1 ?hd1 ?hw1 ?hy1 (by kernel_rfl) (by kernel_rfl) (by kernel_rfl) ?hQ1 (by assumption) ?_
        case hi1 => simp only [List.getElem?_toArray, List.getElem?_cons_zero]; rfl
        case hd1 => rfl
        case hw1 => rfl
        case hy1 => (intro w hSw; (try dsimp only at hSw); go_simp)
        case hQ1 => exact fun _ _ _ h => h
        simp only [Act.put, List.setIfInBounds_toArray, List.set_cons_zero, List.set_cons_succ]
        refine takeH (oi := ?oi2) 1 19 (.int .i64 (j : Int)) ?hi2 ?hd2 ?hw2 ?hy2 (by kernel_rfl) (by kernel_rfl) (by kernel_rfl) ?hQ2 (by assumption) ?_
        case hi2 => simp only [List.getElem?_toArray, List.getElem?_cons_zero, List.getElem?_cons_succ]; rfl
        case hd2 => rfl
        case hw2 => rfl
        case hy2 => (intro w hSw; (try dsimp only at hSw); go_simp)
        case hQ2 => exact fun _ _ _ h => h
        simp only [Act.put, List.setIfInBounds_toArray, List.set_cons_zero, List.set_cons_succ]
        refine takeH (oi := ?oi3) 2 20 (.pointer (some ⟨b, off + j * 4, none⟩)) ?hi3 ?hd3 ?hw3 ?hy3 (by kernel_rfl) (by kernel_rfl) (by kernel_rfl) ?hQ3 (by assumption) ?_
        case hi3 => simp only [List.getElem?_toArray, List.getElem?_cons_zero, List.getElem?_cons_succ]; rfl
        case hd3 => rfl
        case hw3 => rfl
        case hy3 => (intro w hSw; (try dsimp only at hSw); go_simp)
        case hQ3 => exact fun _ _ _ h => h
        simp only [Act.put, List.setIfInBounds_toArray, List.set_cons_zero, List.set_cons_succ]
        refine takeH (oi := ?oi4) 3 21 (.pointer (some ⟨b, off + j * 4, none⟩)) ?hi4 ?hd4 ?hw4 ?hy4 (by kernel_rfl) (by kernel_rfl) (by kernel_rfl) ?hQ4 (by assumption) ?_
        case hi4 => simp only [List.getElem?_toArray, List.getElem?_cons_zero, List.getElem?_cons_succ]; rfl
        case hd4 => rfl
        case hw4 => rfl
        case hy4 => (intro w hSw; (try dsimp only at hSw); go_simp)
        case hQ4 => exact fun _ _ _ h => h
        simp only [Act.put, List.setIfInBounds_toArray, List.set_cons_zero, List.set_cons_succ]
        refine takeH (oi := ?oi5) 4 22 (str K) ?hi5 ?hd5 ?hw5 ?hy5 (by kernel_rfl) (by kernel_rfl) (by kernel_rfl) ?hQ5 (by assumption) ?_
        case hi5 => simp only [List.getElem?_toArray, List.getElem?_cons_zero, List.getElem?_cons_succ]; rfl
        case hd5 => rfl
        case hw5 => rfl
        case hy5 => (intro w hSw; (try dsimp only at hSw); go_simp)
        case hQ5 => exact fun _ _ _ h => h
        simp only [Act.put, List.setIfInBounds_toArray, List.set_cons_zero, List.set_cons_succ]
        refine takeH (oi := ?oi6) 5 23 (.agg #[str f, str t]) ?hi6 ?hd6 ?hw6 ?hy6 (by kernel_rfl) (by kernel_rfl) (by kernel_rfl) ?hQ6 (by assumption) ?_
        case hi6 => simp only [List.getElem?_toArray, List.getElem?_cons_zero, List.getElem?_cons_succ]; rfl
        case hd6 => rfl
        case hw6 => rfl
        case hy6 => (intro w hSw; (try dsimp only at hSw); go_simp)
        case hQ6 => exact fun _ _ _ h => h
        simp only [Act.put, List.setIfInBounds_toArray, List.set_cons_zero, List.set_cons_succ]
        refine wpAnyH_ready (rs := [6]) (by kernel_rfl) (by simp) ?_
        refine AllReadyH.cons rfl (fun KK hK => ?_) AllReadyH.nil
        go_simp
        refine (IX.out _).mono ?_
        rintro e w2 ⟨rfl, b2⟩
        have B2 : Below wr.heap.size wr w2 := (Below.refl _ _).drew.trans b2
        go_wp2_with (fail)
        refine hK.out _ _ (SH.out _ B2) (fun hHeld2 => ?_)
        clear hK KK hHeld P0
        refine takeH (oi := ?oi7) 7 25 (.bool ib) ?hi7 ?hd7 ?hw7 ?hy7 (by kernel_rfl) (by kernel_rfl) (by kernel_rfl) ?hQ7 (by assumption) ?_
        case hi7 => simp only [List.getElem?_toArray, List.getElem?_cons_zero, List.getElem?_cons_succ]; rfl
        case hd7 => rfl
        case hw7 => rfl
        case hy7 => (intro w hSw; (try dsimp only at hSw); go_simp)
        case hQ7 => exact fun _ _ _ h => h
        simp only [Act.put, List.setIfInBounds_toArray, List.set_cons_zero, List.set_cons_succ]
        cases ib with
        | false =>
          have HB2 : Hid (tb = false) := TB.out
          clear TB o O
          refine skipH 8 26 ⟨_, rfl, rfl, by rfl⟩ (by kernel_rfl) (by kernel_rfl) (by kernel_rfl) (fun _ _ _ h => h) (by assumption) ?_
          simp only [Act.put, List.setIfInBounds_toArray, List.set_cons_zero, List.set_cons_succ]
          refine skipH 9 27 ⟨_, rfl, rfl, by rfl⟩ (by kernel_rfl) (by kernel_rfl) (by kernel_rfl) (fun _ _ _ h => h) (by assumption) ?_
          simp only [Act.put, List.setIfInBounds_toArray, List.set_cons_zero, List.set_cons_succ]
          refine skipH 10 28 ⟨_, rfl, rfl, by rfl⟩ (by kernel_rfl) (by kernel_rfl) (by kernel_rfl) (fun _ _ _ h => h) (by assumption) ?_
          simp only [Act.put, List.setIfInBounds_toArray, List.set_cons_zero, List.set_cons_succ]
          refine skipH 11 29 ⟨_, rfl, rfl, by rfl⟩ (by kernel_rfl) (by kernel_rfl) (by kernel_rfl) (fun _ _ _ h => h) (by assumption) ?_
          simp only [Act.put, List.setIfInBounds_toArray, List.set_cons_zero, List.set_cons_succ]
          refine skipH 12 30 ⟨_, rfl, rfl, by rfl⟩ (by kernel_rfl) (by kernel_rfl) (by kernel_rfl) (fun _ _ _ h => h) (by assumption) ?_
          simp only [Act.put, List.setIfInBounds_toArray, List.set_cons_zero, List.set_cons_succ]
          refine skipH 13 31 ⟨_, rfl, rfl, by rfl⟩ (by kernel_rfl) (by kernel_rfl) (by kernel_rfl) (fun _ _ _ h => h) (by assumption) ?_
          simp only [Act.put, List.setIfInBounds_toArray, List.set_cons_zero, List.set_cons_succ]
          refine skipH 14 32 ⟨_, rfl, rfl, by rfl⟩ (by kernel_rfl) (by kernel_rfl) (by kernel_rfl) (fun _ _ _ h => h) (by assumption) ?_
          simp only [Act.put, List.setIfInBounds_toArray, List.set_cons_zero, List.set_cons_succ]
          refine takeH (oi := ?oi8) 15 33 (.bool false) ?hi8 ?hd8 ?hw8 ?hy8 (by kernel_rfl) (by kernel_rfl) (by kernel_rfl) ?hQ8 (by assumption) ?_
          case hi8 => simp only [List.getElem?_toArray, List.getElem?_cons_zero, List.getElem?_cons_succ]; rfl
          case hd8 => rfl
          case hw8 => rfl
          case hy8 => (intro w hSw; (try dsimp only at hSw); go_simp)
          case hQ8 => exact fun _ _ _ h => h
          simp only [Act.put, List.setIfInBounds_toArray, List.set_cons_zero, List.set_cons_succ]
          refine takeH (oi := ?oi9) 16 34 (.bool false) ?hi9 ?hd9 ?hw9 ?hy9 (by kernel_rfl) (by kernel_rfl) (by kernel_rfl) ?hQ9 (by assumption) ?_
          case hi9 => simp only [List.getElem?_toArray, List.getElem?_cons_zero, List.getElem?_cons_succ]; rfl
          case hd9 => rfl
          case hw9 => rfl
          case hy9 => (intro w hSw; (try dsimp only at hSw); go_simp)
          case hQ9 => exact fun _ _ _ h => h
          simp only [Act.put, List.setIfInBounds_toArray, List.set_cons_zero, List.set_cons_succ]
          refine skipH 17 35 ⟨_, rfl, rfl, by rfl⟩ (by kernel_rfl) (by kernel_rfl) (by kernel_rfl) (fun _ _ _ h => h) (by assumption) ?_
          simp only [Act.put, List.setIfInBounds_toArray, List.set_cons_zero, List.set_cons_succ]
          refine skipH 18 36 ⟨_, rfl, rfl, by rfl⟩ (by kernel_rfl) (by kernel_rfl) (by kernel_rfl) (fun _ _ _ h => h) (by assumption) ?_
          simp only [Act.put, List.setIfInBounds_toArray, List.set_cons_zero, List.set_cons_succ]
          refine skipH 19 37 ⟨_, rfl, rfl, by rfl⟩ (by kernel_rfl) (by kernel_rfl) (by kernel_rfl) (fun _ _ _ h => h) (by assumption) ?_
          simp only [Act.put, List.setIfInBounds_toArray, List.set_cons_zero, List.set_cons_succ]
          refine skipH 20 38 ⟨_, rfl, rfl, by rfl⟩ (by kernel_rfl) (by kernel_rfl) (by kernel_rfl) (fun _ _ _ h => h) (by assumption) ?_
          simp only [Act.put, List.setIfInBounds_toArray, List.set_cons_zero, List.set_cons_succ]
          refine skipH 21 39 ⟨_, rfl, rfl, by rfl⟩ (by kernel_rfl) (by kernel_rfl) (by kernel_rfl) (fun _ _ _ h => h) (by assumption) ?_
          simp only [Act.put, List.setIfInBounds_toArray, List.set_cons_zero, List.set_cons_succ]
          refine skipH 22 40 ⟨_, rfl, rfl, by rfl⟩ (by kernel_rfl) (by kernel_rfl) (by kernel_rfl) (fun _ _ _ h => h) (by assumption) ?_
          simp only [Act.put, List.setIfInBounds_toArray, List.set_cons_zero, List.set_cons_succ]
          refine skipH 23 41 ⟨_, rfl, rfl, by rfl⟩ (by kernel_rfl) (by kernel_rfl) (by kernel_rfl) (fun _ _ _ h => h) (by assumption) ?_
          simp only [Act.put, List.setIfInBounds_toArray, List.set_cons_zero, List.set_cons_succ]
          refine skipH 24 42 ⟨_, rfl, rfl, by rfl⟩ (by kernel_rfl) (by kernel_rfl) (by kernel_rfl) (fun _ _ _ h => h) (by assumption) ?_
          simp only [Act.put, List.setIfInBounds_toArray, List.set_cons_zero, List.set_cons_succ]
          refine skipH 25 43 ⟨_, rfl, rfl, by rfl⟩ (by kernel_rfl) (by kernel_rfl) (by kernel_rfl) (fun _ _ _ h => h) (by assumption) ?_
          simp only [Act.put, List.setIfInBounds_toArray, List.set_cons_zero, List.set_cons_succ]
          refine skipH 26 44 ⟨_, rfl, rfl, by rfl⟩ (by kernel_rfl) (by kernel_rfl) (by kernel_rfl) (fun _ _ _ h => h) (by assumption) ?_
          simp only [Act.put, List.setIfInBounds_toArray, List.set_cons_zero, List.set_cons_succ]
          refine skipH 27 45 ⟨_, rfl, rfl, by rfl⟩ (by kernel_rfl) (by kernel_rfl) (by kernel_rfl) (fun _ _ _ h => h) (by assumption) ?_
          simp only [Act.put, List.setIfInBounds_toArray, List.set_cons_zero, List.set_cons_succ]
          refine skipH 28 46 ⟨_, rfl, rfl, by rfl⟩ (by kernel_rfl) (by kernel_rfl) (by kernel_rfl) (fun _ _ _ h => h) (by assumption) ?_
          simp only [Act.put, List.setIfInBounds_toArray, List.set_cons_zero, List.set_cons_succ]
          refine skipH 29 47 ⟨_, rfl, rfl, by rfl⟩ (by kernel_rfl) (by kernel_rfl) (by kernel_rfl) (fun _ _ _ h => h) (by assumption) ?_
          simp only [Act.put, List.setIfInBounds_toArray, List.set_cons_zero, List.set_cons_succ]
          refine skipH 30 48 ⟨_, rfl, rfl, by rfl⟩ (by kernel_rfl) (by kernel_rfl) (by kernel_rfl) (fun _ _ _ h => h) (by assumption) ?_
          simp only [Act.put, List.setIfInBounds_toArray, List.set_cons_zero, List.set_cons_succ]
          refine skipH 31 49 ⟨_, rfl, rfl, by rfl⟩ (by kernel_rfl) (by kernel_rfl) (by kernel_rfl) (fun _ _ _ h => h) (by assumption) ?_
          simp only [Act.put, List.setIfInBounds_toArray, List.set_cons_zero, List.set_cons_succ]
          refine skipH 32 50 ⟨_, rfl, rfl, by rfl⟩ (by kernel_rfl) (by kernel_rfl) (by kernel_rfl) (fun _ _ _ h => h) (by assumption) ?_
          simp only [Act.put, List.setIfInBounds_toArray, List.set_cons_zero, List.set_cons_succ]
          refine takeH (oi := ?oi10) 33 51 (.bool false) ?hi10 ?hd10 ?hw10 ?hy10 (by kernel_rfl) (by kernel_rfl) (by kernel_rfl) ?hQ10 (by assumption) ?_
          case hi10 => simp only [List.getElem?_toArray, List.getElem?_cons_zero, List.getElem?_cons_succ]; rfl
          case hd10 => rfl
          case hw10 => rfl
          case hy10 => (intro w hSw; (try dsimp only at hSw); go_simp)
          case hQ10 => exact fun _ _ _ h => h
          simp only [Act.put, List.setIfInBounds_toArray, List.set_cons_zero, List.set_cons_succ]
          refine wpAnyH_done (by kernel_rfl) ?_ _
          go_wp2_with (fail)
          go_meet
          case rel => exact ⟨by rw [HB2.out], B2⟩
        | true =>
          refine takeH (oi := ?oi11) 8 26 (.slice (some ⟨b, off, none⟩) n c) ?hi11 ?hd11 ?hw11 ?hy11 (by kernel_rfl) (by kernel_rfl) (by kernel_rfl) ?hQ11 (by assumption) ?_
          case hi11 => simp only [List.getElem?_toArray, List.getElem?_cons_zero, List.getElem?_cons_succ]; rfl
          case hd11 => rfl
          case hw11 => rfl
          case hy11 => (intro w hSw; (try dsimp only at hSw); go_simp)
          case hQ11 => exact fun _ _ _ h => h
          simp only [Act.put, List.setIfInBounds_toArray, List.set_cons_zero, List.set_cons_succ]
          refine takeH (oi := ?oi12) 9 27 (.int .i64 (j : Int)) ?hi12 ?hd12 ?hw12 ?hy12 (by kernel_rfl) (by kernel_rfl) (by kernel_rfl) ?hQ12 (by assumption) ?_
          case hi12 => simp only [List.getElem?_toArray, List.getElem?_cons_zero, List.getElem?_cons_succ]; rfl
          case hd12 => rfl
          case hw12 => rfl
          case hy12 => (intro w hSw; (try dsimp only at hSw); go_simp)
          case hQ12 => exact fun _ _ _ h => h
          simp only [Act.put, List.setIfInBounds_toArray, List.set_cons_zero, List.set_cons_succ]
          refine takeH (oi := ?oi13) 10 28 (.pointer (some ⟨b, off + j * 4, none⟩)) ?hi13 ?hd13 ?hw13 ?hy13 (by kernel_rfl) (by kernel_rfl) (by kernel_rfl) ?hQ13 (by assumption) ?_
          case hi13 => simp only [List.getElem?_toArray, List.getElem?_cons_zero, List.getElem?_cons_succ]; rfl
          case hd13 => rfl
          case hw13 => rfl
          case hy13 => (intro w hSw; (try dsimp only at hSw); go_simp)
          case hQ13 => exact fun _ _ _ h => h
          simp only [Act.put, List.setIfInBounds_toArray, List.set_cons_zero, List.set_cons_succ]
          refine takeH (oi := ?oi14) 11 29 (.pointer (some ⟨b, off + j * 4 + 2, none⟩)) ?hi14 ?hd14 ?hw14 ?hy14 (by kernel_rfl) (by kernel_rfl) (by kernel_rfl) ?hQ14 (by assumption) ?_
          case hi14 => simp only [List.getElem?_toArray, List.getElem?_cons_zero, List.getElem?_cons_succ]; rfl
          case hd14 => rfl
          case hw14 => rfl
          case hy14 => (intro w hSw; (try dsimp only at hSw); go_simp)
          case hQ14 => exact fun _ _ _ h => h
          simp only [Act.put, List.setIfInBounds_toArray, List.set_cons_zero, List.set_cons_succ]
          refine takeH (oi := ?oi15) 12 30 (.int .i64 Q) ?hi15 ?hd15 ?hw15 ?hy15 (by kernel_rfl) (by kernel_rfl) (by kernel_rfl) ?hQ15 (by assumption) ?_
          case hi15 => simp only [List.getElem?_toArray, List.getElem?_cons_zero, List.getElem?_cons_succ]; rfl
          case hd15 => rfl
          case hw15 => rfl
          case hy15 => (intro w hSw; (try dsimp only at hSw); go_simp)
          case hQ15 => exact fun _ _ _ h => h
          simp only [Act.put, List.setIfInBounds_toArray, List.set_cons_zero, List.set_cons_succ]
          refine takeH (oi := ?oi16) 13 31 (.int .i64 seq) ?hi16 ?hd16 ?hw16 ?hy16 (by kernel_rfl) (by kernel_rfl) (by kernel_rfl) ?hQ16 (by assumption) ?_
          case hi16 => simp only [List.getElem?_toArray, List.getElem?_cons_zero, List.getElem?_cons_succ]; rfl
          case hd16 => rfl
          case hw16 => rfl
          case hy16 => (intro w hSw; (try dsimp only at hSw); go_simp)
          case hQ16 => exact fun _ _ _ h => h
          simp only [Act.put, List.setIfInBounds_toArray, List.set_cons_zero, List.set_cons_succ]
          refine takeH (oi := ?oi17) 14 32 (.bool (decide (Q ≤ seq))) ?hi17 ?hd17 ?hw17 ?hy17 (by kernel_rfl) (by kernel_rfl) (by kernel_rfl) ?hQ17 (by assumption) ?_
          case hi17 => simp only [List.getElem?_toArray, List.getElem?_cons_zero, List.getElem?_cons_succ]; rfl
          case hd17 => rfl
          case hw17 => rfl
          case hy17 => (intro w hSw; (try dsimp only at hSw); go_simp)
          case hQ17 => exact fun _ _ _ h => h
          simp only [Act.put, List.setIfInBounds_toArray, List.set_cons_zero, List.set_cons_succ]
          refine takeH (oi := ?oi18) 15 33 (.bool (decide (Q ≤ seq))) ?hi18 ?hd18 ?hw18 ?hy18 (by kernel_rfl) (by kernel_rfl) (by kernel_rfl) ?hQ18 (by assumption) ?_
          case hi18 => simp only [List.getElem?_toArray, List.getElem?_cons_zero, List.getElem?_cons_succ]; rfl
          case hd18 => rfl
          case hw18 => rfl
          case hy18 => (intro w hSw; (try dsimp only at hSw); go_simp)
          case hQ18 => exact fun _ _ _ h => h
          simp only [Act.put, List.setIfInBounds_toArray, List.set_cons_zero, List.set_cons_succ]
          refine takeH (oi := ?oi19) 16 34 (.bool (decide (Q ≤ seq))) ?hi19 ?hd19 ?hw19 ?hy19 (by kernel_rfl) (by kernel_rfl) (by kernel_rfl) ?hQ19 (by assumption) ?_
          case hi19 => simp only [List.getElem?_toArray, List.getElem?_cons_zero, List.getElem?_cons_succ]; rfl
          case hd19 => rfl
          case hw19 => rfl
          case hy19 => (intro w hSw; (try dsimp only at hSw); go_simp)
          case hQ19 => exact fun _ _ _ h => h
          simp only [Act.put, List.setIfInBounds_toArray, List.set_cons_zero, List.set_cons_succ]
          cases hd : decide (Q ≤ seq) with
          | false =>
            have HB2 : Hid (tb = false) := by show _ = _; rw [TB.out, hd]; rfl
            clear TB o O
            refine skipH 17 35 ⟨_, rfl, rfl, by rfl⟩ (by kernel_rfl) (by kernel_rfl) (by kernel_rfl) (fun _ _ _ h => h) (by assumption) ?_
            simp only [Act.put, List.setIfInBounds_toArray, List.set_cons_zero, List.set_cons_succ]
            refine skipH 18 36 ⟨_, rfl, rfl, by rfl⟩ (by kernel_rfl) (by kernel_rfl) (by kernel_rfl) (fun _ _ _ h => h) (by assumption) ?_
            simp only [Act.put, List.setIfInBounds_toArray, List.set_cons_zero, List.set_cons_succ]
            refine skipH 19 37 ⟨_, rfl, rfl, by rfl⟩ (by kernel_rfl) (by kernel_rfl) (by kernel_rfl) (fun _ _ _ h => h) (by assumption) ?_
            simp only [Act.put, List.setIfInBounds_toArray, List.set_cons_zero, List.set_cons_succ]
            refine skipH 20 38 ⟨_, rfl, rfl, by rfl⟩ (by kernel_rfl) (by kernel_rfl) (by kernel_rfl) (fun _ _ _ h => h) (by assumption) ?_
            simp only [Act.put, List.setIfInBounds_toArray, List.set_cons_zero, List.set_cons_succ]
            refine skipH 21 39 ⟨_, rfl, rfl, by rfl⟩ (by kernel_rfl) (by kernel_rfl) (by kernel_rfl) (fun _ _ _ h => h) (by assumption) ?_
            simp only [Act.put, List.setIfInBounds_toArray, List.set_cons_zero, List.set_cons_succ]
            refine skipH 22 40 ⟨_, rfl, rfl, by rfl⟩ (by kernel_rfl) (by kernel_rfl) (by kernel_rfl) (fun _ _ _ h => h) (by assumption) ?_
            simp only [Act.put, List.setIfInBounds_toArray, List.set_cons_zero, List.set_cons_succ]
            refine skipH 23 41 ⟨_, rfl, rfl, by rfl⟩ (by kernel_rfl) (by kernel_rfl) (by kernel_rfl) (fun _ _ _ h => h) (by assumption) ?_
            simp only [Act.put, List.setIfInBounds_toArray, List.set_cons_zero, List.set_cons_succ]
            refine skipH 24 42 ⟨_, rfl, rfl, by rfl⟩ (by kernel_rfl) (by kernel_rfl) (by kernel_rfl) (fun _ _ _ h => h) (by assumption) ?_
            simp only [Act.put, List.setIfInBounds_toArray, List.set_cons_zero, List.set_cons_succ]
            refine skipH 25 43 ⟨_, rfl, rfl, by rfl⟩ (by kernel_rfl) (by kernel_rfl) (by kernel_rfl) (fun _ _ _ h => h) (by assumption) ?_
            simp only [Act.put, List.setIfInBounds_toArray, List.set_cons_zero, List.set_cons_succ]
            refine skipH 26 44 ⟨_, rfl, rfl, by rfl⟩ (by kernel_rfl) (by kernel_rfl) (by kernel_rfl) (fun _ _ _ h => h) (by assumption) ?_
            simp only [Act.put, List.setIfInBounds_toArray, List.set_cons_zero, List.set_cons_succ]
            refine skipH 27 45 ⟨_, rfl, rfl, by rfl⟩ (by kernel_rfl) (by kernel_rfl) (by kernel_rfl) (fun _ _ _ h => h) (by assumption) ?_
            simp only [Act.put, List.setIfInBounds_toArray, List.set_cons_zero, List.set_cons_succ]
            refine skipH 28 46 ⟨_, rfl, rfl, by rfl⟩ (by kernel_rfl) (by kernel_rfl) (by kernel_rfl) (fun _ _ _ h => h) (by assumption) ?_
            simp only [Act.put, List.setIfInBounds_toArray, List.set_cons_zero, List.set_cons_succ]
            refine skipH 29 47 ⟨_, rfl, rfl, by rfl⟩ (by kernel_rfl) (by kernel_rfl) (by kernel_rfl) (fun _ _ _ h => h) (by assumption) ?_
            simp only [Act.put, List.setIfInBounds_toArray, List.set_cons_zero, List.set_cons_succ]
            refine skipH 30 48 ⟨_, rfl, rfl, by rfl⟩ (by kernel_rfl) (by kernel_rfl) (by kernel_rfl) (fun _ _ _ h => h) (by assumption) ?_
            simp only [Act.put, List.setIfInBounds_toArray, List.set_cons_zero, List.set_cons_succ]
            refine skipH 31 49 ⟨_, rfl, rfl, by rfl⟩ (by kernel_rfl) (by kernel_rfl) (by kernel_rfl) (fun _ _ _ h => h) (by assumption) ?_
            simp only [Act.put, List.setIfInBounds_toArray, List.set_cons_zero, List.set_cons_succ]
            refine skipH 32 50 ⟨_, rfl, rfl, by rfl⟩ (by kernel_rfl) (by kernel_rfl) (by kernel_rfl) (fun _ _ _ h => h) (by assumption) ?_
            simp only [Act.put, List.setIfInBounds_toArray, List.set_cons_zero, List.set_cons_succ]
            refine takeH (oi := ?oi20) 33 51 (.bool false) ?hi20 ?hd20 ?hw20 ?hy20 (by kernel_rfl) (by kernel_rfl) (by kernel_rfl) ?hQ20 (by assumption) ?_
            case hi20 => simp only [List.getElem?_toArray, List.getElem?_cons_zero, List.getElem?_cons_succ]; rfl
            case hd20 => rfl
            case hw20 => rfl
            case hy20 => (intro w hSw; (try dsimp only at hSw); go_simp)
            case hQ20 => exact fun _ _ _ h => h
            simp only [Act.put, List.setIfInBounds_toArray, List.set_cons_zero, List.set_cons_succ]
            refine wpAnyH_done (by kernel_rfl) ?_ _
            go_wp2_with (fail)
            go_meet
            case rel => exact ⟨by rw [HB2.out], B2⟩
          | true =>
            rcases List.eq_nil_or_concat out with ho | ⟨o', y, ho⟩
            · subst ho
              have HB2 : Hid (tb = true) := by show _ = _; rw [TB.out, hd]; rfl
              clear TB o O
              refine takeH (oi := ?oi21) 17 35 (.int .i64 0) ?hi21 ?hd21 ?hw21 ?hy21 (by kernel_rfl) (by kernel_rfl) (by kernel_rfl) ?hQ21 (by assumption) ?_
              case hi21 => simp only [List.getElem?_toArray, List.getElem?_cons_zero, List.getElem?_cons_succ]; rfl
              case hd21 => rfl
              case hw21 => rfl
              case hy21 => (intro w hSw; (try dsimp only at hSw); go_simp)
              case hQ21 => exact fun _ _ _ h => h
              simp only [Act.put, List.setIfInBounds_toArray, List.set_cons_zero, List.set_cons_succ]
              refine takeH (oi := ?oi22) 18 36 (.bool true) ?hi22 ?hd22 ?hw22 ?hy22 (by kernel_rfl) (by kernel_rfl) (by kernel_rfl) ?hQ22 (by assumption) ?_
              case hi22 => simp only [List.getElem?_toArray, List.getElem?_cons_zero, List.getElem?_cons_succ]; rfl
              case hd22 => rfl
              case hw22 => rfl
              case hy22 => (intro w hSw; (try dsimp only at hSw); go_simp)
              case hQ22 => exact fun _ _ _ h => h
              simp only [Act.put, List.setIfInBounds_toArray, List.set_cons_zero, List.set_cons_succ]
              refine takeH (oi := ?oi23) 19 37 (.bool true) ?hi23 ?hd23 ?hw23 ?hy23 (by kernel_rfl) (by kernel_rfl) (by kernel_rfl) ?hQ23 (by assumption) ?_
              case hi23 => simp only [List.getElem?_toArray, List.getElem?_cons_zero, List.getElem?_cons_succ]; rfl
              case hd23 => rfl
              case hw23 => rfl
              case hy23 => (intro w hSw; (try dsimp only at hSw); go_simp)
              case hQ23 => exact fun _ _ _ h => h
              simp only [Act.put, List.setIfInBounds_toArray, List.set_cons_zero, List.set_cons_succ]
              refine skipH 20 38 ⟨_, rfl, rfl, by rfl⟩ (by kernel_rfl) (by kernel_rfl) (by kernel_rfl) (fun _ _ _ h => h) (by assumption) ?_
              simp only [Act.put, List.setIfInBounds_toArray, List.set_cons_zero, List.set_cons_succ]
              refine skipH 21 39 ⟨_, rfl, rfl, by rfl⟩ (by kernel_rfl) (by kernel_rfl) (by kernel_rfl) (fun _ _ _ h => h) (by assumption) ?_
              simp only [Act.put, List.setIfInBounds_toArray, List.set_cons_zero, List.set_cons_succ]
              refine skipH 22 40 ⟨_, rfl, rfl, by rfl⟩ (by kernel_rfl) (by kernel_rfl) (by kernel_rfl) (fun _ _ _ h => h) (by assumption) ?_
              simp only [Act.put, List.setIfInBounds_toArray, List.set_cons_zero, List.set_cons_succ]
              refine skipH 23 41 ⟨_, rfl, rfl, by rfl⟩ (by kernel_rfl) (by kernel_rfl) (by kernel_rfl) (fun _ _ _ h => h) (by assumption) ?_
              simp only [Act.put, List.setIfInBounds_toArray, List.set_cons_zero, List.set_cons_succ]
              refine skipH 24 42 ⟨_, rfl, rfl, by rfl⟩ (by kernel_rfl) (by kernel_rfl) (by kernel_rfl) (fun _ _ _ h => h) (by assumption) ?_
              simp only [Act.put, List.setIfInBounds_toArray, List.set_cons_zero, List.set_cons_succ]
              refine skipH 25 43 ⟨_, rfl, rfl, by rfl⟩ (by kernel_rfl) (by kernel_rfl) (by kernel_rfl) (fun _ _ _ h => h) (by assumption) ?_
              simp only [Act.put, List.setIfInBounds_toArray, List.set_cons_zero, List.set_cons_succ]
              refine skipH 26 44 ⟨_, rfl, rfl, by rfl⟩ (by kernel_rfl) (by kernel_rfl) (by kernel_rfl) (fun _ _ _ h => h) (by assumption) ?_
              simp only [Act.put, List.setIfInBounds_toArray, List.set_cons_zero, List.set_cons_succ]
              refine skipH 27 45 ⟨_, rfl, rfl, by rfl⟩ (by kernel_rfl) (by kernel_rfl) (by kernel_rfl) (fun _ _ _ h => h) (by assumption) ?_
              simp only [Act.put, List.setIfInBounds_toArray, List.set_cons_zero, List.set_cons_succ]
              refine skipH 28 46 ⟨_, rfl, rfl, by rfl⟩ (by kernel_rfl) (by kernel_rfl) (by kernel_rfl) (fun _ _ _ h => h) (by assumption) ?_
              simp only [Act.put, List.setIfInBounds_toArray, List.set_cons_zero, List.set_cons_succ]
              refine skipH 29 47 ⟨_, rfl, rfl, by rfl⟩ (by kernel_rfl) (by kernel_rfl) (by kernel_rfl) (fun _ _ _ h => h) (by assumption) ?_
              simp only [Act.put, List.setIfInBounds_toArray, List.set_cons_zero, List.set_cons_succ]
              refine skipH 30 48 ⟨_, rfl, rfl, by rfl⟩ (by kernel_rfl) (by kernel_rfl) (by kernel_rfl) (fun _ _ _ h => h) (by assumption) ?_
              simp only [Act.put, List.setIfInBounds_toArray, List.set_cons_zero, List.set_cons_succ]
              refine skipH 31 49 ⟨_, rfl, rfl, by rfl⟩ (by kernel_rfl) (by kernel_rfl) (by kernel_rfl) (fun _ _ _ h => h) (by assumption) ?_
              simp only [Act.put, List.setIfInBounds_toArray, List.set_cons_zero, List.set_cons_succ]
              refine takeH (oi := ?oi24) 32 50 (.bool true) ?hi24 ?hd24 ?hw24 ?hy24 (by kernel_rfl) (by kernel_rfl) (by kernel_rfl) ?hQ24 (by assumption) ?_
              case hi24 => simp only [List.getElem?_toArray, List.getElem?_cons_zero, List.getElem?_cons_succ]; rfl
              case hd24 => rfl
              case hw24 => rfl
              case hy24 => (intro w hSw; (try dsimp only at hSw); go_simp)
              case hQ24 => exact fun _ _ _ h => h
              simp only [Act.put, List.setIfInBounds_toArray, List.set_cons_zero, List.set_cons_succ]
              refine takeH (oi := ?oi25) 33 51 (.bool true) ?hi25 ?hd25 ?hw25 ?hy25 (by kernel_rfl) (by kernel_rfl) (by kernel_rfl) ?hQ25 (by assumption) ?_
              case hi25 => simp only [List.getElem?_toArray, List.getElem?_cons_zero, List.getElem?_cons_succ]; rfl
              case hd25 => rfl
              case hw25 => rfl
              case hy25 => (intro w hSw; (try dsimp only at hSw); go_simp)
              case hQ25 => exact fun _ _ _ h => h
              simp only [Act.put, List.setIfInBounds_toArray, List.set_cons_zero, List.set_cons_succ]
              refine wpAnyH_done (by kernel_rfl) ?_ _
              go_wp2_with (fail)
              go_meet
              case rel => exact ⟨by rw [HB2.out], B2⟩
            · rw [List.concat_eq_append] at ho
              have hL : out.length = o'.length + 1 := by rw [ho]; simp
              obtain ⟨g, cap, hv⟩ := own_someE o (by omega)
              cases hv
              have LD : Hid (∀ wx, Hid (Below wr.heap.size wr wx) → wx.cell? ⟨g, o'.length * 4, none⟩ = some (str y.key)) := fun wx hx => by
                have hcl : EntsAt wr (.slice (some ⟨g, 0, none⟩) out.length vc) (o' ++ [y]) := by rw [← ho]; exact EntsAt.own o
                exact last_cell (hcl.later hx.out)
              have HB2 : Hid (tb = !(y.key == K)) := by show _ = _; rw [TB.out, hd, ho, toldB_snoc]; rfl
              have q2 : (o'.length : Int) < (out.length : Int) := by omega
              have q3 : (0 : Int) ≤ (o'.length : Int) := by omega
              have q4 : ((out.length : Int) == 0) = false := by rw [beq_eq_false_iff_ne]; omega
              have q6 : IntKind.i64.wrap ((out.length : Int) - 1) = (o'.length : Int) := by rw [IntKind.wrap_i64]; omega
              clear o O TB ho hL
              generalize o'.length = k at *
              generalize y.key = YK at *
              refine takeH (oi := ?oi26) 17 35 (.int .i64 (out.length : Int)) ?hi26 ?hd26 ?hw26 ?hy26 (by kernel_rfl) (by kernel_rfl) (by kernel_rfl) ?hQ26 (by assumption) ?_
              case hi26 => simp only [List.getElem?_toArray, List.getElem?_cons_zero, List.getElem?_cons_succ]; rfl
              case hd26 => rfl
              case hw26 => rfl
              case hy26 => (intro w hSw; (try dsimp only at hSw); go_simp)
              case hQ26 => exact fun _ _ _ h => h
              simp only [Act.put, List.setIfInBounds_toArray, List.set_cons_zero, List.set_cons_succ]
              refine takeH (oi := ?oi27) 18 36 (.bool false) ?hi27 ?hd27 ?hw27 ?hy27 (by kernel_rfl) (by kernel_rfl) (by kernel_rfl) ?hQ27 (by assumption) ?_
              case hi27 => simp only [List.getElem?_toArray, List.getElem?_cons_zero, List.getElem?_cons_succ]; rfl
              case hd27 => rfl
              case hw27 => rfl
              case hy27 => (intro w hSw; (try dsimp only at hSw); go_simp)
              case hQ27 => exact fun _ _ _ h => h
              simp only [Act.put, List.setIfInBounds_toArray, List.set_cons_zero, List.set_cons_succ]
              refine takeH (oi := ?oi28) 19 37 (.bool false) ?hi28 ?hd28 ?hw28 ?hy28 (by kernel_rfl) (by kernel_rfl) (by kernel_rfl) ?hQ28 (by assumption) ?_
              case hi28 => simp only [List.getElem?_toArray, List.getElem?_cons_zero, List.getElem?_cons_succ]; rfl
              case hd28 => rfl
              case hw28 => rfl
              case hy28 => (intro w hSw; (try dsimp only at hSw); go_simp)
              case hQ28 => exact fun _ _ _ h => h
              simp only [Act.put, List.setIfInBounds_toArray, List.set_cons_zero, List.set_cons_succ]
              refine takeH (oi := ?oi29) 20 38 (.slice (some ⟨g, 0, none⟩) out.length vc) ?hi29 ?hd29 ?hw29 ?hy29 (by kernel_rfl) (by kernel_rfl) (by kernel_rfl) ?hQ29 (by assumption) ?_
              case hi29 => simp only [List.getElem?_toArray, List.getElem?_cons_zero, List.getElem?_cons_succ]; rfl
              case hd29 => rfl
              case hw29 => rfl
              case hy29 => (intro w hSw; (try dsimp only at hSw); go_simp)
              case hQ29 => exact fun _ _ _ h => h
              simp only [Act.put, List.setIfInBounds_toArray, List.set_cons_zero, List.set_cons_succ]
              refine takeH (oi := ?oi30) 21 39 (.int .i64 (out.length : Int)) ?hi30 ?hd30 ?hw30 ?hy30 (by kernel_rfl) (by kernel_rfl) (by kernel_rfl) ?hQ30 (by assumption) ?_
              case hi30 => simp only [List.getElem?_toArray, List.getElem?_cons_zero, List.getElem?_cons_succ]; rfl
              case hd30 => rfl
              case hw30 => rfl
              case hy30 => (intro w hSw; (try dsimp only at hSw); go_simp)
              case hQ30 => exact fun _ _ _ h => h
              simp only [Act.put, List.setIfInBounds_toArray, List.set_cons_zero, List.set_cons_succ]
              refine takeH (oi := ?oi31) 22 40 (.int .i64 (k : Int)) ?hi31 ?hd31 ?hw31 ?hy31 (by kernel_rfl) (by kernel_rfl) (by kernel_rfl) ?hQ31 (by assumption) ?_
              case hi31 => simp only [List.getElem?_toArray, List.getElem?_cons_zero, List.getElem?_cons_succ]; rfl
              case hd31 => rfl
              case hw31 => rfl
              case hy31 => (intro w hSw; (try dsimp only at hSw); go_simp)
              case hQ31 => exact fun _ _ _ h => h
              simp only [Act.put, List.setIfInBounds_toArray, List.set_cons_zero, List.set_cons_succ]
              refine takeH (oi := ?oi32) 23 41 (.pointer (some ⟨g, k * 4, none⟩)) ?hi32 ?hd32 ?hw32 ?hy32 (by kernel_rfl) (by kernel_rfl) (by kernel_rfl) ?hQ32 (by assumption) ?_
              case hi32 => simp only [List.getElem?_toArray, List.getElem?_cons_zero, List.getElem?_cons_succ]; rfl
              case hd32 => rfl
              case hw32 => rfl
              case hy32 => (intro w hSw; (try dsimp only at hSw); go_simp)
              case hQ32 => exact fun _ _ _ h => h
              simp only [Act.put, List.setIfInBounds_toArray, List.set_cons_zero, List.set_cons_succ]
              refine takeH (oi := ?oi33) 24 42 (.pointer (some ⟨g, k * 4, none⟩)) ?hi33 ?hd33 ?hw33 ?hy33 (by kernel_rfl) (by kernel_rfl) (by kernel_rfl) ?hQ33 (by assumption) ?_
              case hi33 => simp only [List.getElem?_toArray, List.getElem?_cons_zero, List.getElem?_cons_succ]; rfl
              case hd33 => rfl
              case hw33 => rfl
              case hy33 => (intro w hSw; (try dsimp only at hSw); go_simp)
              case hQ33 => exact fun _ _ _ h => h
              simp only [Act.put, List.setIfInBounds_toArray, List.set_cons_zero, List.set_cons_succ]
              refine takeH (oi := ?oi34) 25 43 (str YK) ?hi34 ?hd34 ?hw34 ?hy34 (by kernel_rfl) (by kernel_rfl) (by kernel_rfl) ?hQ34 (by assumption) ?_
              case hi34 => simp only [List.getElem?_toArray, List.getElem?_cons_zero, List.getElem?_cons_succ]; rfl
              case hd34 => rfl
              case hw34 => rfl
              case hy34 => (intro w hSw; have d2 := LD.out w hSw.2.2; clear hSw; go_simp)
              case hQ34 => exact fun _ _ _ h => h
              simp only [Act.put, List.setIfInBounds_toArray, List.set_cons_zero, List.set_cons_succ]
              refine takeH (oi := ?oi35) 26 44 (.slice (some ⟨b, off, none⟩) n c) ?hi35 ?hd35 ?hw35 ?hy35 (by kernel_rfl) (by kernel_rfl) (by kernel_rfl) ?hQ35 (by assumption) ?_
              case hi35 => simp only [List.getElem?_toArray, List.getElem?_cons_zero, List.getElem?_cons_succ]; rfl
              case hd35 => rfl
              case hw35 => rfl
              case hy35 => (intro w hSw; (try dsimp only at hSw); go_simp)
              case hQ35 => exact fun _ _ _ h => h
              simp only [Act.put, List.setIfInBounds_toArray, List.set_cons_zero, List.set_cons_succ]
              refine takeH (oi := ?oi36) 27 45 (.int .i64 (j : Int)) ?hi36 ?hd36 ?hw36 ?hy36 (by kernel_rfl) (by kernel_rfl) (by kernel_rfl) ?hQ36 (by assumption) ?_
              case hi36 => simp only [List.getElem?_toArray, List.getElem?_cons_zero, List.getElem?_cons_succ]; rfl
              case hd36 => rfl
              case hw36 => rfl
              case hy36 => (intro w hSw; (try dsimp only at hSw); go_simp)
              case hQ36 => exact fun _ _ _ h => h
              simp only [Act.put, List.setIfInBounds_toArray, List.set_cons_zero, List.set_cons_succ]
              refine takeH (oi := ?oi37) 28 46 (.pointer (some ⟨b, off + j * 4, none⟩)) ?hi37 ?hd37 ?hw37 ?hy37 (by kernel_rfl) (by kernel_rfl) (by kernel_rfl) ?hQ37 (by assumption) ?_
              case hi37 => simp only [List.getElem?_toArray, List.getElem?_cons_zero, List.getElem?_cons_succ]; rfl
              case hd37 => rfl
              case hw37 => rfl
              case hy37 => (intro w hSw; (try dsimp only at hSw); go_simp)
              case hQ37 => exact fun _ _ _ h => h
              simp only [Act.put, List.setIfInBounds_toArray, List.set_cons_zero, List.set_cons_succ]
              refine takeH (oi := ?oi38) 29 47 (.pointer (some ⟨b, off + j * 4, none⟩)) ?hi38 ?hd38 ?hw38 ?hy38 (by kernel_rfl) (by kernel_rfl) (by kernel_rfl) ?hQ38 (by assumption) ?_
              case hi38 => simp only [List.getElem?_toArray, List.getElem?_cons_zero, List.getElem?_cons_succ]; rfl
              case hd38 => rfl
              case hw38 => rfl
              case hy38 => (intro w hSw; (try dsimp only at hSw); go_simp)
              case hQ38 => exact fun _ _ _ h => h
              simp only [Act.put, List.setIfInBounds_toArray, List.set_cons_zero, List.set_cons_succ]
              refine takeH (oi := ?oi39) 30 48 (str K) ?hi39 ?hd39 ?hw39 ?hy39 (by kernel_rfl) (by kernel_rfl) (by kernel_rfl) ?hQ39 (by assumption) ?_
              case hi39 => simp only [List.getElem?_toArray, List.getElem?_cons_zero, List.getElem?_cons_succ]; rfl
              case hd39 => rfl
              case hw39 => rfl
              case hy39 => (intro w hSw; (try dsimp only at hSw); go_simp)
              case hQ39 => exact fun _ _ _ h => h
              simp only [Act.put, List.setIfInBounds_toArray, List.set_cons_zero, List.set_cons_succ]
              refine takeH (oi := ?oi40) 31 49 (.bool (!(YK == K))) ?hi40 ?hd40 ?hw40 ?hy40 (by kernel_rfl) (by kernel_rfl) (by kernel_rfl) ?hQ40 (by assumption) ?_
              case hi40 => simp only [List.getElem?_toArray, List.getElem?_cons_zero, List.getElem?_cons_succ]; rfl
              case hd40 => rfl
              case hw40 => rfl
              case hy40 => (intro w hSw; (try dsimp only at hSw); go_simp)
              case hQ40 => exact fun _ _ _ h => h
              simp only [Act.put, List.setIfInBounds_toArray, List.set_cons_zero, List.set_cons_succ]
              refine takeH (oi := ?oi41) 32 50 (.bool (!(YK == K))) ?hi41 ?hd41 ?hw41 ?hy41 (by kernel_rfl) (by kernel_rfl) (by kernel_rfl) ?hQ41 (by assumption) ?_
              case hi41 => simp only [List.getElem?_toArray, List.getElem?_cons_zero, List.getElem?_cons_succ]; rfl
              case hd41 => rfl
              case hw41 => rfl
              case hy41 => (intro w hSw; (try dsimp only at hSw); go_simp)
              case hQ41 => exact fun _ _ _ h => h
              simp only [Act.put, List.setIfInBounds_toArray, List.set_cons_zero, List.set_cons_succ]
              refine takeH (oi := ?oi42) 33 51 (.bool (!(YK == K))) ?hi42 ?hd42 ?hw42 ?hy42 (by kernel_rfl) (by kernel_rfl) (by kernel_rfl) ?hQ42 (by assumption) ?_
              case hi42 => simp only [List.getElem?_toArray, List.getElem?_cons_zero, List.getElem?_cons_succ]; rfl
              case hd42 => rfl
              case hw42 => rfl
              case hy42 => (intro w hSw; (try dsimp only at hSw); go_simp)
              case hQ42 => exact fun _ _ _ h => h
              simp only [Act.put, List.setIfInBounds_toArray, List.set_cons_zero, List.set_cons_succ]
              refine wpAnyH_done (by kernel_rfl) ?_ _
              go_wp2_with (fail)
              go_meet
              case rel => exact ⟨by rw [HB2.out], B2⟩
      case rest =>
        obtain ⟨rfl, b4⟩ := hcut
        have o4 := hide (own_after O.out b4)
        have B4 := bx.trans (b4.mono bx.size)
        obtain ⟨d0, d1, d2, d3⟩ := CE.out _ B4
        have HT : Hid (Mm.told seq (Mm.spanL f t (l.take (j + 1))) = if tb then out ++ [⟨K, V, Q, D⟩] else out) := by
          show _ = _
          rw [TS.out, TB.out]
          cases ib with
          | false => rfl
          | true =>
            by_cases hs : Q ≤ seq
            · cases hT : toldB out ⟨K, V, Q, D⟩ with
              | true => rw [if_pos rfl, tell_no (.inr hT)]; simp
              | false => rw [if_pos rfl, tell_yes hs hT, decide_eq_true hs]; rfl
            · rw [if_pos rfl, tell_no (.inl hs), decide_eq_false hs]; rfl
        have CN : Hid (∀ W : World, ∀ B, B = W.heap.size → ∀ i u, (ecs [⟨K, V, Q, D⟩])[i]? = some u → (W.alloc (.cells #[str K, str V, .int .i64 Q, .bool D] 38)).cell? ((⟨B, 0, none⟩ : Addr).add i) = some u) := fun W B hB => ec_new W ⟨K, V, Q, D⟩ B hB
        have HL : Hid ((ecs [⟨K, V, Q, D⟩]).length = 1 * 4) := rfl
        have HO : Hid (∀ u ∈ ecs [⟨K, V, Q, D⟩], u.oneCell' = true) := ecs_one _
        have Z1 : Hid (out.length + 1 ≤ maxLen) := by show _ ≤ _; unfold maxLen; omega
        have Z2 : Hid ((out.length + 1) * 48 ≤ 140737488355328) := by show _ ≤ _; omega
        clear O o b4 TS TB KC CE IX p0 p2 p4 p5
        cases tb with
        | false =>
          go_wp2_with (fail)
          refine ⟨⟨j + 1, by omega, by go_num, B4, ?_⟩, by simp [intOf]; omega⟩
          rw [HT.out]
          exact o4.out
        | true =>
          go_wp2_with (first
            | (at_builtin; refine wpList_append_lies _ rfl _ _ 23 rfl W.heap.size 38 i0 _ 4 48 Try.underlying23 hi hz0 hz1 hz2 rfl (by decide) _ out.length _ rfl (o4.out.alloc _) ⟨wc.heap.size, 0, none⟩ 1 1 (ecs [⟨K, V, Q, D⟩]) rfl HL.out (CN.out _ _ rfl) HO.out (by decide) Z1.out Z2.out (by have := B4.size; simp; omega) _ rfl ?_; intro g6 cap6 w6 o6 h6 l6 lt6))
          have B6 : Below W.heap.size W w6 := (B4.alloc B4.size _).grown h6 (by have := B4.size; simp; omega) (fun k hk => (o4.out.lt k hk).1)
          refine ⟨⟨j + 1, by omega, by go_num, B6, ?_⟩, by simp [intOf]; omega⟩
          rw [HT.out, if_pos rfl, List.length_append, ecs_append]
          exact o6
    · have e : j = n := by omega
      subst e
      have i3 : ¬ (j : Int) < (j : Int) := by omega
      rw [List.take_of_length_le (by have := HN.out; omega)] at o
      clear HA IN
      go_wp2_with (fail)
      go_ret
      exact ⟨_, rfl, own_lift o (by have := WZ.out; omega), HB.out.trans (bx.mono HB.out.size)⟩
end Go.Proofs.Ytbdgdigpnfpnhaa.Q
namespace Go.Proofs.Ytbdgdigpnfpnhaa.Q
open Go.RowKit
namespace Bk
open Mm

/-- May somebody who asks at s still see x? -/
def askB (l : List Ent) (x : Ent) (s : Int) : Bool := match l.find? (visP x.key s) with | some y => decide (y.seq = x.seq) | none => false
def stayF (l : List Ent) (keep : List Int) (x : Ent) : Bool := askB l x 1073741824 || keep.any (askB l x)
/-- What is left, the last one first. -/
def restR : List Ent → List Ent
  | [] => []
  | x :: r => if !x.del || decide ((restR r).getLast?.map (·.key) = some x.key) then restR r ++ [x] else restR r

theorem rest_le : ∀ l : List Ent, (restR l).length ≤ l.length
  | [] => Nat.le_refl _
  | x :: r => by
    have := rest_le r
    rw [restR]
    split
    · simp only [List.length_append, List.length_cons, List.length_nil]
      omega
    · rw [List.length_cons]
      omega
theorem ask_stay {q r : List Ent} {x : Ent} (h : Up (q ++ x :: r)) (s : Int) : askB (q ++ x :: r) x s = (decide (x.seq ≤ s) && (match q.getLast? with | none => true | some p => !decide (p.key = x.key) || decide (s < p.seq))) := by
  have hq : ∀ p ∈ q, Mm.ahead p x = true := fun p hp => (List.pairwise_append.1 h).2.2 p hp x (by simp)
  unfold askB
  rw [List.find?_append]
  by_cases hs : x.seq ≤ s
  · have hx : visP x.key s x = true := by unfold visP; simp [hs]
    cases hf : q.find? (visP x.key s) with
    | some y =>
      have hy := List.mem_of_find?_eq_some hf
      have hv := List.find?_some hf
      unfold visP at hv
      simp only [Bool.and_eq_true, decide_eq_true_eq] at hv
      have hyx : x.seq < y.seq := by
        rcases Mm.ahead_key (hq y hy) with ⟨_, h4⟩ | h4
        · exact h4
        · rw [hv.1, Mm.bl_irrefl] at h4; cases h4
      have e1 : decide (y.seq = x.seq) = false := by rw [decide_eq_false]; omega
      simp only [Option.some_or, e1]
      symm
      rw [Bool.and_eq_false_iff]
      right
      cases hg : q.getLast? with
      | none => rw [List.getLast?_eq_none_iff] at hg; rw [hg] at hy; cases hy
      | some p =>
        obtain ⟨q', rfl⟩ : ∃ q', q = q' ++ [p] := by
          obtain ⟨q', hq'⟩ := List.getLast?_eq_some_iff.1 hg
          exact ⟨q', hq'⟩
        have hpx := hq p (by simp)
        have hpk : p.key = x.key ∧ p.seq ≤ s := by
          rcases List.mem_append.1 hy with hy' | hy'
          · have hyp : Mm.ahead y p = true := (List.pairwise_append.1 (List.pairwise_append.1 h).1).2.2 y hy' p (by simp)
            rcases Mm.ahead_key hyp with ⟨h5, h6⟩ | h5
            · exact ⟨by rw [← h5, hv.1], by omega⟩
            · rcases Mm.ahead_key hpx with ⟨h7, _⟩ | h7
              · rw [h7, hv.1, Mm.bl_irrefl] at h5; cases h5
              · have := Mm.bl_trans h5 h7
                rw [hv.1, Mm.bl_irrefl] at this; cases this
          · rw [List.mem_singleton] at hy'
            rw [← hy']
            exact hv
        simp only [hpk.1, decide_true, Bool.not_true, Bool.false_or]
        rw [decide_eq_false]
        omega
    | none =>
      have hn := List.find?_eq_none.1 hf
      simp only [Option.none_or, List.find?_cons, hx, decide_true]
      symm
      rw [decide_eq_true hs, Bool.true_and]
      cases hg : q.getLast? with
      | none => rfl
      | some p =>
        have hp := List.mem_of_getLast? hg
        have := hn p hp
        unfold visP at this
        by_cases hk : p.key = x.key
        · simp only [hk, decide_true, Bool.true_and, decide_eq_true_eq, Bool.not_true, Bool.false_or] at this ⊢
          omega
        · simp [hk]
  · rw [decide_eq_false hs, Bool.false_and]
    cases hf : (q.find? (visP x.key s)).or ((x :: r).find? (visP x.key s)) with
    | none => rfl
    | some y =>
      have hv : visP x.key s y = true := by
        rw [← List.find?_append] at hf
        exact List.find?_some hf
      unfold visP at hv
      simp only [Bool.and_eq_true, decide_eq_true_eq] at hv
      show decide (y.seq = x.seq) = false
      rw [decide_eq_false]
      omega
theorem stays_is {q r : List Ent} {x : Ent} (h : Up (q ++ x :: r)) (keep : List Int) : staysB (1073741824 :: keep) q.getLast? x = stayF (q ++ x :: r) keep x := by
  unfold staysB stayF
  rw [List.any_cons, ask_stay h]
  congr 1
  refine congrArg (List.any keep) (funext fun s => (ask_stay h s).symm)
theorem fold_ref {l0 : List Ent} (hu : Up l0) (keep : List Int) (last : Bool) : ∀ (m q : List Ent), q ++ m = l0 → foldR (1073741824 :: keep) last q.getLast? m = if last then (restR (m.filter (stayF l0 keep))).reverse else m.filter (stayF l0 keep)
  | [], q, _ => by cases last <;> rfl
  | x :: r, q, e => by
    have ih := fold_ref hu keep last r (q ++ [x]) (by rw [← e]; simp)
    rw [last_snoc] at ih
    have hst : staysB (1073741824 :: keep) q.getLast? x = stayF l0 keep x := by
      rw [← e] at hu ⊢
      exact stays_is hu keep
    rw [foldR, hst, ih, List.filter_cons]
    cases hS : stayF l0 keep x
    · simp
    · cases last
      · simp
      · simp only [if_true, Bool.true_and]
        rw [restR, List.head?_reverse]
        cases hd : x.del
        · simp
        · by_cases hk : (restR (List.filter (stayF l0 keep) r)).getLast?.map (·.key) = some x.key
          · simp [hk]
          · simp [hk]
end Bk
end Go.Proofs.Ytbdgdigpnfpnhaa.Q
