/-
  Whether a key is in a span; and what is visible of entries in order, in plain words.
-/
import Derived.Test.YtbdgdigpnfpnhaaKE
namespace Go.Proofs.Ytbdgdigpnfpnhaa.Q
open Go.RowKit
namespace Mm
def inB (k lo hi : Bs) : Bool := !Op.bytesLess k lo && (decide (hi = []) || Op.bytesLess k hi)
end Mm
set_option maxRecDepth 10000 in
set_option maxHeartbeats 1600000 in
theorem in_any (w : World) (k lo hi : Mm.Bs) : Calls Try.prog 55 #[str k, .agg #[str lo, str hi]] w fun e w' => e = .returned (.bool (Mm.inB k lo hi)) ∧ Below w.heap.size w w' := by
  unfold Mm.inB
  cases h1 : Op.bytesLess k lo with
  | true =>
    go_enter Try.func55, Try.ntmps55
    go_wp2_with (fail)
    go_ret
    exact ⟨rfl, (Below.refl _ _).alloc (Nat.le_refl _) _⟩
  | false =>
    cases hi with
    | nil =>
      go_enter Try.func55, Try.ntmps55
      go_wp2_with (fail)
      go_ret
      exact ⟨rfl, (Below.refl _ _).alloc (Nat.le_refl _) _⟩
    | cons c r =>
      cases h2 : Op.bytesLess k (c :: r) with
      | true =>
        go_enter Try.func55, Try.ntmps55
        go_wp2_with (fail)
        go_ret
        exact ⟨by simp, (Below.refl _ _).alloc (Nat.le_refl _) _⟩
      | false =>
        go_enter Try.func55, Try.ntmps55
        go_wp2_with (fail)
        go_ret
        exact ⟨by simp, (Below.refl _ _).alloc (Nat.le_refl _) _⟩
namespace Mm
def Up (l : List Ent) : Prop := l.Pairwise fun a b => ahead a b = true
/-- One entry more is looked at. -/
def tell (seq : Int) (out : List Ent) (x : Ent) : List Ent := if x.seq ≤ seq ∧ (out.getLast?.map (·.key)) ≠ some x.key then out ++ [x] else out
def told (seq : Int) (l : List Ent) : List Ent := l.foldl (tell seq) []
theorem told_snoc (seq : Int) (l : List Ent) (x : Ent) : told seq (l ++ [x]) = tell seq (told seq l) x := by
  unfold told
  rw [List.foldl_append]
  rfl
structure Told (seq : Int) (l out : List Ent) : Prop where
  mem : ∀ y ∈ out, y ∈ l ∧ y.seq ≤ seq
  up : out.Pairwise fun a b => Op.bytesLess a.key b.key = true
  all : ∀ x ∈ l, x.seq ≤ seq → ∃ y ∈ out, y.key = x.key ∧ x.seq ≤ y.seq
theorem ahead_key {a b : Ent} (h : ahead a b = true) : a.key = b.key ∧ b.seq < a.seq ∨ Op.bytesLess a.key b.key = true := by
  unfold ahead at h
  split at h
  · rename_i hk
    exact .inl ⟨hk, of_decide_eq_true h⟩
  · exact .inr h
theorem told_ok (seq : Int) (l : List Ent) (h : Up l) : Told seq l (told seq l) := by
  suffices H : ∀ r : List Ent, Up r.reverse → Told seq r.reverse (told seq r.reverse) by
    have := H l.reverse (by rw [List.reverse_reverse]; exact h)
    rwa [List.reverse_reverse] at this
  intro r
  induction r with
  | nil => intro _; exact ⟨by simp [told], by simp [told], by simp⟩
  | cons x r ih =>
    intro hu
    rw [List.reverse_cons] at hu ⊢
    generalize r.reverse = m at ih hu ⊢
    obtain ⟨u1, _, u3⟩ := List.pairwise_append.1 hu
    obtain ⟨t1, t2, t3⟩ := ih u1
    rw [told_snoc]
    generalize told seq m = out at t1 t2 t3 ⊢
    have hax : ∀ y ∈ out, ahead y x = true := fun y hy => u3 y (t1 y hy).1 x (by simp)
    unfold tell
    by_cases hs : x.seq ≤ seq
    · by_cases hl : (out.getLast?.map (·.key)) = some x.key
      · rw [if_neg (by simp [hl])]
        refine ⟨fun y hy => ⟨List.mem_append_left _ (t1 y hy).1, (t1 y hy).2⟩, t2, fun z hz hzs => ?_⟩
        rcases List.mem_append.1 hz with hz | hz
        · exact t3 z hz hzs
        · obtain rfl := List.mem_singleton.1 hz
          cases hg : out.getLast? with
          | none => rw [hg] at hl; cases hl
          | some y =>
            rw [hg] at hl
            have hk : y.key = z.key := Option.some.inj hl
            have hy := List.mem_of_getLast? hg
            refine ⟨y, hy, hk, ?_⟩
            rcases ahead_key (hax y hy) with ⟨_, h2⟩ | h2
            · omega
            · rw [hk, bl_irrefl] at h2; cases h2
      · rw [if_pos ⟨hs, hl⟩]
        refine ⟨fun y hy => ?_, ?_, fun z hz hzs => ?_⟩
        · rcases List.mem_append.1 hy with hy | hy
          · exact ⟨List.mem_append_left _ (t1 y hy).1, (t1 y hy).2⟩
          · obtain rfl := List.mem_singleton.1 hy
            exact ⟨by simp, hs⟩
        · refine List.pairwise_append.2 ⟨t2, by simp, fun a ha b hb => ?_⟩
          obtain rfl := List.mem_singleton.1 hb
          rcases ahead_key (hax a ha) with ⟨h1, _⟩ | h2
          · exfalso
            rcases List.eq_nil_or_concat out with rfl | ⟨o', y, rfl⟩
            · cases ha
            · rw [List.concat_eq_append] at *
              have hg : (o' ++ [y]).getLast? = some y := by simp
              rw [hg] at hl
              have hne : ¬ y.key = b.key := fun e => hl (by simp [e])
              rcases List.mem_append.1 ha with ha | ha
              · have q1 := (List.pairwise_append.1 t2).2.2 a ha y (by simp)
                rcases ahead_key (hax y (by simp)) with ⟨h3, _⟩ | h3
                · exact hne h3
                · have := bl_trans q1 h3
                  rw [h1, bl_irrefl] at this
                  cases this
              · obtain rfl := List.mem_singleton.1 ha
                exact hne h1
          · exact h2
        · rcases List.mem_append.1 hz with hz | hz
          · obtain ⟨y, hy, h⟩ := t3 z hz hzs
            exact ⟨y, List.mem_append_left _ hy, h⟩
          · obtain rfl := List.mem_singleton.1 hz
            exact ⟨z, by simp, rfl, Int.le_refl _⟩
    · rw [if_neg (by omega)]
      refine ⟨fun y hy => ⟨List.mem_append_left _ (t1 y hy).1, (t1 y hy).2⟩, t2, fun z hz hzs => ?_⟩
      rcases List.mem_append.1 hz with hz | hz
      · exact t3 z hz hzs
      · obtain rfl := List.mem_singleton.1 hz
        exact absurd hzs hs
theorem told_len (seq : Int) (l : List Ent) : (told seq l).length ≤ l.length := by
  suffices H : ∀ (l out : List Ent), (l.foldl (tell seq) out).length ≤ out.length + l.length by
    have := H l []
    simpa [told] using this
  intro l
  induction l with
  | nil => intro out; simp
  | cons x r ih =>
    intro out
    have h1 := ih (tell seq out x)
    have h2 : (tell seq out x).length ≤ out.length + 1 := by unfold tell; split <;> simp
    rw [List.foldl_cons, List.length_cons]
    omega

theorem told_key {l : List Ent} (h : Up l) (i j : Nat) (hij : i ≤ j) (hj : j < l.length) (f : Bs) (hf : Op.bytesLess l[j].key f = true) : Op.bytesLess (l[i]'(by omega)).key f = true := by
  rcases Nat.lt_or_eq_of_le hij with h1 | h1
  · have := List.pairwise_iff_getElem.1 h i j (by omega) hj h1
    rcases ahead_key this with ⟨h2, _⟩ | h2
    · rw [h2]; exact hf
    · exact bl_trans h2 hf
  · subst h1; exact hf
/-- What is in a span. -/
def spanL (f t : Bs) (l : List Ent) : List Ent := l.filter fun x => inB x.key f t
theorem inB_mono {a b : Ent} {f t : Bs} (h : ahead a b = true) (hf : Op.bytesLess a.key f = false) (ha : inB a.key f t = false) : inB b.key f t = false := by
  unfold inB at ha ⊢
  rw [hf] at ha
  simp only [Bool.not_false, Bool.true_and, Bool.or_eq_false_iff, decide_eq_false_iff_not] at ha
  obtain ⟨h1, h2⟩ := ha
  have h3 : Op.bytesLess b.key t = false := by
    cases hc : Op.bytesLess b.key t with
    | false => rfl
    | true =>
      rcases ahead_key h with ⟨h4, _⟩ | h4
      · rw [h4, hc] at h2; cases h2
      · have := bl_trans h4 hc; rw [h2] at this; cases this
  rw [h3]
  simp [h1]
theorem span_from (f t : Bs) : ∀ (l : List Ent), Up l → (∀ x ∈ l, Op.bytesLess x.key f = false) → l.takeWhile (fun x => inB x.key f t) = spanL f t l := by
  intro l
  induction l with
  | nil => intro _ _; rfl
  | cons a r ih =>
    intro hu hf
    obtain ⟨u1, u2⟩ := List.pairwise_cons.1 hu
    unfold spanL
    rw [List.takeWhile_cons, List.filter_cons]
    cases hc : inB a.key f t with
    | true => simp only [if_true]; rw [ih u2 (fun x hx => hf x (by simp [hx]))]; rfl
    | false =>
      simp only [Bool.false_eq_true, if_false]
      symm
      rw [List.filter_eq_nil_iff]
      intro x hx
      rw [inB_mono (u1 x hx) (hf a (by simp)) hc]
      simp
theorem span_drop (f t : Bs) (l : List Ent) (hu : Up l) (r : Nat) (_hr : r ≤ l.length) (h1 : ∀ k (h : k < l.length), k < r → Op.bytesLess l[k].key f = true) (h2 : ∀ k (h : k < l.length), r ≤ k → Op.bytesLess l[k].key f = false) :
    (l.drop r).takeWhile (fun x => inB x.key f t) = spanL f t l := by
  rw [span_from f t _ (List.Pairwise.sublist (List.drop_sublist r l) hu) (fun x hx => by
    obtain ⟨k, hk, rfl⟩ := List.mem_iff_getElem.1 hx
    rw [List.getElem_drop]
    rw [List.length_drop] at hk
    exact h2 _ (by omega) (by omega))]
  unfold spanL
  conv => rhs; rw [← List.take_append_drop r l]
  rw [List.filter_append]
  have : (l.take r).filter (fun x => inB x.key f t) = [] := by
    rw [List.filter_eq_nil_iff]
    intro x hx
    obtain ⟨k, hk, rfl⟩ := List.mem_iff_getElem.1 hx
    rw [List.length_take] at hk
    rw [List.getElem_take]
    have := h1 k (by omega) (by omega)
    unfold inB
    rw [this]
    simp
  rw [this, List.nil_append]
end Mm
end Go.Proofs.Ytbdgdigpnfpnhaa.Q
