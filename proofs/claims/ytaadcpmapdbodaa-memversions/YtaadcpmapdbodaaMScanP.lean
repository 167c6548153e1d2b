/-
  What a scan tells, in plain words; and what Get answers of the entries that were added; nothing here speaks of the program.
-/
import Derived.Test.YtaadcpmapdbodaaMOrdP
import Derived.Test.YtaadcpmapdbodaaMIn
namespace Go.Proofs.Ytaadcpmapdbodaa
namespace Mm

/-- One entry more is looked at. -/
def tell (seq : Int) (out : List Ent) (x : Ent) : List Ent := if x.seq ≤ seq ∧ (out.getLast?.map (·.key)) ≠ some x.key then out ++ [x] else out
def told (seq : Int) (l : List Ent) : List Ent := l.foldl (tell seq) []
theorem told_snoc (seq : Int) (l : List Ent) (x : Ent) : told seq (l ++ [x]) = tell seq (told seq l) x := by
  unfold told
  rw [List.foldl_append]
  rfl
/-- The entries of a span, in a table's order. -/
def spanE (lo hi : Bs) (l : List It) : List Ent := ((backL ⟨lo, [], 1073741824, false⟩ l).map (·.1)).takeWhile fun x => inB x.key lo hi

structure Told (seq : Int) (l out : List Ent) : Prop where
  mem : ∀ y ∈ out, y ∈ l ∧ y.seq ≤ seq
  up : out.Pairwise fun a b => Op.bytesLess a.key b.key = true
  all : ∀ x ∈ l, x.seq ≤ seq → ∃ y ∈ out, y.key = x.key ∧ x.seq ≤ y.seq
theorem ahead_key {a b : Ent} (h : ahead a b = true) : a.key = b.key ∧ b.seq < a.seq ∨ Op.bytesLess a.key b.key = true := by
  unfold ahead at h
  split at h
  · rename_i hk
    exact .inl ⟨hk, of_decide_eq_true h⟩
  · exact .inr h
theorem told_ok (seq : Int) (l : List Ent) (h : Up l) : Told seq l (told seq l) := by
  suffices H : ∀ r : List Ent, Up r.reverse → Told seq r.reverse (told seq r.reverse) by
    have := H l.reverse (by rw [List.reverse_reverse]; exact h)
    rwa [List.reverse_reverse] at this
  intro r
  induction r with
  | nil => intro _; exact ⟨by simp [told], by simp [told], by simp⟩
  | cons x r ih =>
    intro hu
    rw [List.reverse_cons] at hu ⊢
    generalize r.reverse = m at ih hu ⊢
    obtain ⟨u1, _, u3⟩ := List.pairwise_append.1 hu
    obtain ⟨t1, t2, t3⟩ := ih u1
    rw [told_snoc]
    generalize told seq m = out at t1 t2 t3 ⊢
    have hax : ∀ y ∈ out, ahead y x = true := fun y hy => u3 y (t1 y hy).1 x (by simp)
    unfold tell
    by_cases hs : x.seq ≤ seq
    · by_cases hl : (out.getLast?.map (·.key)) = some x.key
      · rw [if_neg (by simp [hl])]
        refine ⟨fun y hy => ⟨List.mem_append_left _ (t1 y hy).1, (t1 y hy).2⟩, t2, fun z hz hzs => ?_⟩
        rcases List.mem_append.1 hz with hz | hz
        · exact t3 z hz hzs
        · obtain rfl := List.mem_singleton.1 hz
          cases hg : out.getLast? with
          | none => rw [hg] at hl; cases hl
          | some y =>
            rw [hg] at hl
            have hk : y.key = z.key := Option.some.inj hl
            have hy := List.mem_of_getLast? hg
            refine ⟨y, hy, hk, ?_⟩
            rcases ahead_key (hax y hy) with ⟨_, h2⟩ | h2
            · omega
            · rw [hk, bl_irrefl] at h2; cases h2
      · rw [if_pos ⟨hs, hl⟩]
        refine ⟨fun y hy => ?_, ?_, fun z hz hzs => ?_⟩
        · rcases List.mem_append.1 hy with hy | hy
          · exact ⟨List.mem_append_left _ (t1 y hy).1, (t1 y hy).2⟩
          · obtain rfl := List.mem_singleton.1 hy
            exact ⟨by simp, hs⟩
        · refine List.pairwise_append.2 ⟨t2, by simp, fun a ha b hb => ?_⟩
          obtain rfl := List.mem_singleton.1 hb
          rcases ahead_key (hax a ha) with ⟨h1, _⟩ | h2
          · exfalso
            rcases List.eq_nil_or_concat out with rfl | ⟨o', y, rfl⟩
            · cases ha
            · rw [List.concat_eq_append] at *
              have hg : (o' ++ [y]).getLast? = some y := by simp
              rw [hg] at hl
              have hne : ¬ y.key = b.key := fun e => hl (by simp [e])
              rcases List.mem_append.1 ha with ha | ha
              · have q1 := (List.pairwise_append.1 t2).2.2 a ha y (by simp)
                rcases ahead_key (hax y (by simp)) with ⟨h3, _⟩ | h3
                · exact hne h3
                · have := bl_trans q1 h3
                  rw [h1, bl_irrefl] at this
                  cases this
              · obtain rfl := List.mem_singleton.1 ha
                exact hne h1
          · exact h2
        · rcases List.mem_append.1 hz with hz | hz
          · obtain ⟨y, hy, h⟩ := t3 z hz hzs
            exact ⟨y, List.mem_append_left _ hy, h⟩
          · obtain rfl := List.mem_singleton.1 hz
            exact ⟨z, by simp, rfl, Int.le_refl _⟩
    · rw [if_neg (by omega)]
      refine ⟨fun y hy => ⟨List.mem_append_left _ (t1 y hy).1, (t1 y hy).2⟩, t2, fun z hz hzs => ?_⟩
      rcases List.mem_append.1 hz with hz | hz
      · exact t3 z hz hzs
      · obtain rfl := List.mem_singleton.1 hz
        exact absurd hzs hs
/-- At a greater number no older version is told. -/
theorem told_more {s1 s2 : Int} (hs : s1 ≤ s2) {l : List Ent} (h : Up l) : ∀ x ∈ told s1 l, ∃ y ∈ told s2 l, y.key = x.key ∧ x.seq ≤ y.seq := fun x hx => by
  obtain ⟨h1, h2⟩ := (told_ok s1 l h).mem x hx
  exact (told_ok s2 l h).all x h1 (by omega)
theorem told_len (seq : Int) (l : List Ent) : (told seq l).length ≤ l.length := by
  suffices H : ∀ (l out : List Ent), (l.foldl (tell seq) out).length ≤ out.length + l.length by
    have := H l []
    simpa [told] using this
  intro l
  induction l with
  | nil => intro out; simp
  | cons x r ih =>
    intro out
    have h1 := ih (tell seq out x)
    have h2 : (tell seq out x).length ≤ out.length + 1 := by unfold tell; split <;> simp
    rw [List.foldl_cons, List.length_cons]
    omega
theorem span_up {lo hi : Bs} {l : List It} (h : SortedL l) : Up (spanE lo hi l) := by
  refine List.Pairwise.sublist (List.takeWhile_sublist _) (up_map ?_)
  exact List.Pairwise.sublist (List.dropWhile_sublist _) h
theorem span_len (lo hi : Bs) (l : List It) : (spanE lo hi l).length ≤ l.length := by
  have h1 := (List.takeWhile_sublist (l := (backL ⟨lo, [], 1073741824, false⟩ l).map (·.1)) fun x => inB x.key lo hi).length_le
  have h2 : (backL ⟨lo, [], 1073741824, false⟩ l).length ≤ l.length := (List.dropWhile_sublist _).length_le
  rw [List.length_map] at h1
  unfold spanE
  omega
/-- Where one looks next, in a list whose keys rise and that has the key. -/
theorem lookK (high : List Ent) (x : Ent) (k : Nat) (hu : high.Pairwise fun a b => Op.bytesLess a.key b.key = true) (hy : ∃ y ∈ high, y.key = x.key ∧ x.seq ≤ y.seq) (hk : ∀ j (h : j < high.length), j < k → Op.bytesLess high[j].key x.key = true) :
    ∃ h : k < high.length, Op.bytesLess high[k].key x.key = true ∨ (high[k].key = x.key ∧ x.seq ≤ high[k].seq) := by
  obtain ⟨y, hm, e, hs⟩ := hy
  obtain ⟨q, hq, rfl⟩ := List.mem_iff_getElem.1 hm
  have hkq : k ≤ q := by
    rcases Nat.lt_or_ge q k with h | h
    · have := hk q hq h
      rw [e, bl_irrefl] at this
      cases this
    · exact h
  refine ⟨by omega, ?_⟩
  rcases Nat.lt_or_eq_of_le hkq with h | h
  · have := List.pairwise_iff_getElem.1 hu k q (by omega) hq h
    rw [e] at this
    exact .inl this
  · subst h; exact .inr ⟨e, hs⟩
end Mm
end Go.Proofs.Ytaadcpmapdbodaa
