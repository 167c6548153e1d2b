/-
  The latest version of a key up to a number, among the entries that were added, in plain words.
-/
import Derived.Test.YtaadcpmapdbodaaMScanP
namespace Go.Proofs.Ytaadcpmapdbodaa
namespace Mm

structure Best (l : List It) (k : Bs) (s best : Int) : Prop where
  nat : 0 ≤ best
  pos : ∀ x ∈ l.map (·.1), 1 ≤ x.seq
  most : ∀ x ∈ l.map (·.1), x.key = k → x.seq ≤ s → x.seq ≤ best
  one : best = 0 ∨ ∃ x ∈ l.map (·.1), x.key = k ∧ x.seq = best ∧ best ≤ s
theorem best_none (k : Bs) (s : Int) : Best [] k s 0 := ⟨Int.le_refl _, by simp, by simp, .inl rfl⟩
theorem best_not {hs : List Nat} {e : Ent} {l : List It} {k : Bs} {s best : Int} (h : Best l k s best) (ha : addE e l ≠ 0) : Best (addL hs e l) k s best := by
  have : addL hs e l = l := by
    unfold addL
    rw [if_neg]
    intro hh
    rw [Bool.and_eq_true, Bool.not_eq_true'] at hh
    exact ha (add_zero.2 hh)
  rw [this]
  exact h
theorem best_other {hs : List Nat} {e : Ent} {l : List It} {k : Bs} {s best : Int} (h : Best l k s best) (hp : 1 ≤ e.seq) (ha : addE e l = 0) (hn : ¬ (e.key = k ∧ e.seq ≤ s)) : Best (addL hs e l) k s best := by
  have P := add_perm (hs := hs) ha
  refine ⟨h.nat, fun x hx => ?_, fun x hx hk hs => ?_, ?_⟩
  · rcases List.mem_cons.1 (P.mem_iff.1 hx) with rfl | hx
    · exact hp
    · exact h.pos x hx
  · rcases List.mem_cons.1 (P.mem_iff.1 hx) with rfl | hx
    · exact absurd ⟨hk, hs⟩ hn
    · exact h.most x hx hk hs
  · rcases h.one with h0 | ⟨x, hx, h1⟩
    · exact .inl h0
    · exact .inr ⟨x, P.mem_iff.2 (List.mem_cons_of_mem _ hx), h1⟩
theorem best_new {hs : List Nat} {e : Ent} {l : List It} {k : Bs} {s best : Int} (h : Best l k s best) (hp : 1 ≤ e.seq) (ha : addE e l = 0) (hk : e.key = k) (hs' : e.seq ≤ s) : Best (addL hs e l) k s (max best e.seq) := by
  have P := add_perm (hs := hs) ha
  have hn := h.nat
  refine ⟨by omega, fun x hx => ?_, fun x hx hk hs => ?_, ?_⟩
  · rcases List.mem_cons.1 (P.mem_iff.1 hx) with rfl | hx
    · exact hp
    · exact h.pos x hx
  · rcases List.mem_cons.1 (P.mem_iff.1 hx) with rfl | hx
    · omega
    · have := h.most x hx hk hs
      omega
  · rcases (show best < e.seq ∨ e.seq ≤ best by omega) with hlt | hge
    · exact .inr ⟨e, P.mem_iff.2 (by simp), hk, by omega, by omega⟩
    · rcases h.one with h0 | ⟨x, hx, h1, h2, h3⟩
      · omega
      · exact .inr ⟨x, P.mem_iff.2 (List.mem_cons_of_mem _ hx), h1, by omega, by omega⟩

/-- Get answers the latest version up to the number. -/
theorem got_best {l : List It} {k : Bs} {s best : Int} (hS : SortedL l) (h : Best l k s best) :
    (best = 0 ∧ gotL l k s = none) ∨ (0 < best ∧ ∃ y, gotL l k s = some y ∧ y.key = k ∧ y.seq = best) := by
  have hnot := backL_not (e := ⟨k, [], s, false⟩) hS
  have hparts := partsL ⟨k, [], s, false⟩ l
  have hfront : ∀ y ∈ frontL ⟨k, [], s, false⟩ l, ahead y.1 ⟨k, [], s, false⟩ = true := fun y hy => by
    have := List.all_takeWhile (p := fun (x : It) => ahead x.1 ⟨k, [], s, false⟩) (l := l)
    exact List.all_eq_true.1 this y hy
  have hup : SortedL (backL ⟨k, [], s, false⟩ l) := List.Pairwise.sublist (List.dropWhile_sublist _) hS
  have hin : ∀ y ∈ backL ⟨k, [], s, false⟩ l, y ∈ l := fun y hy => by rw [← hparts]; exact List.mem_append_right _ hy
  have hle : ∀ y ∈ backL ⟨k, [], s, false⟩ l, y.1.key = k → y.1.seq ≤ s := fun y hy hk => by
    have := hnot y hy
    unfold ahead at this
    rw [if_pos hk] at this
    have := of_decide_eq_false this
    exact Int.not_lt.1 this
  rcases h.one with h0 | ⟨x, hx, hk, hsq, hbs⟩
  · refine .inl ⟨h0, ?_⟩
    unfold gotL
    cases hb : (backL ⟨k, [], s, false⟩ l).head? with
    | none => rfl
    | some y =>
      have hy := List.mem_of_head? hb
      show (if y.1.key = k then some y.1 else none) = none
      rw [if_neg]
      intro hk
      have h1 := h.most y.1 (List.mem_map.2 ⟨y, hin y hy, rfl⟩) hk (hle y hy hk)
      have h2 := h.pos y.1 (List.mem_map.2 ⟨y, hin y hy, rfl⟩)
      omega
  · have hpos := h.pos x hx
    obtain ⟨x', hx', rfl⟩ := List.mem_map.1 hx
    have hxe : ahead x'.1 ⟨k, [], s, false⟩ = false := by
      unfold ahead
      rw [if_pos hk]
      exact decide_eq_false (by show ¬ s < x'.1.seq; omega)
    have hxb : x' ∈ backL ⟨k, [], s, false⟩ l := by
      rw [← hparts] at hx'
      rcases List.mem_append.1 hx' with hf | hb
      · rw [hfront x' hf] at hxe; cases hxe
      · exact hb
    refine .inr ⟨by omega, ?_⟩
    unfold gotL
    generalize backL ⟨k, [], s, false⟩ l = B at *
    cases B with
    | nil => cases hxb
    | cons y r =>
      have hy : y ∈ y :: r := by simp
      have hkey : y.1.key = k ∧ x'.1.seq ≤ y.1.seq := by
        rcases List.mem_cons.1 hxb with rfl | hr
        · exact ⟨hk, Int.le_refl _⟩
        · have ha := (List.pairwise_cons.1 hup).1 x' hr
          rcases ahead_key ha with ⟨h1, h2⟩ | h2
          · exact ⟨h1.trans hk, by omega⟩
          · exfalso
            have hh := hnot y hy
            unfold ahead at hh
            rw [hk] at h2
            by_cases e : y.1.key = k
            · rw [e, bl_irrefl] at h2; cases h2
            · rw [if_neg e] at hh
              rw [show Op.bytesLess y.1.key k = true from h2] at hh
              cases hh
      refine ⟨y.1, ?_, hkey.1, ?_⟩
      · show (if y.1.key = k then some y.1 else none) = some y.1
        rw [if_pos hkey.1]
      · have h1 := h.most y.1 (List.mem_map.2 ⟨y, hin y hy, rfl⟩) hkey.1 (hle y hy hkey.1)
        omega
end Mm
end Go.Proofs.Ytaadcpmapdbodaa
