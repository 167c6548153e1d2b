/-
  The walk of MemOrder: two tables, the entries put in one behind the other, and in another order.
-/
import Derived.Test.YtaadcpmapdbodaaMLives
import Derived.Test.YtaadcpmapdbodaaMOrdP
import Derived.Test.YtaadcpmapdbodaaMSmall
namespace Go.Proofs.Ytaadcpmapdbodaa
open Go.RowKit

theorem ents_entry {w : World} {a : Option Addr} {n cap : Nat} {l : List Mm.Ent} (h : EntsAt w (.slice a n cap) l) (j : Nat) (hj : j < l.length) : ∃ b off, a = some ⟨b, off, none⟩ ∧ w.cell? ⟨b, off + j * 4, none⟩ = some (str l[j].key) ∧ w.cell? ⟨b, off + j * 4 + 1, none⟩ = some (str l[j].value) ∧ w.cell? ⟨b, off + j * 4 + 2, none⟩ = some (.int .i64 l[j].seq) ∧ w.cell? ⟨b, off + j * 4 + 3, none⟩ = some (.bool l[j].del) := by
  obtain ⟨b, off, rfl⟩ := h.some (by omega)
  exact ⟨b, off, rfl, h.cells j hj⟩

/-- How it stands while the first table is filled. -/
structure Ord1 (w0 : World) (l : List Mm.Ent) (t u N2 N3 N4 j : Nat) (wr : World) : Prop where
  tab : ∃ L, TabS (fun i => (N2 ≤ i ∧ i < N3) ∨ N4 ≤ i) wr t [3, 1, 2, 1, 12] L ∧ (L.map (·.1)).Perm (l.take j)
  may : ∀ x ∈ l.take j, Mm.may x = true
  oth : TabS (fun i => N3 ≤ i ∧ i < N4) wr u [] []
  big : N4 ≤ wr.heap.size
  bel : Below w0.heap.size w0 wr
/-- And the second one. -/
structure Ord2 (w0 : World) (l : List Mm.Ent) (f : Nat) (L : List Mm.It) (t u N2 N3 N4 N5 j : Nat) (wr : World) : Prop where
  tab : ∃ M, TabS (fun i => (N3 ≤ i ∧ i < N4) ∨ N5 ≤ i) wr u [] M ∧ (M.map (·.1)).Perm ((Mm.turned l f).take j)
  oth : TabS (fun i => ((N2 ≤ i ∧ i < N3) ∨ N4 ≤ i) ∧ i < N5) wr t [3, 1, 2, 1, 12] L
  big : N5 ≤ wr.heap.size
  bel : Below w0.heap.size w0 wr

theorem perm_len {a b : List Mm.Ent} {n : Nat} (h : a.Perm b) (hb : b.length ≤ n) : a.length ≤ n := by rw [h.length_eq]; exact hb

/-- One entry more, in the first table. -/
theorem ord1_add {w0 : World} {l : List Mm.Ent} {t u N2 N3 N4 j : Nat} {wr : World} (h : Ord1 w0 l t u N2 N3 N4 j wr) (hj : j < l.length) (hl : l.length ≤ 60) (hs : ∀ x ∈ l, x.key.length ≤ 600 ∧ x.value.length ≤ 600) (n2 : w0.heap.size ≤ N2) (n3 : N2 ≤ N3) (n4 : N3 ≤ N4) :
    ∃ g, (g = 0 ∨ g = 2 ∨ g = 9) ∧ Calls Try.prog 18 #[.pointer (some ⟨t, 0, none⟩), entV l[j]] wr fun r w' => r = .returned (.int .i64 g) ∧ Below w0.heap.size w0 w' ∧ (g = 0 → Ord1 w0 l t u N2 N3 N4 (j + 1) w') := by
  obtain ⟨L, T, hp⟩ := h.tab
  have hx := hs _ (List.getElem_mem hj)
  have big := h.big
  have hL : L.length ≤ 60 := by
    have := perm_len hp (n := 60) (by rw [List.length_take]; omega)
    simpa using this
  refine ⟨Mm.addE l[j] L, by by_cases h0 : Mm.addE l[j] L = 0; exact .inl h0; exact .inr (Mm.add_three h0), ?_⟩
  refine (add_s T (fun i hi => by omega) l[j] (by omega) (by simp) (by omega) (by omega)).mono ?_
  rintro r w' ⟨rfl, T', mv⟩
  have bel : Below w0.heap.size w0 w' := h.bel.trans (mv.under h.bel.size (fun i hi => by omega))
  refine ⟨rfl, bel, fun h0 => ?_⟩
  · refine ⟨⟨_, T', ?_⟩, ?_, ?_, by have := mv.size; omega, bel⟩
    · rw [List.take_succ_eq_append_getElem hj]
      exact (Mm.add_perm h0).trans ((List.Perm.cons _ hp).trans (List.perm_append_comm (l₁ := [l[j]])))
    · intro x hx
      rw [List.take_succ_eq_append_getElem hj] at hx
      rcases List.mem_append.1 hx with hx | hx
      · exact h.may x hx
      · rw [List.mem_singleton.1 hx]; exact (Mm.add_zero.1 h0).1
    · exact h.oth.other mv (fun i _ hi hr => by omega)

/-- One entry more, in the second table. -/
theorem ord2_add {w0 : World} {l : List Mm.Ent} {f : Nat} {L : List Mm.It} {t u N2 N3 N4 N5 j : Nat} {wr : World} (h : Ord2 w0 l f L t u N2 N3 N4 N5 j wr) (hj : j < l.length) (hf : f < l.length) (hl : l.length ≤ 60) (hs : ∀ x ∈ l, x.key.length ≤ 600 ∧ x.value.length ≤ 600)
    (hm : ∀ x ∈ l, Mm.may x = true) (ha : Mm.Apart l) (n2 : w0.heap.size ≤ N2) (n3 : N2 ≤ N3) (n4 : N3 ≤ N4) (n5 : N4 ≤ N5) (e : Mm.Ent) (he : l[(f + j) % l.length]? = some e) :
    Calls Try.prog 18 #[.pointer (some ⟨u, 0, none⟩), entV e] wr fun r w' => r = .returned (.int .i64 0) ∧ Ord2 w0 l f L t u N2 N3 N4 N5 (j + 1) w' := by
  obtain ⟨M, T, hp⟩ := h.tab
  have hmem : e ∈ l := List.mem_of_getElem? he
  have hx := hs e hmem
  have big := h.big
  have tl := Mm.turned_len l f
  have hjt : j < (Mm.turned l f).length := by omega
  have et : (Mm.turned l f)[j] = e := by
    have := Mm.turned_get l f j hf hj
    rw [he, List.getElem?_eq_getElem hjt] at this
    exact Option.some.inj this
  have hM : M.length ≤ 60 := by
    have := perm_len hp (n := 60) (by rw [List.length_take]; omega)
    simpa using this
  have h0 : Mm.addE e M = 0 := by
    refine Mm.add_may T.sorted (hm e hmem) fun y hy hsm => ?_
    have hy' : y ∈ (Mm.turned l f).take j := hp.subset hy
    have hap := Mm.apart_perm (Mm.turned_perm l f).symm ha
    rw [← List.take_append_drop j (Mm.turned l f)] at hap
    have := (List.pairwise_append.1 hap).2.2 y hy' e (by rw [← et]; exact List.mem_of_getElem? (i := 0) (by rw [List.getElem?_drop]; exact List.getElem?_eq_getElem hjt))
    exact this ⟨hsm.1.symm, hsm.2.symm⟩
  refine (add_s T (fun i hi => by omega) e (by omega) (by simp) (by omega) (by omega)).mono ?_
  rintro r w' ⟨rfl, T', mv⟩
  rw [h0]
  have bel : Below w0.heap.size w0 w' := h.bel.trans (mv.under h.bel.size (fun i hi => by omega))
  refine ⟨rfl, ⟨⟨_, T', ?_⟩, h.oth.other mv (fun i _ hi hr => by omega), by have := mv.size; omega, bel⟩⟩
  rw [List.take_succ_eq_append_getElem hjt, et]
  exact (Mm.add_perm h0).trans ((List.Perm.cons _ hp).trans (List.perm_append_comm (l₁ := [e])))
theorem small_yes {l : List Mm.Ent} (h : smallB l = true) : l.length ≤ 60 ∧ ∀ x ∈ l, x.key.length ≤ 600 ∧ x.value.length ≤ 600 := by
  unfold smallB at h
  simp only [Bool.and_eq_true, decide_eq_true_eq] at h
  refine ⟨h.2, fun x hx => ?_⟩
  have := List.all_eq_true.1 h.1 x hx
  simpa [shortE] using this

namespace memOrder
end memOrder
end Go.Proofs.Ytaadcpmapdbodaa
