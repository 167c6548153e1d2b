/-
  The walk of BlockCalls.
-/
import Derived.Test.YtanhmebjfockjaaBRefD5
import Derived.Test.YtanhmebjfockjaaBLives
import Derived.Test.YtanhmebjfockjaaBSmall
import Derived.Test.YtanhmebjfockjaaBLent
import Derived.Test.YtanhmebjfockjaaBApart0
import Derived.Test.YtanhmebjfockjaaBKApart
import Derived.Test.YtanhmebjfockjaaJKLent
import Derived.Test.YtanhmebjfockjaaJKSame
namespace Go.Proofs.Ytanhmebjfockjaa.blockCalls
open Go.RowKit
open Go.Proofs.Ytanhmebjfockjaa

def encA (l : List Mm.Ent) : List UInt8 := if Bk.checkE l = 0 then Bk.blockB l else []
def decL (b : List UInt8) : List Mm.Ent := if Bk.dGood b = true then Bk.dEnts b else []
def decE (b : List UInt8) : Int := if Bk.dGood b = true then 0 else 5
theorem encA_len (l : List Mm.Ent) : (encA l).length ≤ 330000 := by
  unfold encA
  by_cases h : Bk.checkE l = 0
  · rw [if_pos h, ← Bk.preB_all]
    exact Bk.preB_len l h _
  · rw [if_neg h]
    simp
theorem decL_facts (b : List UInt8) : (decL b).length ≤ 64 ∧ ∀ x ∈ decL b, x.key.length ≤ 1000000 := by
  unfold decL
  by_cases h : Bk.dGood b = true
  · rw [if_pos h]
    obtain ⟨k1, k2, k3, k4⟩ := Bk.checkE_ok (Bk.enc_back b h).1
    refine ⟨k2, fun x hx => ?_⟩
    have := (Bk.may_parts (List.all_eq_true.1 k3 x hx)).2.2.2.1
    omega
  · rw [if_neg h]
    exact ⟨by simp, fun x hx => by cases hx⟩
theorem decL_none {b : List UInt8} (h : decL b = []) : Bk.dGood b = false := by
  cases hg : Bk.dGood b
  · rfl
  · unfold decL at h
    rw [if_pos hg] at h
    obtain ⟨k1, _⟩ := Bk.checkE_ok (Bk.enc_back b hg).1
    rw [h] at k1
    simp at k1
theorem benc_all (w : World) (a : Option Addr) (c n : Nat) (l : List Mm.Ent) (h : EntsAt w (.slice a n c) l) (hl : n ≤ 1000000) (hk : ∀ x ∈ l, x.key.length ≤ 1000000 ∧ x.value.length ≤ 1000000) :
    Calls Try.prog 29 #[.slice a n c] w fun e w' => ∃ a c, e = .returned (.tuple #[.slice a (encA l).length c, .int .i64 (Bk.checkE l)]) ∧ w'.ownsRow w.heap.size 5 1 (.slice a (encA l).length c) (encA l).length (bc (encA l)) ∧ Below w.heap.size w w' := by
  by_cases hc : Bk.checkE l = 0
  · unfold encA
    rw [if_pos hc, hc]
    refine (bencode_ok w a c n l h hc).mono ?_
    rintro e w' ⟨g, cap, rfl, o, b⟩
    exact ⟨_, _, rfl, o, b⟩
  · unfold encA
    rw [if_neg hc]
    refine (bencode_bad w a c n l h hl hk hc).mono ?_
    rintro e w' ⟨rfl, b⟩
    exact ⟨none, 0, rfl, World.ownsRow_nil _ _ _ _, b⟩
theorem renc_all (w : World) (a : Option Addr) (c n : Nat) (l : List Mm.Ent) (h : EntsAt w (.slice a n c) l) (hl : n ≤ 1000000) :
    Calls Try.prog 30 #[.slice a n c] w fun e w' => ∃ a c, e = .returned (.tuple #[.slice a (encA l).length c, .int .i64 (Bk.checkE l)]) ∧ w'.ownsRow w.heap.size 5 1 (.slice a (encA l).length c) (encA l).length (bc (encA l)) ∧ Below w.heap.size w w' := by
  by_cases hc : Bk.checkE l = 0
  · unfold encA
    rw [if_pos hc, hc]
    refine (rencode_ok w a c n l h hc).mono ?_
    rintro e w' ⟨g, cap, rfl, o, b⟩
    exact ⟨_, _, rfl, o, b⟩
  · unfold encA
    rw [if_neg hc]
    refine (rencode_bad w a c n l h hl hc).mono ?_
    rintro e w' ⟨rfl, b⟩
    exact ⟨none, 0, rfl, World.ownsRow_nil _ _ _ _, b⟩
theorem dec_shape {w w' : World} {b : List UInt8} {v : Value} {E : Int} (h : (Bk.dGood b = true ∧ E = 0 ∧ w'.ownsRow w.heap.size 38 4 v (Bk.dEnts b).length (ecs (Bk.dEnts b))) ∨ (Bk.dGood b = false ∧ E = 5 ∧ v = .slice none 0 0)) :
    ∃ a c, v = .slice a (decL b).length c ∧ E = decE b ∧ w'.ownsRow w.heap.size 38 4 (.slice a (decL b).length c) (decL b).length (ecs (decL b)) ∧ (decL b = [] → a = none ∧ c = 0) := by
  rcases h with ⟨hg, rfl, o⟩ | ⟨hg, rfl, rfl⟩
  · have e1 : decL b = Bk.dEnts b := by unfold decL; rw [if_pos hg]
    have e2 : decE b = 0 := by unfold decE; rw [if_pos hg]
    obtain ⟨a, c, hv⟩ := row_shape o
    subst hv
    rw [e1, e2]
    refine ⟨a, c, rfl, rfl, o, fun h0 => ?_⟩
    have := decL_none (b := b) (by rw [e1]; exact h0)
    rw [hg] at this
    cases this
  · have e1 : decL b = [] := by unfold decL; rw [if_neg (by rw [hg]; simp)]
    have e2 : decE b = 5 := by unfold decE; rw [if_neg (by rw [hg]; simp)]
    rw [e1, e2]
    exact ⟨none, 0, rfl, rfl, World.ownsRow_nil _ _ _ _, fun _ => ⟨rfl, rfl⟩⟩
theorem ents_front2 {w : World} {ad : Addr} {n k c : Nat} {l m : List Mm.Ent} (h : EntsAt w (.slice (some ad) k c) (l ++ m)) (hn : n = l.length) (c' : Nat) : EntsAt w (.slice (some ad) n c') l := by
  obtain ⟨⟨a0, cap, e, hf⟩⟩ := h
  simp only [Value.slice.injEq] at e
  obtain ⟨rfl, _, rfl⟩ := e
  subst hn
  refine ⟨⟨some ad, c', rfl, fun h0 => ?_⟩⟩
  obtain ⟨b, off, e, hc⟩ := hf (by intro e; exact h0 (List.append_eq_nil_iff.1 e).1)
  refine ⟨b, off, e, fun j hj => ?_⟩
  have := hc j (by rw [List.length_append]; omega)
  rwa [List.getElem_append_left hj] at this
theorem bytes_front {w : World} {a : Option Addr} {n k c : Nat} {l m : List UInt8} (h : BytesIn w (.slice a k c) (l ++ m)) (hn : n = l.length) (c' : Nat) : BytesIn w (.slice a n c') l := by
  obtain ⟨⟨a0, cap, e, hf⟩, hl⟩ := h
  simp only [Value.slice.injEq] at e
  obtain ⟨rfl, _, rfl⟩ := e
  subst hn
  rw [List.length_append] at hl
  refine ⟨⟨a, c', rfl, fun h0 => ?_⟩, by omega⟩
  obtain ⟨b, off, e, hc⟩ := hf (by intro e; exact h0 (List.append_eq_nil_iff.1 e).1)
  refine ⟨b, off, e, fun j hj => ?_⟩
  have := hc j (by rw [List.length_append]; omega)
  rwa [List.getElem_append_left hj] at this

/-- What the law holds. -/
structure Hv (w wx : World) (F : Value) (L : List Mm.Ent) (rows : List (Value × Nat × List UInt8)) (ents : List (Value × Nat × List Mm.Ent)) : Prop where
  full : EntsAt wx F L
  rs : ∀ x ∈ rows, wx.ownsRow x.2.1 5 1 x.1 x.2.2.length (bc x.2.2)
  es : ∀ x ∈ ents, wx.ownsRow x.2.1 38 4 x.1 x.2.2.length (ecs x.2.2)
  bel : Below w.heap.size w wx
theorem Hv.later {w wx w' : World} {F : Value} {L : List Mm.Ent} {rows : List (Value × Nat × List UInt8)} {ents : List (Value × Nat × List Mm.Ent)} (h : Hv w wx F L rows ents) (b : Below wx.heap.size wx w') : Hv w w' F L rows ents :=
  ⟨h.full.later b, fun x hx => own_after (h.rs x hx) b, fun x hx => own_after (h.es x hx) b, h.bel.trans (b.mono h.bel.size)⟩
theorem Hv.row {w wx w' : World} {F : Value} {L : List Mm.Ent} {rows : List (Value × Nat × List UInt8)} {ents : List (Value × Nat × List Mm.Ent)} (h : Hv w wx F L rows ents) (b : Below wx.heap.size wx w') {v : Value} {l : List UInt8} (o : w'.ownsRow wx.heap.size 5 1 v l.length (bc l)) : Hv w w' F L ((v, wx.heap.size, l) :: rows) ents :=
  ⟨(h.later b).full, fun x hx => by
    rcases List.mem_cons.1 hx with rfl | hx
    · exact o
    · exact (h.later b).rs x hx, (h.later b).es, (h.later b).bel⟩
theorem Hv.ent {w wx w' : World} {F : Value} {L : List Mm.Ent} {rows : List (Value × Nat × List UInt8)} {ents : List (Value × Nat × List Mm.Ent)} (h : Hv w wx F L rows ents) (b : Below wx.heap.size wx w') {v : Value} {l : List Mm.Ent} (o : w'.ownsRow wx.heap.size 38 4 v l.length (ecs l)) : Hv w w' F L rows ((v, wx.heap.size, l) :: ents) :=
  ⟨(h.later b).full, (h.later b).rs, fun x hx => by
    rcases List.mem_cons.1 hx with rfl | hx
    · exact o
    · exact (h.later b).es x hx, (h.later b).bel⟩
theorem own_keptE {w w' : World} {base e size n : Nat} {v : Value} {xs : List Value} (h : w.ownsRow base e size v n xs) (hk : ∀ i, v.ownBlock = some i → w'.heap[i]? = w.heap[i]?) : w'.ownsRow base e size v n xs := by
  refine ⟨h.1, ?_⟩
  rcases h.2 with h0 | ⟨g, cap, cur, rfl, hb, hg, hr⟩
  · exact .inl h0
  · exact .inr ⟨g, cap, cur, rfl, hb, (hk g rfl).trans hg, hr⟩
theorem three (w W : World) (v0 v1 v2 : Value) (l0 l2 : List UInt8) (h0 : w.ownsRow W.heap.size 5 1 v0 l0.length (bc l0)) (h1 : w.ownsRow W.heap.size 5 1 v1 l0.length (bc l0)) (h2 : w.ownsRow W.heap.size 5 1 v2 l2.length (bc l2))
    (z0 : l0.length ≤ 140737488355328) (z2 : l2.length ≤ 140737488355328) (A0 A1 A2 A3 : Nat) (d2 : Lies v2 A0 A1) (d0 : Lies v0 A1 A2) (d1 : Lies v1 A2 A3) (m1 : A1 ≤ A2) (m2 : A2 ≤ A3) (m3 : A3 ≤ w.heap.size) (hW : Below W.heap.size W w) :
    Calls Try.prog 38 #[.slice (some ⟨w.heap.size, 0, none⟩) 3 3] (w.alloc (.cells #[v0, v1, v2] 53)) fun e w' => e = .returned (.bool true) ∧ Below W.heap.size W w' ∧ w.heap.size ≤ w'.heap.size ∧ ∀ i, A3 ≤ i → i < w.heap.size → w'.heap[i]? = w.heap[i]? := by
  have c3 : ∀ k, k < 3 → k = 0 ∨ k = 1 ∨ k = 2 := fun k hk => by omega
  refine (apart_vals_keeps (w.alloc (.cells #[v0, v1, v2] 53)) W.heap.size w.heap.size 3 [(v0, l0), (v1, l0), (v2, l2)] (by simp) ?_ ?_ ?_ ?_ ?_ (by have := hW.size; simp; omega)).mono ?_
  · intro k hk
    rcases c3 k hk with rfl | rfl | rfl
    · exact Joins.cell_of_block (World.alloc_heap_new w _) 0
    · exact Joins.cell_of_block (World.alloc_heap_new w _) 1
    · exact Joins.cell_of_block (World.alloc_heap_new w _) 2
  · intro k hk
    rcases c3 k hk with rfl | rfl | rfl
    · exact h0.alloc _
    · exact h1.alloc _
    · exact h2.alloc _
  · intro k hk
    rcases c3 k hk with rfl | rfl | rfl
    · exact z0
    · exact z0
    · exact z2
  · intro i k hi hk hik hne e
    obtain ⟨g, hg⟩ := Option.ne_none_iff_exists'.mp hne
    have hg2 := e.symm.trans hg
    rcases c3 i hi with rfl | rfl | rfl
    · rcases c3 k hk with rfl | rfl | rfl
      · omega
      · simp only [List.getElem_cons_zero, List.getElem_cons_succ] at hg hg2
        have := d0 g hg
        have := d1 g hg2
        omega
      · simp only [List.getElem_cons_zero, List.getElem_cons_succ] at hg hg2
        have := d0 g hg
        have := d2 g hg2
        omega
    · rcases c3 k hk with rfl | rfl | rfl
      · omega
      · omega
      · simp only [List.getElem_cons_zero, List.getElem_cons_succ] at hg hg2
        have := d1 g hg
        have := d2 g hg2
        omega
    · have := c3 k hk
      omega
  · intro k hk e
    rcases c3 k hk with rfl | rfl | rfl
    · have := d0 _ e
      omega
    · have := d1 _ e
      omega
    · have := d2 _ e
      omega
  · rintro e w' ⟨rfl, b, f⟩
    have bz := b.size
    rw [World.size_alloc] at bz
    refine ⟨rfl, (hW.alloc hW.size _).trans b, by omega, fun i h1 h2 => ?_⟩
    refine (f i (by simp; omega) (fun k hk e => ?_)).trans (Below.heap_alloc _ _ _ h2)
    rcases c3 k hk with rfl | rfl | rfl
    · have := d0 _ e
      omega
    · have := d1 _ e
      omega
    · have := d2 _ e
      omega
end Go.Proofs.Ytanhmebjfockjaa.blockCalls
