/-
  What the document's Build holds while it goes: the bytes, what the index says, the keys, each in memory of its own.
-/
import Derived.Test.YtolalicliojkfaaGreatSR9P
namespace Go.Proofs.YtolalicliojkfaaGreat
open Go.RowKit

theorem own_far {w w' : World} {base e size n : Nat} {v : Value} {xs : List Value} {row : Option Nat} (h : w.ownsRow base e size v n xs) (hg : w.grownBy w' row) (hne : ∀ i, v.ownBlock = some i → row ≠ some i) : w'.ownsRow base e size v n xs := by
  refine ⟨h.1, ?_⟩
  rcases h.2 with h0 | ⟨g, cap, cur, rfl, hb, hg2, hr⟩
  · exact .inl h0
  · exact .inr ⟨g, cap, cur, rfl, hb, (hg.block g (Array.getElem?_eq_some_iff.1 hg2).1 (fun e => hne g rfl e.symm)).trans hg2, hr⟩

structure R9 (w0 wr : World) (vo vi vk : Value) (o x : List UInt8) (t : List (List UInt8)) : Prop where
  out : wr.ownsRow w0.heap.size 5 1 vo o.length (bc o)
  idx : wr.ownsRow w0.heap.size 5 1 vi x.length (bc x)
  keys : wr.ownsRow w0.heap.size 9 1 vk t.length (t.map str)
  below : Below w0.heap.size w0 wr
  s1 : ∀ i, vo.ownBlock = some i → vi.ownBlock ≠ some i
  s2 : ∀ i, vo.ownBlock = some i → vk.ownBlock ≠ some i
  s3 : ∀ i, vi.ownBlock = some i → vk.ownBlock ≠ some i

theorem R9.start (w : World) : R9 w w (.slice none 0 0) (.slice none 0 0) (.slice none 0 0) [] [] [] :=
  ⟨World.ownsRow_nil _ _ _ _, World.ownsRow_nil _ _ _ _, World.ownsRow_nil _ _ _ _, Below.refl _ _, fun _ h => by simp [Value.ownBlock] at h, fun _ h => by simp [Value.ownBlock] at h, fun _ h => by simp [Value.ownBlock] at h⟩
theorem R9.later {w0 wr w' : World} {vo vi vk : Value} {o x : List UInt8} {t : List (List UInt8)} (h : R9 w0 wr vo vi vk o x t) (b : Below wr.heap.size wr w') : R9 w0 w' vo vi vk o x t :=
  ⟨own_after h.out b, own_after h.idx b, own_after h.keys b, h.below.trans (b.mono h.below.size), h.s1, h.s2, h.s3⟩
/-- The same, where the start lies further on. -/
theorem R9.at1 {w wr : World} (h : R9 w w (.slice none 0 0) (.slice none 0 0) (.slice none 0 0) [] [] []) (b : Below w.heap.size w wr) : R9 w wr (.slice none 0 0) (.slice none 0 0) (.slice none 0 0) [] [] [] := h.later b
theorem R9.putOut {w0 wr w' : World} {vo vo' vi vk : Value} {o o' x : List UInt8} {t : List (List UInt8)} (h : R9 w0 wr vo vi vk o x t) (e : Ext w0.heap.size wr vo w' vo' o') : R9 w0 w' vo' vi vk o' x t := by
  refine ⟨e.own, own_far h.idx e.grown (fun i hi ho => h.s1 i ho hi), own_far h.keys e.grown (fun i hi ho => h.s2 i ho hi), h.below.grown e.grown h.below.size (fun k hk => (h.out.lt k hk).1), fun i hi hv => ?_, fun i hi hv => ?_, h.s3⟩
  · rcases e.lies with el | ⟨g, hg, hz⟩
    · exact h.s1 i (el ▸ hi) hv
    · have := (h.idx.lt i hv).2
      rw [hg] at hi
      cases hi
      omega
  · rcases e.lies with el | ⟨g, hg, hz⟩
    · exact h.s2 i (el ▸ hi) hv
    · have := (h.keys.lt i hv).2
      rw [hg] at hi
      cases hi
      omega
/-- What the index says, in new memory. -/
theorem R9.newIdx {w0 wr w' : World} {vo vi vi' vk : Value} {o x x' : List UInt8} {t : List (List UInt8)} (h : R9 w0 wr vo vi vk o x t) (b : Below wr.heap.size wr w') (ho : w'.ownsRow wr.heap.size 5 1 vi' x'.length (bc x')) : R9 w0 w' vo vi' vk o x' t := by
  have h' := h.later b
  refine ⟨h'.out, own_base ho h.below.size, h'.keys, h'.below, fun i hi hv => ?_, h.s2, fun i hi hv => ?_⟩
  · have h1 := (ho.lt i hv).1
    have h2 := (h.out.lt i hi).2
    omega
  · have h1 := (ho.lt i hi).1
    have h2 := (h.keys.lt i hv).2
    omega
theorem R9.putKeys {w0 wr w' : World} {vo vi vk vk' : Value} {o x : List UInt8} {t t' : List (List UInt8)} (h : R9 w0 wr vo vi vk o x t) (ho : w'.ownsRow w0.heap.size 9 1 vk' t'.length (t'.map str)) (hg : wr.grownBy w' vk.ownBlock) (hl : vk'.ownBlock = vk.ownBlock ∨ ∃ g, vk'.ownBlock = some g ∧ wr.heap.size ≤ g) : R9 w0 w' vo vi vk' o x t' := by
  refine ⟨own_far h.out hg (fun i hi hv => h.s2 i hi hv), own_far h.idx hg (fun i hi hv => h.s3 i hi hv), ho, h.below.grown hg h.below.size (fun k hk => (h.keys.lt k hk).1), h.s1, fun i hi hv => ?_, fun i hi hv => ?_⟩
  · rcases hl with el | ⟨g, hg', hz⟩
    · exact h.s2 i hi (el ▸ hv)
    · have := (h.out.lt i hi).2
      rw [hg'] at hv
      cases hv
      omega
  · rcases hl with el | ⟨g, hg', hz⟩
    · exact h.s3 i hi (el ▸ hv)
    · have := (h.idx.lt i hi).2
      rw [hg'] at hv
      cases hv
      omega
end Go.Proofs.YtolalicliojkfaaGreat
