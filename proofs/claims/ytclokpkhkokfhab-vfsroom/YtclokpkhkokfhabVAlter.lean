/-
  An altered byte.
-/
import Derived.Test.YtclokpkhkokfhabVCalls5
import Derived.Test.YtclokpkhkokfhabCrc
namespace Go.Proofs.Ytclokpkhkokfhab
open Go.RowKit Go.Maps Go.Sort

/-- A turn of the block of a file's bytes. -/
theorem RepAt.turnR {w : World} {b bf bh bd : Nat} {pv : Value} {fs : Nat → Option Nat} {sl : Nat → Value} {σ : Vf.St} {S : Nat → Prop} (h : RepAt w b bf bh bd pv fs sl σ S) {n g r : Nat} {x x' : Vf.File} (hn : fs n = some g) (hx : σ.files n = some x) (hr : (sl n).ownBlock = some r) {w' : World} (ho : Only w w' r) (hs : x'.synced = x.synced) (hl : x'.bytes.length = x.bytes.length)
    (hw : w'.ownsRow 0 5 1 (sl n) x.bytes.length (bc x'.bytes)) : RepAt w' b bf bh bd pv fs sl { σ with files := Vf.setF σ.files n (some x') } S := by
  have hne : fs n ≠ none := by rw [hn]; simp
  have kr := h.kr hne hr
  refine ⟨(ho.2 b (h.low _ h.sb) (ne_kind h.kb kr (by decide))).trans h.blk, h.files.same (ho.2 _ h.files.lt (ne_kind h.files.kind kr (by simp))), h.held.same (ho.2 _ h.held.lt (ne_kind h.held.kind kr (by simp))), h.dur.same (ho.2 _ h.dur.lt (ne_kind h.dur.kind kr (by simp))),
    ownsRow_same h.pend fun q hq => ho.2 q (h.low _ (h.sp q hq)) (ne_kind (h.kp hq) kr (by decide)), fun k => ?_, fun k q y hk hy => ?_, h.inj, h.rows, h.fh, h.fd, h.hd, h.sb, h.sf, h.sh, h.sd, h.sp, h.sg, h.sr, fun i hi => Nat.lt_of_lt_of_le (h.low i hi) ho.1⟩
  · show (fs k).isSome = (Vf.setF σ.files n (some x') k).isSome
    by_cases e : k = n
    · subst e; rw [Vf.setF_eq, hn]; rfl
    · rw [Vf.setF_ne e]; exact h.dom k
  · have hy' : Vf.setF σ.files n (some x') k = some y := hy
    by_cases e : k = n
    · subst e
      rw [Vf.setF_eq] at hy'
      cases hy'
      have e2 : q = g := by rw [hn] at hk; exact (Option.some.inj hk).symm
      subst e2
      refine ⟨?_, ?_⟩
      · rw [hs]
        exact (ho.2 q (h.low _ (h.sg k q hn)) (ne_kind (h.kg hn) kr (by decide))).trans (h.file k q x hn hx).1
      · rw [hl]; exact hw
    · rw [Vf.setF_ne e] at hy'
      have hne' : fs k ≠ none := by rw [hk]; simp
      refine ⟨(ho.2 q (h.low _ (h.sg k q hk)) (ne_kind (h.kg hk) kr (by decide))).trans (h.file k q y hk hy').1, ownsRow_same (h.file k q y hk hy').2 fun t ht => ho.2 t (h.low _ (h.sr k t hne' ht)) (fun e' => e (h.rows k n r hne' hne (by rw [← e']; exact ht) hr))⟩

end Go.Proofs.Ytclokpkhkokfhab
