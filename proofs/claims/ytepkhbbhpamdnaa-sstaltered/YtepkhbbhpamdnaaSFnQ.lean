/-
  In plain words: what a table of some entries tells is what they tell.
-/
import Derived.Test.YtepkhbbhpamdnaaSFnP
namespace Go.Proofs.Ytepkhbbhpamdnaa
open Go.RowKit
namespace Ss
open Mm (Ent)
theorem drop_piece (l : List Ent) (p k : Nat) : l.drop (k * p) = piece l p k ++ l.drop ((k + 1) * p) := by
  unfold piece
  rw [Nat.succ_mul, ← List.drop_drop, List.take_append_drop]
theorem drop_all {l : List Ent} {p d : Nat} (h : checkE l p d = 0) : l.drop (cnt l p * p) = [] := by
  obtain ⟨⟨h1, _⟩, _⟩ := check_parts h
  apply List.drop_eq_nil_of_le
  unfold cnt
  have := Nat.lt_div_mul_add (a := l.length + p - 1) (b := p) (by omega)
  omega
/-- An entry of an early piece is its last one, or ahead of that. -/
theorem early {l : List Ent} {p d : Nat} (h : checkE l p d = 0) {r : Nat} (hr : r ≤ cnt l p) {x : Ent} (hx : x ∈ l.take (r * p)) : ∃ j, j < r ∧ (x = lastOf (piece l p j) ∨ Mm.ahead x (lastOf (piece l p j)) = true) := by
  obtain ⟨⟨h1, _⟩, _, _, _, ho⟩ := check_parts h
  obtain ⟨i, hi, rfl⟩ := List.mem_iff_getElem.1 hx
  rw [List.length_take] at hi
  have hp : 0 < p := by omega
  have hj : i / p < r := by rw [Nat.div_lt_iff_lt_mul hp]; omega
  obtain ⟨i1, a1, e1⟩ := last_piece h (show i / p < cnt l p by omega)
  refine ⟨i / p, hj, ?_⟩
  rw [e1, List.getElem_take]
  have hm := Nat.lt_div_mul_add (a := i) hp
  rcases Nat.lt_or_ge i (min (i / p * p + p) l.length - 1) with hlt | hge
  · exact .inr (List.pairwise_iff_getElem.1 (up_of_ord ((Bk.inOrd_iff l).1 ho)) _ _ _ _ hlt)
  · have : i = min (i / p * p + p) l.length - 1 := by omega
    left
    congr 1
theorem late {l : List Ent} {p d : Nat} (h : checkE l p d = 0) {k : Nat} (hk : k < cnt l p) {x : Ent} (hx : x ∈ l.drop ((k + 1) * p)) : Mm.ahead (lastOf (piece l p k)) x = true := by
  obtain ⟨⟨h1, _⟩, _, _, _, ho⟩ := check_parts h
  obtain ⟨i, hi, rfl⟩ := List.mem_iff_getElem.1 hx
  rw [List.length_drop, Nat.succ_mul] at hi
  obtain ⟨i1, a1, e1⟩ := last_piece h hk
  rw [e1, List.getElem_drop]
  exact List.pairwise_iff_getElem.1 (up_of_ord ((Bk.inOrd_iff l).1 ho)) _ _ _ _ (by rw [Nat.succ_mul]; omega)
theorem last_in {l : List Ent} {p d : Nat} (h : checkE l p d = 0) {k : Nat} (hk : k < cnt l p) : lastOf (piece l p k) ∈ piece l p k := by
  have hc := (Bk.checkE_ok (piece_check h hk)).1
  exact last_mem (by intro e; rw [e] at hc; simp at hc)
theorem prt_ahead {l : List Ent} {p d : Nat} (h : checkE l p d = 0) {k : Nat} (hk : k < cnt l p) (W : Ent) : Mm.ahead (prtOf l p k).ent W = Mm.ahead (lastOf (piece l p k)) W := by
  have f := prt_fit h hk
  unfold Mm.ahead
  show (if (lastOf (piece l p k)).key = W.key then decide (W.seq < ((prtOf l p k).seq : Int)) else _) = _
  rw [f.2.2.2.2.2.2]
  rfl
theorem prts_of_idx {l : List Ent} {p k j : Nat} (hj : j < (prts l p k).length) : (prts l p k)[j] = prtOf l p j := by
  have h := prts_get? l p k j (by rw [prts_length] at hj; exact hj)
  rw [List.getElem?_eq_getElem hj] at h
  exact Option.some.inj h
theorem find_mem {l : List Ent} {k : Bs} {q : Int} {x : Ent} (h : findE l k q = some x) : x ∈ l ∧ x.key = k := by
  unfold findE at h
  cases hd : (l.dropWhile fun x => Mm.ahead x ⟨k, [], q, false⟩).head? with
  | none => rw [hd] at h; cases h
  | some y =>
    rw [hd] at h
    dsimp only at h
    split at h
    · rename_i hk
      cases h
      exact ⟨(List.dropWhile_sublist _).subset (List.mem_of_mem_head? hd), hk⟩
    · cases h
theorem drop_some {α : Type} (f : α → Bool) : ∀ (a b : List α), (∃ x ∈ a, f x = false) → ((a ++ b).dropWhile f).head? = (a.dropWhile f).head?
  | [], _, h => by obtain ⟨x, hx, _⟩ := h; cases hx
  | y :: a, b, h => by
    rw [List.cons_append, List.dropWhile_cons, List.dropWhile_cons]
    cases hy : f y with
    | false => simp
    | true =>
      simp only [if_true]
      apply drop_some f a b
      obtain ⟨x, hx, hf⟩ := h
      rcases List.mem_cons.1 hx with rfl | hx
      · rw [hf] at hy; cases hy
      · exact ⟨x, hx, hf⟩
theorem get_back {l : List Ent} {p d : Nat} (h : checkE l p d = 0) (k : Bs) (q : Int) : getX (tabOf l p d) k q = findE l k q ∧ getE (tabOf l p d) k q = 0 ∧ getN (tabOf l p d) k q ≤ 1 := by
  obtain ⟨⟨q1, q2, q3, q4⟩, _, _, _, ho⟩ := check_parts h
  have hlen := prts_length l p (cnt l p)
  let W : Ent := ⟨k, [], q, false⟩
  have hr : placeN (prts l p (cnt l p)) W ≤ cnt l p := by
    have := List.findIdx_le_length (p := fun x : Prt => !Mm.ahead x.ent W) (xs := prts l p (cnt l p))
    unfold placeN
    omega
  have before : ∀ x ∈ l.take (placeN (prts l p (cnt l p)) W * p), Mm.ahead x W = true := by
    intro x hx
    obtain ⟨j, hj, hx'⟩ := early h hr hx
    have hn := List.not_of_lt_findIdx (p := fun x : Prt => !Mm.ahead x.ent W) (xs := prts l p (cnt l p)) (i := j) hj
    rw [prts_of_idx, prt_ahead h (by omega)] at hn
    have hn' : Mm.ahead (lastOf (piece l p j)) W = true := by simpa using hn
    rcases hx' with rfl | hx'
    · exact hn'
    · exact Mm.ahead_trans hx' hn'
  have cut : l.dropWhile (fun x => Mm.ahead x W) = (l.drop (placeN (prts l p (cnt l p)) W * p)).dropWhile fun x => Mm.ahead x W := by
    conv => lhs; rw [← List.take_append_drop (placeN (prts l p (cnt l p)) W * p) l]
    rw [List.dropWhile_append_of_pos before]
  unfold getX getE getN
  show (match (prts l p (cnt l p))[placeN (prts l p (cnt l p)) W]? with | none => none | some p' => if Bm.has (Bm.filt (keysB l) d) k && readOk (tabOf l p d) p' then findE (readL (tabOf l p d) p') k q else none) = findE l k q ∧ (match (prts l p (cnt l p))[placeN (prts l p (cnt l p)) W]? with | none => 0 | some p' => if Bm.has (Bm.filt (keysB l) d) k && !readOk (tabOf l p d) p' then 6 else 0) = (0 : Int) ∧ (match (prts l p (cnt l p))[placeN (prts l p (cnt l p)) W]? with | none => 0 | some _ => if Bm.has (Bm.filt (keysB l) d) k then 1 else 0) ≤ 1
  generalize hR : placeN (prts l p (cnt l p)) W = r at *
  rcases Nat.lt_or_ge r (cnt l p) with hlt | hge
  · rw [prts_get? l p _ r hlt]
    obtain ⟨o1, o2⟩ := read_back h hlt
    have hnot : Mm.ahead (lastOf (piece l p r)) W = false := by
      have := List.findIdx_getElem (p := fun x : Prt => !Mm.ahead x.ent W) (xs := prts l p (cnt l p)) (w := by show placeN (prts l p (cnt l p)) W < _; rw [hR]; omega)
      have e : (prts l p (cnt l p))[(prts l p (cnt l p)).findIdx fun x : Prt => !Mm.ahead x.ent W]'(by show placeN (prts l p (cnt l p)) W < _; rw [hR]; omega) = prtOf l p r := by rw [prts_of_idx]; congr 1
      rw [e, prt_ahead h hlt] at this
      simpa using this
    have hfind : findE l k q = findE (piece l p r) k q := by
      unfold findE
      show (match (l.dropWhile fun x => Mm.ahead x W).head? with | none => none | some x => if x.key = k then some x else none) = (match ((piece l p r).dropWhile fun x => Mm.ahead x W).head? with | none => none | some x => if x.key = k then some x else none)
      rw [cut, drop_piece, drop_some _ _ _ ⟨_, last_in h hlt, hnot⟩]
    dsimp only
    rw [o1, o2, ← hfind]
    refine ⟨?_, by simp, by split <;> omega⟩
    cases hb : Bm.has (Bm.filt (keysB l) d) k with
    | true => rfl
    | false =>
      cases hx : findE l k q with
      | none => rfl
      | some x =>
        obtain ⟨m1, m2⟩ := find_mem hx
        have := Bm.filt_has (keysB l) d (by omega) (by omega) k (by rw [← m2]; exact List.mem_map.2 ⟨x, m1, rfl⟩)
        rw [hb] at this
        cases this
  · have er : r = cnt l p := by omega
    rw [List.getElem?_eq_none (by omega)]
    refine ⟨?_, rfl, Nat.zero_le _⟩
    unfold findE
    show none = (match (l.dropWhile fun x => Mm.ahead x W).head? with | none => none | some x => if x.key = k then some x else none)
    rw [cut, er, drop_all h]
    rfl

theorem span_app (f t : Bs) (a b : List Ent) : Mm.spanL f t (a ++ b) = Mm.spanL f t a ++ Mm.spanL f t b := by unfold Mm.spanL; rw [List.filter_append]
theorem scanR_back {l : List Ent} {p d : Nat} (h : checkE l p d = 0) (f tu : Bs) : ∀ n k, k + n = cnt l p → ∀ m out, ∃ m', m' ≤ m + n ∧ scanR (tabOf l p d) f tu ((prts l p (cnt l p)).drop k) m out = (some (out ++ Mm.spanL f tu (l.drop (k * p))), m')
  | 0, k, hk, m, out => by
    obtain rfl : k = cnt l p := by omega
    rw [List.drop_eq_nil_of_le (by rw [prts_length]; exact Nat.le_refl _), drop_all h]
    exact ⟨m, by omega, by simp [scanR, Mm.spanL]⟩
  | n + 1, k, hk, m, out => by
    have hlt : k < cnt l p := by omega
    obtain ⟨o1, o2⟩ := read_back h hlt
    rw [List.drop_eq_getElem_cons (by rw [prts_length]; exact hlt), prts_of_idx, scanR, o1, o2, if_neg (by simp), drop_piece, span_app]
    split
    · rename_i hc
      have : Mm.spanL f tu (l.drop ((k + 1) * p)) = [] := by
        unfold Mm.spanL
        rw [List.filter_eq_nil_iff]
        intro x hx
        have ha := bl_mono (late h hlt hx) (f := tu) hc.2
        unfold Mm.inB
        rw [ha]
        simp [hc.1]
      rw [this, List.append_nil]
      exact ⟨m + 1, by omega, rfl⟩
    · obtain ⟨m', h1, h2⟩ := scanR_back h f tu n (k + 1) (by omega) (m + 1) (out ++ Mm.spanL f tu (piece l p k))
      rw [List.append_assoc] at h2
      exact ⟨m', by omega, h2⟩
theorem scan_back {l : List Ent} {p d : Nat} (h : checkE l p d = 0) (f tu : Bs) : ∃ m, m ≤ cnt l p ∧ scan (tabOf l p d) f tu = (some (Mm.spanL f tu l), m) := by
  have hlen := prts_length l p (cnt l p)
  have hr : placeF (prts l p (cnt l p)) f ≤ cnt l p := by
    have := List.findIdx_le_length (p := fun x : Prt => !Op.bytesLess x.key f) (xs := prts l p (cnt l p))
    unfold placeF
    omega
  have before : ∀ x ∈ l.take (placeF (prts l p (cnt l p)) f * p), Op.bytesLess x.key f = true := by
    intro x hx
    obtain ⟨j, hj, hx'⟩ := early h hr hx
    have hn := List.not_of_lt_findIdx (p := fun x : Prt => !Op.bytesLess x.key f) (xs := prts l p (cnt l p)) (i := j) hj
    rw [prts_of_idx] at hn
    have hn' : Op.bytesLess (lastOf (piece l p j)).key f = true := by simpa [prtOf] using hn
    rcases hx' with rfl | hx'
    · exact hn'
    · rcases Mm.ahead_key hx' with ⟨e, _⟩ | e
      · rw [e]; exact hn'
      · exact Mm.bl_trans e hn'
  unfold scan
  obtain ⟨m, h1, h2⟩ := scanR_back h f tu (cnt l p - placeF (prts l p (cnt l p)) f) (placeF (prts l p (cnt l p)) f) (by omega) 0 []
  refine ⟨m, by omega, ?_⟩
  show scanR (tabOf l p d) f tu ((prts l p (cnt l p)).drop (placeF (prts l p (cnt l p)) f)) 0 [] = _
  rw [h2, List.nil_append]
  congr 2
  conv => rhs; rw [← List.take_append_drop (placeF (prts l p (cnt l p)) f * p) l]
  rw [span_app]
  have : Mm.spanL f tu (l.take (placeF (prts l p (cnt l p)) f * p)) = [] := by
    unfold Mm.spanL
    rw [List.filter_eq_nil_iff]
    intro x hx
    have := before x hx
    unfold Mm.inB
    rw [this]
    simp
  rw [this, List.nil_append]
theorem span_whole (l : List Ent) : Mm.spanL [] [] l = l := by
  unfold Mm.spanL
  rw [List.filter_eq_self]
  intro x _
  unfold Mm.inB
  rw [Go.Proofs.bytesLess_eq]
  simp
end Ss
end Go.Proofs.Ytepkhbbhpamdnaa
