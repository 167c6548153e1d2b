/-
  Lists merged, in plain words: which list is foremost, what is left, what comes out; nothing here speaks of the program. .. and what follows from it.
-/
import Derived.Test.YtbdgdigpnfpnhaaKG
import Derived.Test.YtbdgdigpnfpnhaaKT
import Derived.Deep.RegionLaw
import Derived.Lib.SliceRun
import Derived.Test.YtbdgdigpnfpnhaaKE
namespace Go.Proofs.Ytbdgdigpnfpnhaa.Q
namespace Bk

/-- The first entry of the list at a place. -/
def hdAt (l : List (List Mm.Ent)) (i : Nat) : Mm.Ent := (l.getD i []).headD ⟨[], [], 0, false⟩
/-- The foremost of the first n lists. -/
def foreN (l : List (List Mm.Ent)) : Nat → Nat
  | 0 => 0
  | n + 1 => if Mm.ahead (hdAt l n) (hdAt l (foreN l n)) = true then n else foreN l n
theorem foreN_lt (l : List (List Mm.Ent)) (n : Nat) : foreN l n < max 1 n := by
  induction n with
  | zero => simp [foreN]
  | succ n ih =>
    rw [foreN]
    split
    · omega
    · omega
def fore (l : List (List Mm.Ent)) : Nat := foreN l l.length
theorem fore_lt (l : List (List Mm.Ent)) (h : l ≠ []) : fore l < l.length := by
  have h0 : 0 < l.length := List.length_pos_iff.2 h
  have := foreN_lt l l.length
  unfold fore
  omega

/-- The list at a place without its first entry; without that list, if it has no other. -/
def cutAt (l : List (List Mm.Ent)) (i : Nat) : List (List Mm.Ent) := if (l.getD i []).tail = [] then l.eraseIdx i else l.set i (l.getD i []).tail
def total (l : List (List Mm.Ent)) : Nat := (l.map List.length).sum
def mayFollow (out : List Mm.Ent) (e : Mm.Ent) : Bool := match out.getLast? with
  | none => true
  | some y => Mm.ahead y e

def mrg : Nat → List (List Mm.Ent) → List Mm.Ent → Option (List Mm.Ent)
  | 0, _, out => some out
  | f + 1, l, out => if l = [] then some out else if mayFollow out (hdAt l (fore l)) = true then mrg f (cutAt l (fore l)) (out ++ [hdAt l (fore l)]) else none

theorem total_cons (x : List Mm.Ent) (l : List (List Mm.Ent)) : total (x :: l) = x.length + total l := by simp [total]
theorem total_erase (l : List (List Mm.Ent)) (i : Nat) (h : i < l.length) : total (l.eraseIdx i) + l[i].length = total l := by
  induction l generalizing i with
  | nil => simp at h
  | cons x l ih =>
    cases i with
    | zero => simp [total_cons]; omega
    | succ i =>
      have := ih i (by simpa using h)
      simp only [List.eraseIdx_cons_succ, total_cons, List.getElem_cons_succ]
      omega
theorem total_set (l : List (List Mm.Ent)) (i : Nat) (h : i < l.length) (r : List Mm.Ent) : total (l.set i r) + l[i].length = total l + r.length := by
  induction l generalizing i with
  | nil => simp at h
  | cons x l ih =>
    cases i with
    | zero => simp [total_cons]; omega
    | succ i =>
      have := ih i (by simpa using h)
      simp only [List.set_cons_succ, total_cons, List.getElem_cons_succ]
      omega
theorem getD_at (l : List (List Mm.Ent)) (i : Nat) (h : i < l.length) : l.getD i [] = l[i] := by simp [List.getD, h]
theorem hdAt_cons (l : List (List Mm.Ent)) (i : Nat) (h : i < l.length) (hne : l[i] ≠ []) : l[i] = hdAt l i :: l[i].tail := by
  unfold hdAt
  rw [getD_at l i h]
  cases hx : l[i] with
  | nil => exact absurd hx hne
  | cons a r => rfl
theorem total_cut (l : List (List Mm.Ent)) (i : Nat) (h : i < l.length) (hne : l[i] ≠ []) : total (cutAt l i) + 1 = total l := by
  have hc := congrArg List.length (hdAt_cons l i h hne)
  rw [List.length_cons] at hc
  unfold cutAt
  rw [getD_at l i h]
  split
  · rename_i ht
    have := total_erase l i h
    rw [ht] at hc
    simp at hc
    omega
  · have := total_set l i h l[i].tail
    omega
theorem cut_ne (l : List (List Mm.Ent)) (i : Nat) (hne : ∀ x ∈ l, x ≠ []) : ∀ x ∈ cutAt l i, x ≠ [] := by
  intro x hx
  unfold cutAt at hx
  split at hx
  · exact hne x (List.mem_of_mem_eraseIdx hx)
  · rename_i ht
    rcases List.mem_or_eq_of_mem_set hx with h | h
    · exact hne x h
    · rw [h]; exact ht
theorem cut_other (l : List (List Mm.Ent)) (i j : Nat) (h : j < l.length) (hij : i ≠ j) : l[j] ∈ cutAt l i := by
  unfold cutAt
  split
  · rw [List.mem_eraseIdx_iff_getElem]
    exact ⟨j, h, fun e => hij e.symm, rfl⟩
  · rw [List.mem_iff_getElem]
    exact ⟨j, by simpa using h, by rw [List.getElem_set_ne hij]⟩
theorem cut_self (l : List (List Mm.Ent)) (i : Nat) (h : i < l.length) (ht : l[i].tail ≠ []) : l[i].tail ∈ cutAt l i := by
  unfold cutAt
  rw [getD_at l i h, if_neg ht]
  rw [List.mem_iff_getElem]
  exact ⟨i, by simpa using h, by simp⟩

theorem inOrd_snoc (l : List Mm.Ent) (e : Mm.Ent) (h : inOrd l = true) (hf : mayFollow l e = true) : inOrd (l ++ [e]) = true := by
  induction l with
  | nil => rfl
  | cons a r ih =>
    cases r with
    | nil =>
      have : Mm.ahead a e = true := hf
      show (Mm.ahead a e && inOrd [e]) = true
      rw [this]; rfl
    | cons b r =>
      rw [inOrd, Bool.and_eq_true] at h
      have hf' : mayFollow (b :: r) e = true := by
        unfold mayFollow at hf ⊢
        rw [List.getLast?_cons_cons] at hf
        exact hf
      have := ih h.2 hf'
      show (Mm.ahead a b && inOrd (b :: r ++ [e])) = true
      rw [h.1, this]; rfl

/-- What comes out has all that was in the lists, each list's in its order, and is in order. -/
theorem mrg_ok (f : Nat) : ∀ (l : List (List Mm.Ent)) (out a : List Mm.Ent), (∀ x ∈ l, x ≠ []) → total l ≤ f → mrg f l out = some a → ∃ t, a = out ++ t ∧ t.length = total l ∧ (∀ x ∈ l, x.Sublist t) ∧ (inOrd out = true → inOrd a = true) := by
  induction f with
  | zero =>
    intro l out a hne ht h
    have hl : l = [] := by
      cases l with
      | nil => rfl
      | cons x l =>
        have := hne x (by simp)
        have h0 : 0 < x.length := List.length_pos_iff.2 this
        rw [total_cons] at ht
        omega
    subst hl
    simp only [mrg, Option.some.injEq] at h
    subst h
    exact ⟨[], by simp, rfl, by simp, id⟩
  | succ f ih =>
    intro l out a hne ht h
    rw [mrg] at h
    split at h
    · rename_i hl
      subst hl
      simp only [Option.some.injEq] at h
      subst h
      exact ⟨[], by simp, rfl, by simp, id⟩
    · rename_i hl
      split at h
      · rename_i hf
        have hi := fore_lt l hl
        have hni := hne _ (List.getElem_mem hi)
        have htc := total_cut l (fore l) hi hni
        obtain ⟨t, h1, h2, h3, h4⟩ := ih _ _ _ (cut_ne l (fore l) hne) (by omega) h
        refine ⟨hdAt l (fore l) :: t, by rw [h1]; simp, by rw [List.length_cons, h2, htc], fun x hx => ?_, fun ho => h4 (inOrd_snoc out _ ho hf)⟩
        obtain ⟨j, hj, rfl⟩ := List.mem_iff_getElem.1 hx
        by_cases e : fore l = j
        · subst e
          rw [hdAt_cons l (fore l) hi hni]
          by_cases htl : l[fore l].tail = []
          · rw [htl]; exact List.Sublist.cons_cons _ (List.nil_sublist t)
          · exact List.Sublist.cons_cons _ (h3 _ (cut_self l _ hi htl))
        · exact List.Sublist.cons _ (h3 _ (cut_other l _ j hj e))
      · cases h

/-- One match more, or one entry less to look at. -/
theorem sub_step {x y : Mm.Ent} {r s : List Mm.Ent} (h : (x :: r).Sublist (y :: s)) : (x = y → r.Sublist s) ∧ (x ≠ y → (x :: r).Sublist s) := by
  cases h with
  | cons _ h => exact ⟨fun _ => (List.sublist_cons_self x r).trans h, fun _ => h⟩
  | cons_cons _ h => exact ⟨fun _ => h, fun hne => absurd rfl hne⟩

/-- What Merge answers. -/
def lefts (ls : List (List Mm.Ent)) : List (List Mm.Ent) := ls.filter fun x => decide (x ≠ [])
def mergeO (ls : List (List Mm.Ent)) : Option (List Mm.Ent) := mrg (total (lefts ls)) (lefts ls) []
def mergeE (ls : List (List Mm.Ent)) : Int := if ls.all inOrd = true then (if (mergeO ls).isSome = true then 0 else 9) else 10
def mergeL (ls : List (List Mm.Ent)) : List Mm.Ent := if ls.all inOrd = true then (mergeO ls).getD [] else []
theorem total_lefts (ls : List (List Mm.Ent)) : total (lefts ls) = total ls := by
  induction ls with
  | nil => rfl
  | cons x ls ih =>
    by_cases hx : x = []
    · subst hx
      have e : lefts ([] :: ls) = lefts ls := by unfold lefts; rw [List.filter_cons_of_neg (by simp)]
      rw [e, ih, total_cons, List.length_nil, Nat.zero_add]
    · have e : lefts (x :: ls) = x :: lefts ls := by unfold lefts; rw [List.filter_cons_of_pos (by simpa using hx)]
      rw [e, total_cons, ih, total_cons]
theorem merge_all (ls : List (List Mm.Ent)) (h : mergeE ls = 0) : (mergeL ls).length = total ls ∧ inOrd (mergeL ls) = true ∧ ∀ x ∈ ls, x.Sublist (mergeL ls) := by
  unfold mergeE at h
  split at h
  · rename_i hi
    split at h
    · rename_i hs
      obtain ⟨a, ha⟩ := Option.isSome_iff_exists.1 hs
      have e : mergeL ls = a := by unfold mergeL; rw [if_pos hi, ha]; rfl
      obtain ⟨t, h1, h2, h3, h4⟩ := mrg_ok _ (lefts ls) [] a (fun x hx => by have := (List.mem_filter.1 hx).2; simpa using this) (Nat.le_refl _) ha
      rw [List.nil_append] at h1
      subst h1
      rw [e]
      refine ⟨by rw [h2, total_lefts], h4 rfl, fun x hx => ?_⟩
      by_cases h0 : x = []
      · rw [h0]; exact List.nil_sublist _
      · exact h3 x (List.mem_filter.2 ⟨hx, by simpa using h0⟩)
    · omega
  · omega
theorem merge_bad (ls : List (List Mm.Ent)) (h : mergeE ls ≠ 0) : mergeL ls = [] ∧ (mergeE ls = 9 ∨ mergeE ls = 10) := by
  unfold mergeE at h ⊢
  unfold mergeL
  by_cases hi : ls.all inOrd = true
  · rw [if_pos hi] at h ⊢
    rw [if_pos hi]
    cases hm : mergeO ls with
    | none => exact ⟨rfl, .inl rfl⟩
    | some a => rw [hm] at h; exact absurd rfl h
  · rw [if_neg hi, if_neg hi]
    exact ⟨rfl, .inr rfl⟩
theorem mrg_step (l : List (List Mm.Ent)) (out : List Mm.Ent) (hl : l ≠ []) (hne : ∀ x ∈ l, x ≠ []) (hf : mayFollow out (hdAt l (fore l)) = true) : mrg (total l) l out = mrg (total (cutAt l (fore l))) (cutAt l (fore l)) (out ++ [hdAt l (fore l)]) := by
  have hi := fore_lt l hl
  have ht := total_cut l (fore l) hi (hne _ (List.getElem_mem hi))
  rw [← ht, mrg, if_neg hl, if_pos hf]
theorem mrg_stop (l : List (List Mm.Ent)) (out : List Mm.Ent) (hl : l ≠ []) (hne : ∀ x ∈ l, x ≠ []) (hf : mayFollow out (hdAt l (fore l)) = false) : mrg (total l) l out = none := by
  have hi := fore_lt l hl
  have ht := total_cut l (fore l) hi (hne _ (List.getElem_mem hi))
  rw [← ht, mrg, if_neg hl, if_neg (by rw [hf]; decide)]
theorem mrg_nil (out : List Mm.Ent) : mrg (total []) [] out = some out := rfl
theorem lefts_succ (ls : List (List Mm.Ent)) (j : Nat) (h : j < ls.length) : lefts (ls.take (j + 1)) = lefts (ls.take j) ++ (if ls[j] = [] then [] else [ls[j]]) := by
  unfold lefts
  rw [List.take_succ_eq_append_getElem h, List.filter_append]
  congr 1
  by_cases hx : ls[j] = []
  · rw [if_pos hx, List.filter_cons_of_neg (by simpa using hx)]; rfl
  · rw [if_neg hx, List.filter_cons_of_pos (by simpa using hx)]; rfl
theorem follow_nil (e : Mm.Ent) : mayFollow [] e = true := rfl
theorem follow_snoc (o : List Mm.Ent) (y e : Mm.Ent) : mayFollow (o ++ [y]) e = Mm.ahead y e := by
  unfold mayFollow
  simp
theorem lefts_ne (ls : List (List Mm.Ent)) : ∀ x ∈ lefts ls, x ≠ [] := fun x hx => by
  have := (List.mem_filter.1 hx).2
  simpa using this
theorem lefts_short (ls : List (List Mm.Ent)) (P : List Mm.Ent → Prop) (h : ∀ x ∈ ls, P x) : ∀ x ∈ lefts ls, P x := fun x hx => h x (List.mem_filter.1 hx).1
end Bk
end Go.Proofs.Ytbdgdigpnfpnhaa.Q
namespace Go.Proofs.Ytbdgdigpnfpnhaa.Q
open Go.RowKit

/-- Lists of entries, one value each: where they lie. -/
structure LLs (w : World) (vs : List Value) (ls : List (List Mm.Ent)) : Prop where
  len : vs.length = ls.length
  at' : ∀ k (h : k < ls.length) (h' : k < vs.length), ∃ a c, vs[k] = .slice a ls[k].length c ∧ ls[k].length ≤ c ∧ c ≤ 9223372036854775807 ∧ EntsAt w (.slice a ls[k].length c) ls[k]
theorem LLs.later {w w' : World} {vs : List Value} {ls : List (List Mm.Ent)} (h : LLs w vs ls) (hb : Below w.heap.size w w') : LLs w' vs ls :=
  ⟨h.len, fun k h1 h2 => by obtain ⟨a, c, e, h3, h4, h5⟩ := h.at' k h1 h2; exact ⟨a, c, e, h3, h4, h5.later hb⟩⟩

theorem head0 (l : List Mm.Ent) (h : 0 < l.length) (d : Mm.Ent) : l[0] = l.headD d := by
  cases l with
  | nil => simp at h
  | cons y r => rfl
/-- The first entry of a list that has one. -/
theorem LLs.first {w : World} {vs : List Value} {ls : List (List Mm.Ent)} (h : LLs w vs ls) (k : Nat) (h1 : k < ls.length) (hne : ls[k] ≠ []) (h2 : k < vs.length) :
    ∃ b off m c, vs[k] = .slice (some ⟨b, off, none⟩) (m + 1) c ∧ ls[k].length = m + 1 ∧ m + 1 ≤ c ∧ c ≤ 9223372036854775807 ∧ EntsAt w (.slice (some ⟨b, off, none⟩) (m + 1) c) ls[k] ∧
      (w.cell? ⟨b, off, none⟩ = some (str (Bk.hdAt ls k).key) ∧ w.cell? ⟨b, off + 1, none⟩ = some (str (Bk.hdAt ls k).value) ∧ w.cell? ⟨b, off + 2, none⟩ = some (.int .i64 (Bk.hdAt ls k).seq) ∧ w.cell? ⟨b, off + 3, none⟩ = some (.bool (Bk.hdAt ls k).del)) := by
  obtain ⟨a, c, e, h3, h4, h5⟩ := h.at' k h1 h2
  have h0 : 0 < ls[k].length := List.length_pos_iff.2 hne
  obtain ⟨b, off, rfl⟩ := h5.some h0
  obtain ⟨m, hm⟩ : ∃ m, ls[k].length = m + 1 := ⟨ls[k].length - 1, by omega⟩
  have hc := h5.cells 0 h0
  have hd : ls[k][0] = Bk.hdAt ls k := by
    unfold Bk.hdAt
    rw [Bk.getD_at ls k h1]
    exact head0 _ h0 _
  rw [hd, Nat.zero_mul, Nat.add_zero] at hc
  rw [hm] at e h3 h5
  exact ⟨b, off, m, c, e, hm, h3, h4, h5, hc⟩

set_option maxRecDepth 100000 in
set_option maxHeartbeats 4000000 in
theorem foremost_any (w : World) (g n cap : Nat) (vs : List Value) (ls : List (List Mm.Ent)) (hn : n = ls.length) (hc : ∀ k (h : k < vs.length), w.cell? ⟨g, k, none⟩ = some vs[k]) (hL : LLs w vs ls) (hne : ∀ x ∈ ls, x ≠ []) (h0 : 0 < n) (hn2 : n ≤ 1000000) :
    Calls Try.prog 62 #[.slice (some ⟨g, 0, none⟩) n cap] w fun e w' => e = .returned (.int .i64 ((Bk.fore ls : Nat) : Int)) ∧ Below w.heap.size w w' := by
  have HN : Hid (n = ls.length) := hn
  have HC : Hid (∀ k (h : k < vs.length), w.cell? ⟨g, k, none⟩ = some vs[k]) := hc
  have HL := hide hL
  have HNE : Hid (∀ x ∈ ls, x ≠ []) := hne
  clear hn hc hL hne
  go_enter Try.func62, Try.ntmps62
  go_wp2_with (fail)
  go_loopw [3, 8] (fun x i wr => ∃ (j bst : Nat), j ≤ n ∧ bst < n ∧ i = .int .i64 j ∧ x = .int .i64 bst ∧ Hid (bst = Bk.foreN ls j) ∧ Below w.heap.size w wr) (fun _ i _ => n - (intOf i).toNat)
  case atStart => exact ⟨0, 0, Nat.zero_le _, h0, rfl, rfl, rfl, Below.refl _ _⟩
  case round =>
    obtain ⟨j, bst, hj, hb, rfl, rfl, HB, bx⟩ := hrel
    by_cases hlt : j < n
    · have jl : j < ls.length := by have := HN.out; omega
      have jv : j < vs.length := by rw [HL.out.len]; exact jl
      have bl : bst < ls.length := by have := HN.out; omega
      have bv : bst < vs.length := by rw [HL.out.len]; exact bl
      obtain ⟨b1, o1, m1, c1, e1, l1, k1, f1, f2, x0, x1, x2, x3⟩ := (HL.out).first j jl (HNE.out _ (List.getElem_mem jl)) jv
      obtain ⟨b2, o2, m2, c2, e2, l2, k2, f3, f4, y0, y1, y2, y3⟩ := (HL.out).first bst bl (HNE.out _ (List.getElem_mem bl)) bv
      clear f1 f2 f3 f4 l1 l2
      have vj := HC.out j jv
      have vb := HC.out bst bv
      rw [e1] at vj
      rw [e2] at vb
      have AH : Hid (∀ wx, Calls Try.prog 13 #[entV (Bk.hdAt ls j), entV (Bk.hdAt ls bst)] wx fun e w' => e = .returned (.bool (Mm.ahead (Bk.hdAt ls j) (Bk.hdAt ls bst))) ∧ Below wx.heap.size wx w') := fun wx => ahead_any wx _ _
      have HNX : Hid (Bk.foreN ls (j + 1) = if Mm.ahead (Bk.hdAt ls j) (Bk.hdAt ls bst) = true then j else bst) := by show _ = _; rw [Bk.foreN, ← HB.out]
      generalize Bk.hdAt ls j = X at *
      generalize Bk.hdAt ls bst = Y at *
      have KC : Hid (∀ wx, Below w.heap.size w wx → ((wx.cell? ⟨b1, o1, none⟩ = some (str X.key) ∧ wx.cell? ⟨b1, o1 + 1, none⟩ = some (str X.value) ∧ wx.cell? ⟨b1, o1 + 2, none⟩ = some (.int .i64 X.seq) ∧ wx.cell? ⟨b1, o1 + 3, none⟩ = some (.bool X.del)) ∧ wx.cell? ⟨g, bst, none⟩ = some (.slice (some ⟨b2, o2, none⟩) (m2 + 1) c2) ∧ wx.cell? ⟨b2, o2, none⟩ = some (str Y.key) ∧ wx.cell? ⟨b2, o2 + 1, none⟩ = some (str Y.value) ∧ wx.cell? ⟨b2, o2 + 2, none⟩ = some (.int .i64 Y.seq) ∧ wx.cell? ⟨b2, o2 + 3, none⟩ = some (.bool Y.del))) := fun wx hw =>
        ⟨⟨keepC hw x0, keepC hw x1, keepC hw x2, keepC hw x3⟩, keepC hw vb, keepC hw y0, keepC hw y1, keepC hw y2, keepC hw y3⟩
      have P1 := KC.out wr.drew bx.drew
      have cj := keepC bx vj
      have z1 : (0 : Int) < ((m1 + 1 : Nat) : Int) := by omega
      have z2 : (0 : Int) < ((m2 + 1 : Nat) : Int) := by omega
      have z1' : (0 : Int) < (m1 : Int) + 1 := by omega
      have z2' : (0 : Int) < (m2 : Int) + 1 := by omega
      have jn : (j : Int) < (n : Int) := by omega
      have bn : (bst : Int) < (n : Int) := by omega
      obtain ⟨R, hR⟩ : ∃ R, R = Mm.ahead X Y := ⟨_, rfl⟩
      rw [← hR] at AH HNX
      clear x0 x1 x2 x3 y0 y1 y2 y3 vj vb e1 e2 hR jl jv bl bv HB
      cases R
      · have HNX' : Hid (bst = Bk.foreN ls (j + 1)) := by show _ = _; rw [HNX.out]; rfl
        clear HNX
        go_wp2_with (fail)
        go_region_held3 (fun wx => (wx.cell? ⟨b1, o1, none⟩ = some (str X.key) ∧ wx.cell? ⟨b1, o1 + 1, none⟩ = some (str X.value) ∧ wx.cell? ⟨b1, o1 + 2, none⟩ = some (.int .i64 X.seq) ∧ wx.cell? ⟨b1, o1 + 3, none⟩ = some (.bool X.del)) ∧ wx.cell? ⟨g, bst, none⟩ = some (.slice (some ⟨b2, o2, none⟩) (m2 + 1) c2) ∧ wx.cell? ⟨b2, o2, none⟩ = some (str Y.key) ∧ wx.cell? ⟨b2, o2 + 1, none⟩ = some (str Y.value) ∧ wx.cell? ⟨b2, o2 + 2, none⟩ = some (.int .i64 Y.seq) ∧ wx.cell? ⟨b2, o2 + 3, none⟩ = some (.bool Y.del))
          (first | exact P1 | exact P2)
          (first
            | (go_at_call 13; refine (AH.out _).mono ?_; rintro r w8 ⟨rfl, b8⟩; have D8 := bx.drew.trans (b8.mono bx.drew.size); have P2 := KC.out _ D8))
        go_wp2_with (fail)
        exact ⟨⟨j + 1, bst, by omega, hb, by go_num, rfl, HNX', D8⟩, by simp [intOf]; omega⟩
      · have HNX' : Hid (j = Bk.foreN ls (j + 1)) := by show _ = _; rw [HNX.out]; rfl
        clear HNX
        go_wp2_with (fail)
        go_region_held3 (fun wx => (wx.cell? ⟨b1, o1, none⟩ = some (str X.key) ∧ wx.cell? ⟨b1, o1 + 1, none⟩ = some (str X.value) ∧ wx.cell? ⟨b1, o1 + 2, none⟩ = some (.int .i64 X.seq) ∧ wx.cell? ⟨b1, o1 + 3, none⟩ = some (.bool X.del)) ∧ wx.cell? ⟨g, bst, none⟩ = some (.slice (some ⟨b2, o2, none⟩) (m2 + 1) c2) ∧ wx.cell? ⟨b2, o2, none⟩ = some (str Y.key) ∧ wx.cell? ⟨b2, o2 + 1, none⟩ = some (str Y.value) ∧ wx.cell? ⟨b2, o2 + 2, none⟩ = some (.int .i64 Y.seq) ∧ wx.cell? ⟨b2, o2 + 3, none⟩ = some (.bool Y.del))
          (first | exact P1 | exact P2)
          (first
            | (go_at_call 13; refine (AH.out _).mono ?_; rintro r w8 ⟨rfl, b8⟩; have D8 := bx.drew.trans (b8.mono bx.drew.size); have P2 := KC.out _ D8))
        go_wp2_with (fail)
        exact ⟨⟨j + 1, j, by omega, hlt, by go_num, rfl, HNX', D8⟩, by simp [intOf]; omega⟩
    · have HE : Hid (bst = Bk.fore ls) := by
        show _ = _
        have e : j = ls.length := by have := HN.out; omega
        rw [HB.out, e]
        rfl
      have jn : ¬ (j : Int) < (n : Int) := by omega
      go_wp2_with (fail)
      go_ret
      rw [HE.out]
      exact ⟨rfl, bx⟩
end Go.Proofs.Ytbdgdigpnfpnhaa.Q
namespace Go.Proofs.Ytbdgdigpnfpnhaa.Q
open Go.RowKit

/-- Values put over those from a place on. -/
def over : List Value → Nat → List Value → List Value
  | xs, _, [] => xs
  | xs, o, v :: vs => over (xs.set o v) (o + 1) vs
theorem over_is : ∀ (vs xs : List Value) (o : Nat), o + vs.length ≤ xs.length → over xs o vs = xs.take o ++ (vs ++ xs.drop (o + vs.length))
  | [], xs, o, _ => by simp [over]
  | v :: vs, xs, o, h => by
    rw [List.length_cons] at h
    have h1 : o < xs.length := by omega
    rw [over, over_is vs (xs.set o v) (o + 1) (by rw [List.length_set]; omega), List.length_cons, List.drop_set_of_lt (by omega), List.take_set]
    have e : (xs.take (o + 1)).set o v = xs.take o ++ [v] := by
      rw [List.take_succ_eq_append_getElem h1, List.set_append_right _ _ (by rw [List.length_take]; omega), List.length_take, Nat.min_eq_left (by omega), Nat.sub_self]
      rfl
    rw [e, show o + 1 + vs.length = o + (vs.length + 1) from by omega]
    simp

theorem own_over {base g n cap e : Nat} : ∀ (vs xs : List Value) (o : Nat) (w : World), w.ownsRow base e 1 (.slice (some ⟨g, 0, none⟩) n cap) n xs → (w.setCells g o vs).ownsRow base e 1 (.slice (some ⟨g, 0, none⟩) n cap) n (over xs o vs) ∧ w.grownBy (w.setCells g o vs) (some g)
  | [], _, _, w, h => ⟨h, World.grownBy.refl _ _⟩
  | v :: vs, xs, o, w, h => by
    obtain ⟨s1, s2⟩ := h.stored o v
    obtain ⟨t1, t2⟩ := own_over vs (xs.set o v) (o + 1) _ s1
    have hb : w.grownBy ((w.setCell ⟨g, o, none⟩ v).setCells g (o + 1) vs) (some g) :=
      ⟨t2.os.trans s2.os, t2.tape.trans s2.tape, t2.output.trans s2.output, Nat.le_trans s2.size t2.size, fun i hi hne => (t2.block i (Nat.lt_of_lt_of_le hi s2.size) hne).trans (s2.block i hi hne)⟩
    exact ⟨t1, hb⟩

theorem erase_over (xs : List Value) (i : Nat) (z : Value) (h : i < xs.length) : (over (over xs i (xs.drop (i + 1))) (xs.length - 1) [z]).take (xs.length - 1) = xs.eraseIdx i := by
  have h1 : i + (xs.drop (i + 1)).length = xs.length - 1 := by rw [List.length_drop]; omega
  have e1 := over_is (xs.drop (i + 1)) xs i (by omega)
  have l1 : (over xs i (xs.drop (i + 1))).length = xs.length := by
    rw [e1]; simp only [List.length_append, List.length_take, List.length_drop]; omega
  have e2 := over_is [z] (over xs i (xs.drop (i + 1))) (xs.length - 1) (by rw [l1, List.length_singleton]; omega)
  rw [e2, List.take_append_of_le_length (by rw [List.length_take, l1]; omega), List.take_take, Nat.min_self, e1, ← List.append_assoc, List.take_append_of_le_length (by rw [List.length_append, List.length_take]; omega), List.take_of_length_le (by rw [List.length_append, List.length_take]; omega), List.eraseIdx_eq_take_drop_succ]

theorem infoLE2 : (Try.prog.info? 23).map (fun i => (i.zero, i.size, i.bytes)) = some (some (.slice none 0 0), 1, 24) := by kernel_rfl
theorem zeroLE (w : World) : (zeroValue 23).run Try.prog w = .ok (.slice none 0 0) w := by
  obtain ⟨i0, hi, hz0, _, _⟩ := info_parts infoLE2
  simp [zeroValue, typeInfo, hi, hz0]

set_option maxRecDepth 100000 in
set_option maxHeartbeats 4000000 in
theorem delete_any (w : World) (base g n cap i : Nat) (xs : List Value) (hn : n = xs.length) (ho : w.ownsRow base 23 1 (.slice (some ⟨g, 0, none⟩) n cap) n xs) (h1 : ∀ u ∈ xs, u.oneCell' = true) (hi : i < n) (hnc : n ≤ cap) (_hcap : cap ≤ 9223372036854775807) :
    Calls Try.prog 64 #[.slice (some ⟨g, 0, none⟩) n cap, .int .i64 (i : Int), .int .i64 ((i : Int) + 1)] w fun e w' => e = .returned (.slice (some ⟨g, 0, none⟩) (n - 1) cap) ∧ w'.ownsRow base 23 1 (.slice (some ⟨g, 0, none⟩) (n - 1) cap) (n - 1) (xs.eraseIdx i) ∧ w.grownBy w' (some g) := by
  obtain ⟨i0, hi0, hz0, hz1, hz2⟩ := info_parts infoLE2
  obtain ⟨news, hnews⟩ : ∃ news, news = xs.drop (i + 1) := ⟨_, rfl⟩
  have hlen : news.length = n - (i + 1) := by rw [hnews, List.length_drop, hn]
  have cellX : ∀ j (h : j < xs.length), w.cell? ⟨g, j, none⟩ = some xs[j] := fun j h => by rw [ho.cellAt j (by omega), List.getElem?_eq_getElem h]
  obtain ⟨A, hA, hsrc⟩ : ∃ A : Addr, (if cap = i + 1 then some (⟨g, 0, none⟩ : Addr) else some ⟨g, i + 1, none⟩) = some A ∧ Hid (∀ t u, news[t]? = some u → w.drew.cell? (A.add t) = some u) := by
    by_cases h : cap = i + 1
    · refine ⟨⟨g, 0, none⟩, by simp [h], fun t u hu => ?_⟩
      rw [List.length_eq_zero_iff.1 (show news.length = 0 by omega)] at hu
      simp at hu
    · refine ⟨⟨g, i + 1, none⟩, by simp [h], fun t u hu => ?_⟩
      obtain ⟨ht, hu'⟩ := List.getElem?_eq_some_iff.1 hu
      have hadd : (⟨g, i + 1, none⟩ : Addr).add t = ⟨g, i + 1 + t, none⟩ := by unfold Addr.add; split <;> simp_all
      rw [hadd]
      show w.cell? _ = _
      rw [cellX (i + 1 + t) (by omega), ← hu']
      congr 1
      simp [hnews]
  have s1 : Hid (news.length = (n - (i + 1)) * 1) := by rw [Nat.mul_one]; exact hlen
  have s2 : Hid (∀ u ∈ news, u.oneCell' = true) := fun u hu => h1 u (by rw [hnews] at hu; exact List.mem_of_mem_drop hu)
  have s3 : Hid (∀ t, t < news.length → (w.drew.cell? ⟨g, 0 + i * 1 + t, none⟩).isSome = true ∧ w.drew.frozen? ⟨g, 0 + i * 1 + t, none⟩ = false) := fun t ht => by
    refine ⟨?_, ho.frozenAt _⟩
    show (w.cell? _).isSome = true
    rw [show 0 + i * 1 + t = i + t by omega, cellX (i + t) (by omega)]
    rfl
  obtain ⟨W1, hW1⟩ : ∃ W1, W1 = w.drew.setCells g (0 + i * 1) news := ⟨_, rfl⟩
  obtain ⟨r1, g1⟩ := own_over news xs i w.drew (e := 23) (base := base) (g := g) (n := n) (cap := cap) ho.drew
  have hW1' : W1 = w.drew.setCells g i news := by rw [hW1, show 0 + i * 1 = i by omega]
  rw [← hW1'] at r1 g1
  obtain ⟨r2, g2⟩ := own_over [Value.slice none 0 0] (over xs i news) (n - 1) W1 r1
  have hl1 : (over xs i news).length = n := by have := r1.1; omega
  have hcl : ∀ ty, (Builtin.clear_ #[51] ty #[.slice (some ⟨g, n - 1, none⟩) 1 (cap - (n - 1))]).run Try.prog W1 = .ok (.tuple #[]) (W1.setCells g (n - 1) [.slice none 0 0]) :=
    fun ty => Lib.run_clear_slice W1 _ _ ty _ Try.underlying51 zeroLE rfl rfl g (n - 1) 1 _ (by decide) (fun t ht => by rw [show n - 1 + t = n - 1 by omega, r1.cellAt (n - 1) (by omega), List.getElem?_eq_getElem (by omega)]; rfl) (fun t ht => r1.frozenAt _)
  have FIN : Hid ((W1.setCells g (n - 1) [.slice none 0 0]).ownsRow base 23 1 (.slice (some ⟨g, 0, none⟩) (n - 1) cap) (n - 1) (xs.eraseIdx i) ∧ w.grownBy (W1.setCells g (n - 1) [.slice none 0 0]) (some g)) := by
    refine ⟨⟨by rw [List.length_eraseIdx, if_pos (by omega)]; omega, .inr ?_⟩, grownBy_undrew (⟨g2.os.trans g1.os, g2.tape.trans g1.tape, g2.output.trans g1.output, Nat.le_trans g1.size g2.size, fun k hk hne => (g2.block k (Nat.lt_of_lt_of_le hk g1.size) hne).trans (g1.block k hk hne)⟩ : w.drew.grownBy _ (some g))⟩
    rcases r2.2 with ⟨e, _⟩ | ⟨g', cap', cur, e, q1, q2, q3, q4, q5, q6⟩
    · cases e
    · simp only [Value.slice.injEq, Option.some.injEq, Addr.mk.injEq, and_true, true_and] at e
      obtain ⟨rfl, rfl⟩ := e
      refine ⟨g, cap, cur, rfl, q1, q2, by omega, q4, q5, ?_⟩
      have e1 := erase_over xs i (.slice none 0 0) (by omega)
      rw [← hnews, ← hn] at e1
      rw [← e1, ← q6, List.take_take, Nat.mul_one, Nat.mul_one, Nat.min_eq_left (by omega)]
  have hW : Hid (W1 = w.drew.setCells g (0 + i * 1) news) := hW1
  have i1 : (i : Int) ≤ (i : Int) + 1 := by omega
  have i2 : (i : Int) + 1 ≤ (n : Int) := by omega
  have i3 : (n : Int) ≤ (cap : Int) := by omega
  have i4 : ((i : Int) == (i : Int) + 1) = false := by simp; omega
  have i5 : (i : Int) ≤ (cap : Int) := by omega
  have i7 : (0 : Int) ≤ (i : Int) + 1 := by omega
  have i6 : i + (n - (i + 1)) = n - 1 := by omega
  clear hW1 hW1' r1 r2 g1 g2 hnews hlen cellX hl1 hn h1 ho
  go_enter Try.func64, Try.ntmps64
  go_wp2_with (fail)
  go_region_law (refine step_append_room rfl (.tmp 22) (.tmp 25) 51 rfl 23 i0 1 Try.underlying51 hi0 hz1 g 0 i cap (by simp [Act.eval, Act.put]) A (n - (i + 1)) (cap - (i + 1)) news (by simp [Act.eval, Act.put]) s1.out hsrc.out s2.out (by omega) s3.out ?_; rw [← hW.out])
  have i8 : n - (n - 1) = 1 := by omega
  have i9 : ¬ cap = n - 1 := by omega
  have i10 : ((n - 1 : Nat) : Int) ≤ (n : Int) := by omega
  go_wp2_with (fail)
  go_ret
  exact ⟨rfl, FIN.out.1, FIN.out.2⟩
end Go.Proofs.Ytbdgdigpnfpnhaa.Q
namespace Go.Proofs.Ytbdgdigpnfpnhaa.Q
open Go.RowKit

theorem LLs.erase {w : World} {vs : List Value} {ls : List (List Mm.Ent)} (h : LLs w vs ls) (i : Nat) (hi : i < ls.length) : LLs w (vs.eraseIdx i) (ls.eraseIdx i) := by
  have hl := h.len
  refine ⟨by rw [List.length_eraseIdx, List.length_eraseIdx, if_pos (by omega), if_pos hi, hl], fun k h1 h2 => ?_⟩
  rw [List.length_eraseIdx, if_pos hi] at h1
  by_cases hk : k < i
  · obtain ⟨a, c, e, h3⟩ := h.at' k (by omega) (by omega)
    rw [List.getElem_eraseIdx_of_lt _ hk, List.getElem_eraseIdx_of_lt _ hk]
    exact ⟨a, c, e, h3⟩
  · obtain ⟨a, c, e, h3⟩ := h.at' (k + 1) (by omega) (by omega)
    rw [List.getElem_eraseIdx_of_ge _ (by omega), List.getElem_eraseIdx_of_ge _ (by omega)]
    exact ⟨a, c, e, h3⟩
theorem LLs.put {w : World} {vs : List Value} {ls : List (List Mm.Ent)} (h : LLs w vs ls) (i : Nat) (v : Value) (l : List Mm.Ent) (hv : ∃ a c, v = .slice a l.length c ∧ l.length ≤ c ∧ c ≤ 9223372036854775807 ∧ EntsAt w (.slice a l.length c) l) : LLs w (vs.set i v) (ls.set i l) := by
  have hl := h.len
  refine ⟨by simp [hl], fun k h1 h2 => ?_⟩
  rw [List.length_set] at h1 h2
  by_cases hk : i = k
  · subst hk
    rw [List.getElem_set_self, List.getElem_set_self]
    exact hv
  · rw [List.getElem_set_ne hk, List.getElem_set_ne hk]
    exact h.at' k h1 h2
theorem LLs.snoc {w : World} {vs : List Value} {ls : List (List Mm.Ent)} (h : LLs w vs ls) (v : Value) (l : List Mm.Ent) (hv : ∃ a c, v = .slice a l.length c ∧ l.length ≤ c ∧ c ≤ 9223372036854775807 ∧ EntsAt w (.slice a l.length c) l) : LLs w (vs ++ [v]) (ls ++ [l]) := by
  have hl := h.len
  refine ⟨by simp [hl], fun k h1 h2 => ?_⟩
  rw [List.length_append, List.length_singleton] at h1 h2
  by_cases hk : k < ls.length
  · rw [List.getElem_append_left (by omega), List.getElem_append_left hk]
    exact h.at' k hk (by omega)
  · obtain rfl : k = ls.length := by omega
    rw [List.getElem_append_right (by omega), List.getElem_append_right (by omega)]
    simp only [hl, Nat.sub_self, List.getElem_cons_zero]
    exact hv
theorem LLs.nil (w : World) : LLs w [] [] := ⟨rfl, fun k h _ => by simp at h⟩
theorem LLs.one {w : World} {vs : List Value} {ls : List (List Mm.Ent)} (h : LLs w vs ls) : ∀ u ∈ vs, u.oneCell' = true := fun u hu => by
  obtain ⟨k, hk, rfl⟩ := List.mem_iff_getElem.1 hu
  obtain ⟨a, c, e, _⟩ := h.at' k (by have := h.len; omega) hk
  rw [e]; rfl

/-- What is behind the first entry. -/
theorem ents_behind {w : World} {b off m c : Nat} {l : List Mm.Ent} (h : EntsAt w (.slice (some ⟨b, off, none⟩) (m + 1) c) l) (hl : l.length = m + 1) (A : Addr) (hA : (if c = 1 then some (⟨b, off, none⟩ : Addr) else some ⟨b, off + 4, none⟩) = some A) (hc : m + 1 ≤ c) : EntsAt w (.slice (some A) m (c - 1)) l.tail := by
  have ht : l.tail.length = m := by rw [List.length_tail]; omega
  refine ⟨⟨some A, c - 1, by rw [ht], fun h0 => ?_⟩⟩
  have hm : 0 < m := by
    have := List.length_pos_iff.2 h0
    omega
  rw [if_neg (by omega)] at hA
  obtain rfl := (Option.some.inj hA).symm
  refine ⟨b, off + 4, rfl, fun j hj => ?_⟩
  have := h.cells (j + 1) (by omega)
  have e1 : off + (j + 1) * 4 = off + 4 + j * 4 := by omega
  rw [e1] at this
  have e2 : l.tail[j] = l[j + 1] := by simp
  rw [e2]
  exact this

theorem entInfo : (Try.prog.info? 38).map (fun i => (i.zero, i.size, i.bytes)) = some (some (.agg #[.string ⟨#[]⟩, .string ⟨#[]⟩, .int .i64 0, .bool false]), 4, 48) := by kernel_rfl

/-- One entry put behind entries that the call owns, none of them, too. -/
theorem wpList_app_ent (w : World) {ops : Array Oper} {rest : List Oper} {o : Oper} {a : Act} {Q : Exit → Act → World → Prop} (hg : o.guard = none) (s x : Operand)
    (hop : o.op = .call { callee := .builtin .append, args := #[s, x], argTypes := #[23, 23] })
    (base : Nat) (v : Value) (O : List Mm.Ent) (e : Mm.Ent) (n : Nat) (hn : n = O.length) (hs : a.eval s = v) (hown : w.ownsRow base 38 4 v n (ecs O))
    (B : Nat) (hx : a.eval x = .slice (some ⟨B, 0, none⟩) 1 1) (hB : ∀ j u, (ec e)[j]? = some u → w.cell? ⟨B, j, none⟩ = some u) (hroom : n + 1 ≤ 1000000) (hbase : base ≤ w.heap.size)
    (h : ∀ g' cap' w', w'.ownsRow base 38 4 (.slice (some ⟨g', 0, none⟩) (n + 1) cap') (n + 1) (ecs (O ++ [e])) → w.grownBy w' v.ownBlock → (v.ownBlock = some g' ∨ g' = w.heap.size) → g' < w'.heap.size → wpList Try.prog ops Q rest (a.put o.dst (.slice (some ⟨g', 0, none⟩) (n + 1) cap')) w') :
    wpList Try.prog ops Q (o :: rest) a w := by
  obtain ⟨i0, hi, hz0, hz1, hz2⟩ := info_parts entInfo
  refine wpList_append_lies w hg s x 23 hop base 38 i0 _ 4 48 Try.underlying23 hi hz0 hz1 hz2 rfl (by decide) v n (ecs O) hs hown ⟨B, 0, none⟩ 1 1 (ec e) hx rfl (fun j u hu => ?_) (fun u hu => ecs_one [e] u (by simpa [ecs] using hu)) (by decide) (by unfold maxLen; omega) (by omega) hbase w.heap.size rfl ?_
  · have hadd : (⟨B, 0, none⟩ : Addr).add j = ⟨B, j, none⟩ := by unfold Addr.add; split <;> simp_all
    rw [hadd]
    exact hB j u hu
  · intro g' cap' w' h1 h2 h3 h4
    refine h g' cap' w' ?_ h2 h3 h4
    rw [ecs_append, show ecs [e] = ec e from by simp [ecs]]
    exact h1
/-- One list put behind lists that the call owns, none of them, too. -/
theorem wpList_app_list (w : World) {ops : Array Oper} {rest : List Oper} {o : Oper} {a : Act} {Q : Exit → Act → World → Prop} (hg : o.guard = none) (s x : Operand)
    (hop : o.op = .call { callee := .builtin .append, args := #[s, x], argTypes := #[51, 51] })
    (base : Nat) (v : Value) (vs : List Value) (u : Value) (n : Nat) (hu : u.oneCell' = true) (hs : a.eval s = v) (hown : w.ownsRow base 23 1 v n vs)
    (B : Nat) (hx : a.eval x = .slice (some ⟨B, 0, none⟩) 1 1) (hB : w.cell? ⟨B, 0, none⟩ = some u) (hroom : n + 1 ≤ 1000000) (hbase : base ≤ w.heap.size)
    (h : ∀ g' cap' w', w'.ownsRow base 23 1 (.slice (some ⟨g', 0, none⟩) (n + 1) cap') (n + 1) (vs ++ [u]) → w.grownBy w' v.ownBlock → wpList Try.prog ops Q rest (a.put o.dst (.slice (some ⟨g', 0, none⟩) (n + 1) cap')) w') :
    wpList Try.prog ops Q (o :: rest) a w := by
  obtain ⟨i0, hi, hz0, hz1, hz2⟩ := info_parts infoLE2
  refine wpList_append_lies w hg s x 51 hop base 23 i0 _ 1 24 Try.underlying51 hi hz0 hz1 hz2 rfl (by decide) v n vs hs hown ⟨B, 0, none⟩ 1 1 [u] hx rfl (fun j y hy => ?_) (fun y hy => by rw [List.mem_singleton.mp hy]; exact hu) (by decide) (by unfold maxLen; omega) (by omega) hbase w.heap.size rfl (fun g' cap' w' h1 h2 _ _ => h g' cap' w' h1 h2)
  cases j with
  | zero =>
    have hadd : (⟨B, 0, none⟩ : Addr).add 0 = ⟨B, 0, none⟩ := by unfold Addr.add; split <;> simp_all
    rw [hadd, hB]
    simpa using hy
  | succ j => simp at hy

/-- How it stands in the second loop. -/
structure Mg (w : World) (ls : List (List Mm.Ent)) (va vb : Option Addr) (m cp p cq : Nat) (us : List Value) (Lf : List (List Mm.Ent)) (O : List Mm.Ent) (wr : World) : Prop where
  left : wr.ownsRow w.heap.size 23 1 (.slice va m cp) m us
  out : wr.ownsRow w.heap.size 38 4 (.slice vb p cq) p (ecs O)
  ml : m = Lf.length
  pl : p = O.length
  lists : LLs w us Lf
  ne : ∀ x ∈ Lf, x ≠ []
  sum : O.length + Bk.total Lf = Bk.total ls
  same : Bk.mrg (Bk.total Lf) Lf O = Bk.mergeO ls
  short : ∀ x ∈ Lf, ∀ y ∈ x, y.key.length ≤ 1000000 ∧ y.value.length ≤ 1000000
  apart : ∀ g, (Value.slice va m cp).ownBlock = some g → (Value.slice vb p cq).ownBlock ≠ some g
  bel : Below w.heap.size w wr

theorem own_laterV {w w' : World} {base e size n : Nat} {v : Value} {xs : List Value} (h : w.ownsRow base e size v n xs) (hb : Below w.heap.size w w') : w'.ownsRow base e size v n xs :=
  h.kept (w' := w') (row := none) ⟨hb.os, hb.tape, hb.output, hb.size, fun k hk _ => hb.block k hk⟩ (none_kept _)
theorem set_erase (us : List Value) (i : Nat) (v : Value) : (us.set i v).eraseIdx i = us.eraseIdx i := by
  induction us generalizing i with
  | nil => simp
  | cons x us ih =>
    cases i with
    | zero => simp
    | succ i => simp [ih]

/-- One round. -/
theorem Mg.step {w : World} {ls : List (List Mm.Ent)} {g4 : Nat} {vb : Option Addr} {m cp p cq : Nat} {us : List Value} {Lf : List (List Mm.Ent)} {O : List Mm.Ent} {wr : World} (M : Mg w ls (some ⟨g4, 0, none⟩) vb m cp p cq us Lf O wr) (hl : Lf ≠ []) (hf : Bk.mayFollow O (Bk.hdAt Lf (Bk.fore Lf)) = true)
    {W3 w4 : World} {g' cap' : Nat} (b3 : Below wr.heap.size wr W3) (o4 : w4.ownsRow w.heap.size 38 4 (.slice (some ⟨g', 0, none⟩) (p + 1) cap') (p + 1) (ecs (O ++ [Bk.hdAt Lf (Bk.fore Lf)]))) (gr : W3.grownBy w4 (Value.slice vb p cq).ownBlock) (hat : (Value.slice vb p cq).ownBlock = some g' ∨ g' = W3.heap.size)
    (v' : Value) (hv : ∃ a c, v' = .slice a (Lf.getD (Bk.fore Lf) []).tail.length c ∧ (Lf.getD (Bk.fore Lf) []).tail.length ≤ c ∧ c ≤ 9223372036854775807 ∧ EntsAt w (.slice a (Lf.getD (Bk.fore Lf) []).tail.length c) (Lf.getD (Bk.fore Lf) []).tail) :
    w4.ownsRow w.heap.size 23 1 (.slice (some ⟨g4, 0, none⟩) m cp) m us ∧ Below w.heap.size w w4 ∧
    ((Lf.getD (Bk.fore Lf) []).tail ≠ [] → Mg w ls (some ⟨g4, 0, none⟩) (some ⟨g', 0, none⟩) m cp (p + 1) cap' (us.set (Bk.fore Lf) v') (Bk.cutAt Lf (Bk.fore Lf)) (O ++ [Bk.hdAt Lf (Bk.fore Lf)]) (w4.setCell ⟨g4, Bk.fore Lf, none⟩ v')) ∧
    (w4.setCell ⟨g4, Bk.fore Lf, none⟩ v').ownsRow w.heap.size 23 1 (.slice (some ⟨g4, 0, none⟩) m cp) m (us.set (Bk.fore Lf) v') ∧
    ((Lf.getD (Bk.fore Lf) []).tail = [] → ∀ w6, w6.ownsRow w.heap.size 23 1 (.slice (some ⟨g4, 0, none⟩) (m - 1) cp) (m - 1) ((us.set (Bk.fore Lf) v').eraseIdx (Bk.fore Lf)) → (w4.setCell ⟨g4, Bk.fore Lf, none⟩ v').grownBy w6 (some g4) → Mg w ls (some ⟨g4, 0, none⟩) (some ⟨g', 0, none⟩) (m - 1) cp (p + 1) cap' (us.eraseIdx (Bk.fore Lf)) (Bk.cutAt Lf (Bk.fore Lf)) (O ++ [Bk.hdAt Lf (Bk.fore Lf)]) w6) := by
  have hi := Bk.fore_lt Lf hl
  have hni := M.ne _ (List.getElem_mem hi)
  have htc := Bk.total_cut Lf (Bk.fore Lf) hi hni
  have hstep := Bk.mrg_step Lf O hl M.ne hf
  clear hf
  generalize Bk.fore Lf = i at *
  have hb4 := (M.left.lt g4 rfl)
  have hne4 : g' ≠ g4 := by
    rcases hat with h | h
    · intro e
      exact M.apart g4 rfl (by rw [← e]; exact h)
    · have := b3.size; omega
  have l3 := own_laterV M.left b3
  have l4 : w4.ownsRow w.heap.size 23 1 (.slice (some ⟨g4, 0, none⟩) m cp) m us := l3.kept gr (.inr (fun e => M.apart g4 rfl e.symm))
  have B3 : Below w.heap.size w W3 := M.bel.trans (b3.mono M.bel.size)
  have B4 : Below w.heap.size w w4 := B3.grown gr B3.size (fun k e => (M.out.lt k e).1)
  obtain ⟨l5, g5⟩ := l4.stored i v'
  have B5 : Below w.heap.size w (w4.setCell ⟨g4, i, none⟩ v') := B4.grown g5 B4.size (fun k e => by have := Option.some.inj e; omega)
  have o5 := o4.kept g5 (.inr (fun e => hne4 (Option.some.inj e)))
  have hlen : (O ++ [Bk.hdAt Lf i]).length = p + 1 := by rw [List.length_append, ← M.pl]; rfl
  have hsum : (O ++ [Bk.hdAt Lf i]).length + Bk.total (Bk.cutAt Lf i) = Bk.total ls := by have := M.sum; have := M.pl; omega
  have hcn := Bk.cut_ne Lf i M.ne
  have hsh : ∀ x ∈ Bk.cutAt Lf i, ∀ y ∈ x, y.key.length ≤ 1000000 ∧ y.value.length ≤ 1000000 := by
    intro x hx y hy
    unfold Bk.cutAt at hx
    split at hx
    · exact M.short x (List.mem_of_mem_eraseIdx hx) y hy
    · rcases List.mem_or_eq_of_mem_set hx with h | h
      · exact M.short x h y hy
      · subst h
        rw [Bk.getD_at Lf i hi] at hy
        exact M.short _ (List.getElem_mem hi) y (List.mem_of_mem_tail hy)
  refine ⟨l4, B4, fun ht => ?_, l5, fun ht w6 r6 g6 => ?_⟩
  · have hc : Bk.cutAt Lf i = Lf.set i (Lf.getD i []).tail := by unfold Bk.cutAt; rw [if_neg ht]
    refine ⟨l5, o5, by rw [hc, List.length_set]; exact M.ml, hlen.symm, by rw [hc]; exact M.lists.put i v' _ hv, hcn, hsum, by rw [← hstep]; exact M.same, hsh, fun g hg e => ?_, B5⟩
    have h1 : g4 = g := Option.some.inj hg
    have h2 : g' = g := Option.some.inj e
    omega
  · have hc : Bk.cutAt Lf i = Lf.eraseIdx i := by unfold Bk.cutAt; rw [if_pos ht]
    rw [set_erase] at r6
    refine ⟨r6, o5.kept g6 (.inr (fun e => hne4 (Option.some.inj e))), by rw [hc, List.length_eraseIdx, if_pos hi, ← M.ml], hlen.symm, by rw [hc]; exact M.lists.erase i hi, hcn, hsum, by rw [← hstep]; exact M.same, hsh, fun g hg e => ?_, B5.grown g6 B5.size (fun k e => by have := Option.some.inj e; omega)⟩
    have h1 : g4 = g := Option.some.inj hg
    have h2 : g' = g := Option.some.inj e
    omega
end Go.Proofs.Ytbdgdigpnfpnhaa.Q
