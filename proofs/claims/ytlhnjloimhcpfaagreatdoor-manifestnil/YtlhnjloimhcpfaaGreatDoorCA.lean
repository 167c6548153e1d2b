/-
  Frames one behind the other, gone over from the first on: what is told of whole ones, of torn ones and of altered ones. No program is spoken of here. .. and what follows from it.
-/
import Derived.Test.YtlhnjloimhcpfaaGreatDoorSB
namespace Go.Proofs.YtlhnjloimhcpfaaGreatDoor

/-- The records, how many bytes their frames have, and why it ends: at most k rounds. -/
def scanF : Nat → List UInt8 → List (List UInt8) × Nat × Int
  | 0, _ => ([], 0, 0)
  | k + 1, l => if l = [] then ([], 0, 0) else if rdE l = 0 then (rdR l :: (scanF k (l.drop (rdN l))).1, rdN l + (scanF k (l.drop (rdN l))).2.1, (scanF k (l.drop (rdN l))).2.2) else ([], 0, rdE l)
def scn (l : List UInt8) : List (List UInt8) × Nat × Int := scanF l.length l

theorem scanF_nil (k : Nat) : scanF k [] = ([], 0, 0) := by
  cases k with
  | zero => rfl
  | succ k => rw [scanF, if_pos rfl]
theorem scanF_fuel : ∀ (k : Nat) (l : List UInt8) (d : Nat), l.length ≤ k → scanF (k + d) l = scanF k l := by
  intro k
  induction k with
  | zero =>
    intro l d h
    have : l = [] := List.eq_nil_of_length_eq_zero (by omega)
    subst this
    rw [scanF_nil, scanF_nil]
  | succ k ih =>
    intro l d h
    rw [show k + 1 + d = (k + d) + 1 from by omega, scanF, scanF]
    split
    · rfl
    · split
      · rename_i h0 he
        have := rdN_pos he
        rw [ih (l.drop (rdN l)) d (by rw [List.length_drop]; omega)]
      · rfl
theorem scanF_scn (k : Nat) (l : List UInt8) (h : l.length ≤ k) : scanF k l = scn l := by
  have := scanF_fuel l.length l (k - l.length) (Nat.le_refl _)
  rw [show l.length + (k - l.length) = k from by omega] at this
  exact this

theorem scn_nil : scn [] = ([], 0, 0) := rfl
theorem scn_bad (l : List UInt8) (h : l ≠ []) (he : rdE l ≠ 0) : scn l = ([], 0, rdE l) := by
  unfold scn
  obtain ⟨k, hk⟩ : ∃ k, l.length = k + 1 := ⟨l.length - 1, by have := List.length_pos_iff.mpr h; omega⟩
  rw [hk, scanF, if_neg h, if_neg he]
theorem scn_good (l : List UInt8) (he : rdE l = 0) : scn l = (rdR l :: (scn (l.drop (rdN l))).1, rdN l + (scn (l.drop (rdN l))).2.1, (scn (l.drop (rdN l))).2.2) := by
  have hp := rdN_pos he
  have h : l ≠ [] := by intro e; rw [e] at hp; simp at hp; omega
  obtain ⟨k, hk⟩ : ∃ k, l.length = k + 1 := ⟨l.length - 1, by omega⟩
  show scanF l.length l = _
  rw [hk, scanF, if_neg h, if_pos he, scanF_scn k _ (by rw [List.length_drop]; omega)]

/-- A whole frame ahead. -/
theorem scn_frm (r t : List UInt8) (h : r.length ≤ 1048576) : scn (frm r ++ t) = (r :: (scn t).1, r.length + 12 + (scn t).2.1, (scn t).2.2) := by
  obtain ⟨e1, e2, e3⟩ := read_frm r t h
  rw [scn_good _ e1, e2, e3, List.drop_left' (frm_length r)]

/-- The frames of some records. -/
def frms : List (List UInt8) → List UInt8
  | [] => []
  | r :: rs => frm r ++ frms rs
theorem frms_append (a b : List (List UInt8)) : frms (a ++ b) = frms a ++ frms b := by
  induction a with
  | nil => rfl
  | cons r a ih => rw [List.cons_append, frms, frms, ih, List.append_assoc]
theorem frms_one (r : List UInt8) : frms [r] = frm r := by rw [frms, frms, List.append_nil]

theorem scn_frms (rs : List (List UInt8)) (t : List UInt8) (h : ∀ r ∈ rs, r.length ≤ 1048576) : scn (frms rs ++ t) = (rs ++ (scn t).1, (frms rs).length + (scn t).2.1, (scn t).2.2) := by
  induction rs with
  | nil => rw [frms, List.nil_append, List.nil_append, List.length_nil, Nat.zero_add]
  | cons r rs ih =>
    rw [frms, List.append_assoc, scn_frm r _ (h r (by simp)), ih (fun x hx => h x (by simp [hx]))]
    rw [List.cons_append, List.length_append, frm_length, Nat.add_assoc, Nat.add_assoc, Nat.add_assoc]
theorem scn_all (rs : List (List UInt8)) (h : ∀ r ∈ rs, r.length ≤ 1048576) : scn (frms rs) = (rs, (frms rs).length, 0) := by
  have := scn_frms rs [] h
  rw [List.append_nil, scn_nil, List.append_nil, Nat.add_zero] at this
  exact this

/-- A torn end: just the records whose frames lie ahead of it whole, and missing, or good at a frame's end. -/
theorem scn_torn (rs : List (List UInt8)) (h : ∀ r ∈ rs, r.length ≤ 1048576) (k n : Nat) (hn : n ≤ rs.length) (hg : (frms (rs.take n)).length ≤ k) (hk : k ≤ (frms rs).length) (hlt : ∀ (hl : n < rs.length), k < (frms (rs.take n)).length + rs[n].length + 12) :
    scn ((frms rs).take k) = (rs.take n, (frms (rs.take n)).length, if (frms (rs.take n)).length = k then 0 else 4) := by
  have hall : ∀ r ∈ rs.take n, r.length ≤ 1048576 := fun r hr => h r (List.mem_of_mem_take hr)
  have e0 : frms rs = frms (rs.take n) ++ frms (rs.drop n) := by rw [← frms_append, List.take_append_drop]
  rw [e0, List.take_append, List.take_of_length_le hg, scn_frms _ _ hall]
  by_cases hl : n < rs.length
  · have hr := h rs[n] (List.getElem_mem hl)
    have hlt' := hlt hl
    have ed : rs.drop n = rs[n] :: rs.drop (n + 1) := List.drop_eq_getElem_cons hl
    have et : (frms (rs.drop n)).take (k - (frms (rs.take n)).length) = (frm rs[n]).take (k - (frms (rs.take n)).length) := by
      rw [ed, frms, List.take_append_of_le_length (by rw [frm_length]; omega)]
    rw [et]
    by_cases hz : (frms (rs.take n)).length = k
    · rw [if_pos hz, ← hz, Nat.sub_self, List.take_zero, scn_nil, List.append_nil, Nat.add_zero]
    · have he := read_torn rs[n] (k - (frms (rs.take n)).length) hr (by omega)
      have hne : (frm rs[n]).take (k - (frms (rs.take n)).length) ≠ [] := by
        intro e
        have := congrArg List.length e
        rw [List.length_take, frm_length, List.length_nil] at this
        omega
      rw [scn_bad _ hne (by rw [he]; decide), he, if_neg hz, List.append_nil, Nat.add_zero]
  · have e1 : rs.take n = rs := List.take_of_length_le (by omega)
    have e2 : rs.drop n = [] := List.drop_of_length_le (by omega)
    have hz : (frms (rs.take n)).length = k := by rw [e1] at hg ⊢; omega
    rw [e2, frms, List.take_nil, scn_nil, if_pos hz, List.append_nil, Nat.add_zero]

/-- An altered frame: the records ahead of it, and its error. -/
theorem scn_altered (rs : List (List UInt8)) (x t : List UInt8) (h : ∀ r ∈ rs, r.length ≤ 1048576) (hx : rdE (x ++ t) = 6) : scn (frms rs ++ (x ++ t)) = (rs, (frms rs).length, 6) := by
  have hne : x ++ t ≠ [] := by
    intro e
    rw [e] at hx
    exact absurd hx (by decide)
  rw [scn_frms _ _ h, scn_bad _ hne (by rw [hx]; decide), hx, List.append_nil, Nat.add_zero]

/-- The places at which the frames that are told begin. -/
def plcF : Nat → Nat → List UInt8 → List Nat
  | 0, _, _ => []
  | k + 1, p, l => if rdE l = 0 then p :: plcF k (p + rdN l) (l.drop (rdN l)) else []
def plc (p : Nat) (l : List UInt8) : List Nat := plcF l.length p l
theorem rdE_nil : rdE [] = 4 := by decide
theorem plcF_fuel : ∀ (k : Nat) (p : Nat) (l : List UInt8) (d : Nat), l.length ≤ k → plcF (k + d) p l = plcF k p l := by
  intro k
  induction k with
  | zero =>
    intro p l d h
    have : l = [] := List.eq_nil_of_length_eq_zero (by omega)
    subst this
    cases d with
    | zero => rfl
    | succ d =>
      show plcF (0 + (d + 1)) p [] = []
      rw [show 0 + (d + 1) = d + 1 from by omega, plcF, if_neg (by rw [rdE_nil]; decide)]
  | succ k ih =>
    intro p l d h
    rw [show k + 1 + d = (k + d) + 1 from by omega, plcF, plcF]
    split
    · rename_i he
      have := rdN_pos he
      rw [ih _ (l.drop (rdN l)) d (by rw [List.length_drop]; omega)]
    · rfl
theorem plc_bad (p : Nat) (l : List UInt8) (he : rdE l ≠ 0) : plc p l = [] := by
  unfold plc
  cases l.length with
  | zero => rfl
  | succ k => rw [plcF, if_neg he]
theorem plc_good (p : Nat) (l : List UInt8) (he : rdE l = 0) : plc p l = p :: plc (p + rdN l) (l.drop (rdN l)) := by
  have hp := rdN_pos he
  obtain ⟨k, hk⟩ : ∃ k, l.length = k + 1 := ⟨l.length - 1, by omega⟩
  show plcF l.length p l = _
  rw [hk, plcF, if_pos he]
  congr 1
  have hle : (l.drop (rdN l)).length ≤ k := by rw [List.length_drop]; omega
  have := plcF_fuel (l.drop (rdN l)).length (p + rdN l) (l.drop (rdN l)) (k - (l.drop (rdN l)).length) (Nat.le_refl _)
  rw [show (l.drop (rdN l)).length + (k - (l.drop (rdN l)).length) = k from by omega] at this
  exact this
/-- As many places as records. -/
theorem plc_length : ∀ (n : Nat) (p : Nat) (l : List UInt8), l.length ≤ n → (plc p l).length = (scn l).1.length := by
  intro n
  induction n with
  | zero =>
    intro p l h
    have : l = [] := List.eq_nil_of_length_eq_zero (by omega)
    subst this
    rfl
  | succ n ih =>
    intro p l h
    by_cases he : rdE l = 0
    · have hp := rdN_pos he
      rw [plc_good p l he, scn_good l he, List.length_cons, List.length_cons, ih _ _ (by rw [List.length_drop]; omega)]
    · rw [plc_bad p l he]
      by_cases h0 : l = []
      · subst h0; rfl
      · rw [scn_bad l h0 he]; rfl
/-- No record that is told is longer than what it was read of. -/
theorem scn_end : ∀ (n : Nat) (l : List UInt8), l.length ≤ n → (scn l).2.1 ≤ l.length := by
  intro n
  induction n with
  | zero =>
    intro l h
    have : l = [] := List.eq_nil_of_length_eq_zero (by omega)
    subst this
    exact Nat.le_refl _
  | succ n ih =>
    intro l h
    by_cases he : rdE l = 0
    · have hp := rdN_pos he
      have := ih (l.drop (rdN l)) (by rw [List.length_drop]; omega)
      rw [List.length_drop] at this
      rw [scn_good l he]
      show rdN l + _ ≤ _
      omega
    · by_cases h0 : l = []
      · subst h0; exact Nat.le_refl _
      · rw [scn_bad l h0 he]; exact Nat.zero_le _
end Go.Proofs.YtlhnjloimhcpfaaGreatDoor
