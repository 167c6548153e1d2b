/-
  The batches of a segment, one by one.
-/
import Derived.Test.YtppfkhpofbbnbaaGreatDoorWlP
namespace Go.Proofs.YtppfkhpofbbnbaaGreatDoor
namespace Wl
theorem bats_snoc : ∀ (rs : List Bs) (r : Bs) (m : List Bat), bats rs = some m → dGood r = true → bats (rs ++ [r]) = some (m ++ [⟨dSeq r, dWrites r⟩])
  | [], r, m, h, hg => by
    cases h
    show bats [r] = _
    simp [bats, hg]
  | x :: t, r, m, h, hg => by
    simp only [bats] at h
    split at h
    · rename_i hx
      cases ht : bats t with
      | none => rw [ht] at h; cases h
      | some q =>
        rw [ht] at h
        cases h
        show bats (x :: (t ++ [r])) = _
        rw [bats, if_pos hx, bats_snoc t r q ht hg]
        rfl
    · cases h
theorem bats_bad : ∀ (rs : List Bs) (r : Bs) (t : List Bs), dGood r = false → bats (rs ++ r :: t) = none
  | [], r, t, hg => by simp [bats, hg]
  | x :: q, r, t, hg => by
    show bats (x :: (q ++ r :: t)) = none
    rw [bats, bats_bad q r t hg]
    simp
theorem bats_length : ∀ (rs : List Bs) (m : List Bat), bats rs = some m → m.length = rs.length
  | [], m, h => by cases h; rfl
  | x :: t, m, h => by
    simp only [bats] at h
    split at h
    · cases ht : bats t with
      | none => rw [ht] at h; cases h
      | some q =>
        rw [ht] at h
        cases h
        show (_ :: q).length = _
        rw [List.length_cons, List.length_cons, bats_length t q ht]
    · cases h
theorem bats_next {rs : List Bs} {j : Nat} {m : List Bat} (h : bats (rs.take j) = some m) (hj : j < rs.length) (hg : dGood rs[j] = true) : bats (rs.take (j + 1)) = some (m ++ [⟨dSeq rs[j], dWrites rs[j]⟩]) := by
  rw [List.take_succ_eq_append_getElem hj]
  exact bats_snoc _ _ _ h hg
theorem bats_none {rs : List Bs} {j : Nat} (hj : j < rs.length) (hg : dGood rs[j] = false) : bats rs = none := by
  have e : rs = rs.take j ++ rs[j] :: rs.drop (j + 1) := by rw [List.getElem_cons_drop hj, List.take_append_drop]
  rw [e]
  exact bats_bad _ _ _ hg
end Wl
end Go.Proofs.YtppfkhpofbbnbaaGreatDoor
