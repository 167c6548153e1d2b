/-
  Lists of batches that a call owns: the list in a block of its own, each batch's writes in another.
-/
import Derived.Test.YtppfkhpofbbnbaaGreatDoorWDec2
namespace Go.Proofs.YtppfkhpofbbnbaaGreatDoor
open Go.RowKit

theorem infoB : (Tryz.prog.info? 29).map (fun i => (i.zero, i.size, i.bytes)) = some (some (.agg #[.int .i64 0, .slice none 0 0]), 2, 32) := by kernel_rfl

/-- The cells of batches, whose writes lie where vs says. -/
def bcs : List Wl.Bat → List Value → List Value
  | x :: r, v :: vs => .int .i64 (x.seq : Int) :: v :: bcs r vs
  | _, _ => []
theorem bcs_length : ∀ (l : List Wl.Bat) (vs : List Value), vs.length = l.length → (bcs l vs).length = l.length * 2
  | [], [], _ => rfl
  | x :: r, v :: vs, h => by
    rw [bcs, List.length_cons, List.length_cons, bcs_length r vs (by simpa using h), List.length_cons]
    omega
  | [], _ :: _, h => by simp at h
  | _ :: _, [], h => by simp at h
theorem bcs_append : ∀ (l : List Wl.Bat) (vs : List Value), vs.length = l.length → ∀ (m : List Wl.Bat) (us : List Value), bcs (l ++ m) (vs ++ us) = bcs l vs ++ bcs m us
  | [], [], _, m, us => by simp [bcs]
  | x :: r, v :: vs, h, m, us => by
    show .int .i64 (x.seq : Int) :: v :: bcs (r ++ m) (vs ++ us) = _
    rw [bcs_append r vs (by simpa using h) m us]
    rfl
  | [], _ :: _, h, _, _ => by simp at h
  | _ :: _, [], h, _, _ => by simp at h
theorem bcs_get : ∀ (l : List Wl.Bat) (vs : List Value) (j : Nat) (h : j < l.length) (h' : j < vs.length), (bcs l vs)[j * 2]? = some (.int .i64 (l[j].seq : Int)) ∧ (bcs l vs)[j * 2 + 1]? = some vs[j]
  | x :: r, v :: vs, 0, _, _ => ⟨rfl, rfl⟩
  | x :: r, v :: vs, j + 1, h, h' => by
    have e1 : (j + 1) * 2 = j * 2 + 1 + 1 := by omega
    have := bcs_get r vs j (by simpa using h) (by simpa using h')
    rw [e1]
    exact this
theorem bcs_one : ∀ (l : List Wl.Bat) (vs : List Value), (∀ v ∈ vs, ∃ a n c, v = .slice a n c) → ∀ u ∈ bcs l vs, u.oneCell' = true
  | x :: r, v :: vs, h, u, hu => by
    rcases List.mem_cons.1 hu with rfl | hu
    · rfl
    · rcases List.mem_cons.1 hu with rfl | hu
      · obtain ⟨a, n, c, e⟩ := h u (List.mem_cons_self ..); rw [e]; rfl
      · exact bcs_one r vs (fun v hv => h v (by simp [hv])) u hu
  | [], vs, _, u, hu => by cases vs <;> simp [bcs] at hu
  | _ :: _, [], _, u, hu => by simp [bcs] at hu

structure Bats (base : Nat) (w : World) (v : Value) (l : List Wl.Bat) (vs : List Value) : Prop where
  len : vs.length = l.length
  row : w.ownsRow base 29 2 v l.length (bcs l vs)
  own : ∀ k (h : k < vs.length) (h' : k < l.length), w.ownsRow base 34 3 (vs[k]) (l[k]).writes.length (wcs (l[k]).writes)

theorem Bats.nil (base : Nat) (w : World) : Bats base w (.slice none 0 0) [] [] := ⟨rfl, World.ownsRow_nil _ _ _ _, fun k h => by simp at h⟩
theorem Bats.kept {base : Nat} {w w' : World} {v : Value} {l : List Wl.Bat} {vs : List Value} {row : Option Nat} (h : Bats base w v l vs) (hg : w.grownBy w' row) (hr : ∀ r, row = some r → v.ownBlock ≠ some r ∧ ∀ k (hk : k < vs.length), (vs[k]).ownBlock ≠ some r) : Bats base w' v l vs := by
  cases row with
  | none => exact ⟨h.len, h.row.kept hg (none_kept _), fun k hk hk' => (h.own k hk hk').kept hg (none_kept _)⟩
  | some r => exact ⟨h.len, h.row.kept hg (.inr (hr r rfl).1), fun k hk hk' => (h.own k hk hk').kept hg (.inr ((hr r rfl).2 k hk))⟩
theorem Bats.later {base : Nat} {w w' : World} {v : Value} {l : List Wl.Bat} {vs : List Value} (h : Bats base w v l vs) (hb : Below w.heap.size w w') : Bats base w' v l vs := h.kept (row := none) (grown_any hb) (fun r e => by cases e)
theorem Bats.alloc {base : Nat} {w : World} {v : Value} {l : List Wl.Bat} {vs : List Value} (h : Bats base w v l vs) (o : Obj) : Bats base (w.alloc o) v l vs := h.later ((Below.refl _ _).alloc (Nat.le_refl _) _)
theorem own_mono {w : World} {base base' e s n : Nat} {v : Value} {xs : List Value} (h : w.ownsRow base e s v n xs) (hb : base' ≤ base) : w.ownsRow base' e s v n xs := by
  refine ⟨h.1, ?_⟩
  rcases h.2 with h' | ⟨g, cap, cur, e, h1, h2⟩
  · exact .inl h'
  · exact .inr ⟨g, cap, cur, e, Nat.le_trans hb h1, h2⟩
theorem Bats.mono {base base' : Nat} {w : World} {v : Value} {l : List Wl.Bat} {vs : List Value} (h : Bats base w v l vs) (hb : base' ≤ base) : Bats base' w v l vs := ⟨h.len, own_mono h.row hb, fun k hk hk' => own_mono (h.own k hk hk') hb⟩
theorem Bats.shape {base : Nat} {w : World} {v : Value} {l : List Wl.Bat} {vs : List Value} (h : Bats base w v l vs) : ∃ a c, v = .slice a l.length c ∧ l.length ≤ c ∧ ((a = none ∧ c = 0) ∨ ∃ g, a = some ⟨g, 0, none⟩) := by
  rcases h.row.2 with ⟨rfl, h0⟩ | ⟨g, cap, cur, rfl, _, _, hnc, _⟩
  · exact ⟨_, _, by rw [h0], by omega, .inl ⟨rfl, rfl⟩⟩
  · exact ⟨_, _, rfl, hnc, .inr ⟨g, rfl⟩⟩
theorem Bats.slices {base : Nat} {w : World} {v : Value} {l : List Wl.Bat} {vs : List Value} (h : Bats base w v l vs) : ∀ u ∈ vs, ∃ a n c, u = .slice a n c := by
  intro u hu
  obtain ⟨k, hk, rfl⟩ := List.getElem_of_mem hu
  obtain ⟨a, c, e⟩ := row_shape5 (h.own k hk (by rw [← h.len]; exact hk))
  exact ⟨a, _, c, e⟩
theorem Bats.kinds {base : Nat} {w : World} {v : Value} {l : List Wl.Bat} {vs : List Value} (h : Bats base w v l vs) : ∀ r, v.ownBlock = some r → ∀ k (hk : k < vs.length), (vs[k]).ownBlock ≠ some r := fun r hr k hk e => by
  obtain ⟨c, fz, h1⟩ := Lib.ownsRow_kind h.row r hr
  obtain ⟨c', fz', h2⟩ := Lib.ownsRow_kind (h.own k hk (by rw [← h.len]; exact hk)) r e
  rw [h1] at h2
  simp only [Option.some.injEq, Obj.cells.injEq] at h2
  exact absurd h2.2.1 (by decide)
/-- What an append onto the list's own row leaves. -/
theorem Bats.append {base : Nat} {w w' : World} {v v' : Value} {l m : List Wl.Bat} {vs us : List Value} (h : Bats base w v l vs) (hus : us.length = m.length) (hu : ∀ k (hk : k < us.length) (hk' : k < m.length), w.ownsRow base 34 3 (us[k]) (m[k]).writes.length (wcs (m[k]).writes))
    (hg : w.grownBy w' v.ownBlock) (hne : ∀ r, v.ownBlock = some r → ∀ k (hk : k < us.length), (us[k]).ownBlock ≠ some r) (ho : w'.ownsRow base 29 2 v' (l.length + m.length) (bcs l vs ++ bcs m us)) : Bats base w' v' (l ++ m) (vs ++ us) := by
  refine ⟨by rw [List.length_append, List.length_append, h.len, hus], by rw [List.length_append, bcs_append l vs h.len]; exact ho, ?_⟩
  intro k hk hk'
  have keep : ∀ u, (u.ownBlock = none ∨ u.ownBlock ≠ v.ownBlock) → ∀ {n : Nat} {xs : List Value}, w.ownsRow base 34 3 u n xs → w'.ownsRow base 34 3 u n xs := fun u hu' n xs ho' => ho'.kept hg hu'
  rcases Nat.lt_or_ge k vs.length with hlt | hge
  · have hlt' : k < l.length := by rw [← h.len]; exact hlt
    rw [List.getElem_append_left hlt, List.getElem_append_left hlt']
    refine keep _ ?_ (h.own k hlt hlt')
    cases hv : v.ownBlock with
    | none => cases hx : (vs[k]).ownBlock with
      | none => exact .inl rfl
      | some q => exact .inr (by simp)
    | some r => exact .inr (h.kinds r hv k hlt)
  · have hge' : l.length ≤ k := by rw [← h.len]; exact hge
    rw [List.getElem_append_right hge, List.getElem_append_right hge']
    have hki : k - vs.length < us.length := by rw [List.length_append] at hk; omega
    have hki' : k - vs.length < m.length := by omega
    have e1 : k - l.length = k - vs.length := by rw [h.len]
    simp only [e1]
    refine keep _ ?_ (hu _ hki hki')
    cases hv : v.ownBlock with
    | none => cases hx : (us[k - vs.length]).ownBlock with
      | none => exact .inl rfl
      | some q => exact .inr (by simp)
    | some r => exact .inr (hne r hv _ hki)
/-- Where a batch can be read. -/
theorem Bats.cells {base : Nat} {w : World} {g n cap : Nat} {l : List Wl.Bat} {vs : List Value} (h : Bats base w (.slice (some ⟨g, 0, none⟩) n cap) l vs) (j : Nat) (hj : j < l.length) (hj' : j < vs.length) : w.cell? ⟨g, j * 2, none⟩ = some (.int .i64 (l[j].seq : Int)) ∧ w.cell? ⟨g, j * 2 + 1, none⟩ = some vs[j] := by
  obtain ⟨e0, e1⟩ := bcs_get l vs j hj hj'
  have hl := bcs_length l vs h.len
  rcases h.row.2 with ⟨e, _⟩ | ⟨g', cap', cur, e, _⟩
  · cases e
  · cases e
    have h0 := h.row.cellAt (j * 2) (by omega)
    have h1 := h.row.cellAt (j * 2 + 1) (by omega)
    rw [h0, h1]
    exact ⟨e0, e1⟩
end Go.Proofs.YtppfkhpofbbnbaaGreatDoor
