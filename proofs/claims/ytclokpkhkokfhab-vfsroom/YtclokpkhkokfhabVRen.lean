/-
  A naming, a move or an unnaming, done to names; and the two questions of a sync.
-/
import Derived.Test.YtclokpkhkokfhabVLook
namespace Go.Proofs.Ytclokpkhkokfhab
open Go.RowKit Go.Maps

/-- A step's value. -/
abbrev sv (s : Vf.Step) : Value := .agg #[.int .i64 (s.kind : Int), .int .i64 (s.file : Int), .int .i64 (s.size : Int), str s.name, str s.to]

structure StepOk (s : Vf.Step) : Prop where
  name : s.name.length ≤ 1000000
  to : s.to.length ≤ 1000000
  file : s.file ≤ 1000000000
  size : s.size ≤ 1000000000
  kind : s.kind ≤ 5

/-- The cells of a new block behind a turn of another one. -/
theorem boxed_kept {w w1 : World} {cs : Array Value} {t : TypeId} {bm : Nat} (g : (w.alloc (.cells cs t)).grownBy w1 (some bm)) (hb : bm < w.heap.size) (j : Nat) : w1.cell? ⟨w.heap.size, j, none⟩ = cs[j]? := by
  refine Joins.cell_of_block ((g.block w.heap.size (by simp) (by simp; omega)).trans ?_) j (t := t) (fr := (0, 0))
  show (w.heap.push _)[w.heap.size]? = _
  simp

set_option maxHeartbeats 400000 in
theorem ren_any (w : World) (bm : Nat) (M : Vf.Nm) (s : Vf.Step) (ok : StepOk s) (h : NamesAt w bm M) (hM : M.length ≤ 1000000000) (hv : ∀ k, Vf.num M k ≤ 1000000000) (L : Nat) (HL : Hid (L = Vf.lost s M)) (M' : Vf.Nm) (HM : Hid (M' = Vf.ren s M)) :
    Calls Try.prog 30 #[sv s, .map (some bm)] w fun e w' => e = .returned (.int .i64 (L : Int)) ∧ NamesAt w' bm M' ∧ w.grownBy w' (some bm) ∧ w'.heap.size = w.heap.size + 1 := by
  obtain ⟨kind, file, size, name, to⟩ := s
  obtain ⟨kn, kt, kf, ks, kk⟩ := ok
  simp only at kn kt kf ks kk
  have h1 : NamesAt (w.alloc (.cells #[.int .i64 (kind : Int), .int .i64 (file : Int), .int .i64 (size : Int), str name, str to] 55)) bm M := h.same (Below.heap_alloc _ _ _ h.lt)
  have g0 : w.grownBy (w.alloc (.cells #[.int .i64 (kind : Int), .int .i64 (file : Int), .int .i64 (size : Int), str name, str to] 55)) (some bm) := World.grownBy_alloc _ _ _
  have z0 : (w.alloc (.cells #[.int .i64 (kind : Int), .int .i64 (file : Int), .int .i64 (size : Int), str name, str to] 55)).heap.size = w.heap.size + 1 := by simp
  have hb := h.lt
  clear h
  by_cases k1 : kind = 1
  · subst k1
    have HL' : Hid (L = 0) := HL.out
    have HM' : Hid (Vf.put M name file = M') := HM.out.symm
    clear HL HM
    have Z0 : Hid _ := z0
    clear z0
    go_enter Try.func30, Try.ntmps30
    go_wp2_with (at_mapUpdate; refine wpList_names_put _ rfl _ _ _ rfl bm M name file rfl rfl rfl h1 kn (by omega) (by omega) ?_; intro w1 n1 g1 z1; have Z1 : Hid _ := z1; clear z1 h1)
    go_ret
    exact ⟨by rw [HL'.out]; rfl, by rw [HM'.out] at n1; exact n1, grownBy_trans g0 g1 (.inl rfl), by rw [Z1.out]; exact Z0.out⟩
  by_cases k2 : kind = 2
  · subst k2
    have HL' : Hid (Vf.num (Vf.del M name) to = L) := HL.out.symm
    have HM' : Hid (Vf.put (Vf.del M name) to (Vf.num M name) = M') := HM.out.symm
    have hv1 := hv name
    have hd : (Vf.del M name).length ≤ 1000000000 := Nat.le_trans (Vf.del_sub M name).length_le hM
    clear HL HM hv
    have Z0 : Hid _ := z0
    clear z0
    obtain ⟨D, hD⟩ : ∃ D, D = Vf.del M name := ⟨_, rfl⟩
    obtain ⟨n, hn⟩ : ∃ n, n = Vf.num M name := ⟨_, rfl⟩
    rw [← hn] at hv1 HM'
    have HN : Hid (Vf.num M name = n) := hn.symm
    rw [← hD] at hd HM' HL'
    have HD : Hid (Vf.del M name = D) := hD.symm
    clear hD hn
    go_enter Try.func30, Try.ntmps30
    go_wp2_with (first
      | (at_lookup; refine wpList_names_look _ rfl _ _ rfl bm M name rfl rfl h1 kn ?_; rw [HN.out])
      | (at_delete; refine wpList_names_del _ rfl _ _ rfl bm M name rfl rfl h1 kn ?_; intro w1 n1 g1 z1; have c4 : w1.cell? ⟨w.heap.size, 4, none⟩ = some (str to) := (boxed_kept g1 hb 4); rw [HD.out] at n1; have G1 : Hid _ := grownBy_trans g0 g1 (.inl rfl); have Z1 : Hid _ := z1; clear z1 h1 g0 g1 HD)
      | (at_lookup; refine wpList_names_look _ rfl _ _ rfl bm D to rfl rfl n1 kt ?_; rw [HL'.out])
      | (at_mapUpdate; refine wpList_names_put _ rfl _ _ _ rfl bm D to n rfl rfl rfl n1 kt (by omega) (by omega) ?_; intro w2 n2 g2 z2; have Z2 : Hid _ := z2; clear z2 n1))
    go_ret
    exact ⟨rfl, by rw [HM'.out] at n2; exact n2, grownBy_trans G1.out g2 (.inl rfl), by rw [Z2.out, Z1.out]; exact Z0.out⟩
  by_cases k3 : kind = 3
  · subst k3
    have HL' : Hid (Vf.num M name = L) := HL.out.symm
    have HM' : Hid (Vf.del M name = M') := HM.out.symm
    clear HL HM hv
    have Z0 : Hid _ := z0
    clear z0
    go_enter Try.func30, Try.ntmps30
    go_wp2_with (first
      | (at_lookup; refine wpList_names_look _ rfl _ _ rfl bm M name rfl rfl h1 kn ?_; rw [HL'.out])
      | (at_delete; refine wpList_names_del _ rfl _ _ rfl bm M name rfl rfl h1 kn ?_; intro w1 n1 g1 z1; have Z1 : Hid _ := z1; clear z1 h1))
    go_ret
    exact ⟨rfl, by rw [HM'.out] at n1; exact n1, grownBy_trans g0 g1 (.inl rfl), by rw [Z1.out]; exact Z0.out⟩
  · have HL' : Hid (L = 0) := by show _ = _; rw [HL.out]; unfold Vf.lost; rw [if_neg k2, if_neg k3]
    have HM' : Hid (M' = M) := by show _ = _; rw [HM.out]; unfold Vf.ren; rw [if_neg k1, if_neg k2, if_neg k3]
    have b1 : ((kind : Int) == 1) = false := by simp; omega
    have b2 : ((kind : Int) == 2) = false := by simp; omega
    have b3 : ((kind : Int) == 3) = false := by simp; omega
    clear HL HM hv
    have Z0 : Hid _ := z0
    clear z0
    go_enter Try.func30, Try.ntmps30
    go_wp2_with (fail)
    go_ret
    exact ⟨by rw [HL'.out]; rfl, by rw [HM'.out]; exact h1, g0, Z0.out⟩
end Go.Proofs.Ytclokpkhkokfhab
