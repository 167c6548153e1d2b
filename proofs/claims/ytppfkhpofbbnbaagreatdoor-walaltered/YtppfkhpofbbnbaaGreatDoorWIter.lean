/-
  The iterator over the names of segments: what it hands over, one by one, to whatever loop asks it.
-/
import Derived.Test.YtppfkhpofbbnbaaGreatDoorKRange5
import Derived.Test.YtppfkhpofbbnbaaGreatDoorWName
import Derived.Test.YtppfkhpofbbnbaaGreatDoorKBat
import Derived.Shelf.Abstract
import Derived.Shelf.RegionOpen
import Derived.WalkKit
import Derived.OwnWalkIn
import Derived.TacticsInMore
import Derived.LoopNIn
import Derived.LoopIn
namespace Go.Proofs.YtppfkhpofbbnbaaGreatDoor
open Go.RowKit Go.Shelf

/-- What a loop over segments may turn: nothing below n₀, not the iterator's own block Bs, and no list of texts behind the loop's own blocks N and N + 1. -/
structure SegK (n₀ Bs N : Nat) (A B : World) : Prop where
  bel : Below n₀ A B
  box : B.heap[Bs]? = A.heap[Bs]?
  txt : ∀ i cs fr, N + 2 ≤ i → A.heap[i]? = some (.cells cs 9 fr) → B.heap[i]? = A.heap[i]?
theorem SegK.refl (n₀ Bs N : Nat) (A : World) : SegK n₀ Bs N A A := ⟨Below.refl _ _, rfl, fun _ _ _ _ _ => rfl⟩
theorem SegK.trans {n₀ Bs N : Nat} {A B C : World} (h : SegK n₀ Bs N A B) (k : SegK n₀ Bs N B C) : SegK n₀ Bs N A C :=
  ⟨h.bel.trans k.bel, k.box.trans h.box, fun i cs fr hi ha => (k.txt i cs fr hi ((h.txt i cs fr hi ha).trans ha)).trans (h.txt i cs fr hi ha)⟩
theorem SegK.later {n₀ Bs N : Nat} {A B : World} (h : Below A.heap.size A B) (h1 : n₀ ≤ A.heap.size) (h2 : Bs < A.heap.size) : SegK n₀ Bs N A B :=
  ⟨h.mono h1, h.block _ h2, fun i _ _ _ ha => h.block i (Array.getElem?_eq_some_iff.1 ha).1⟩
theorem SegK.put {n₀ Bs N : Nat} (A : World) (o : Obj) (h1 : n₀ ≤ N) (h2 : Bs < N) : SegK n₀ Bs N A (A.putObj (N + 1) o) :=
  ⟨⟨rfl, rfl, rfl, by simp [World.putObj], fun i hi => World.putObj_heap_other (by omega)⟩, World.putObj_heap_other (by omega), fun i cs fr hi _ => World.putObj_heap_other (by omega)⟩

/-- The n-th segment, as it is handed over. -/
def segArg (ns : List Nat) (k : Nat) : Array Value := #[.int .i64 ((ns.getD k 0 : Nat) : Int), str (Wl.seg (ns.getD k 0))]

attribute [local go_sem] Oper.semAt_some

set_option maxRecDepth 100000 in
set_option maxHeartbeats 4000000 in
theorem segs_hands (n n₀ Bs b : Nat) (w0 : World) (ns : List Nat) (hns : ∀ k ∈ ns, 1 ≤ k ∧ k < 100) (hl : ns.length ≤ 1000) (hbox : w0.heap[Bs]? = some (.cells #[.pointer (some ⟨b, 0, none⟩)] 37 (0, 0))) (hn : n₀ ≤ w0.heap.size) (hBs : Bs < w0.heap.size)
    (NM : ∀ W, SegK n₀ Bs w0.heap.size w0 W → Calls Tryz.prog 96 #[.pointer (some ⟨b, 0, none⟩)] W fun e w' => ∃ v, e = .returned v ∧ w'.ownsRow W.heap.size 9 1 v ns.length (ns.map fun k => str (Wl.seg k)) ∧ Below W.heap.size W w') :
    HandsK5 Fence.wide n Tryz.prog 95 #[.pointer (some ⟨Bs, 0, none⟩)] ns.length (SegK n₀ Bs w0.heap.size) (segArg ns) w0 := by
  intro L J Jx W hK hW hJ hJx hY h0
  have c1 : W.cell? ⟨Bs, 0, none⟩ = some (.pointer (some ⟨b, 0, none⟩)) := Joins.cell_of_block (hK.box.trans hbox) 0
  have N1 : Hid (Calls Tryz.prog 96 #[.pointer (some ⟨b, 0, none⟩)] W fun e w' => ∃ a c, e = .returned (.slice a ns.length c) ∧ Hid (w'.ownsRow W.heap.size 9 1 (.slice a ns.length c) ns.length (ns.map fun k => str (Wl.seg k))) ∧ Below W.heap.size W w') := by
    refine (NM W hK).mono ?_
    rintro e w' ⟨v, rfl, o, b'⟩
    obtain ⟨a, c, rfl⟩ := row_shape5 o
    exact ⟨a, c, rfl, o, b'⟩
  have HJ : Hid (∀ k A B, J k A → A.grownBy B none → J k B) := hJ
  have HY := hide hY
  have HNS : Hid (∀ k ∈ ns, 1 ≤ k ∧ k < 100) := hns
  have HK := hide hK
  obtain ⟨m, hm⟩ : ∃ m, m = ns.length := ⟨_, rfl⟩
  have HM : Hid (m = ns.length) := hm
  rw [← hm] at N1
  have hl' : m ≤ 1000 := by omega
  clear hJ hY hns hK hm hl NM
  refine callsIn_of_wp Tryz.func95 rfl trivial ?_ rfl
  simp only [Tryz.ntmps95, List.size_toArray, List.length_cons, List.length_nil, Nat.reduceAdd, Nat.reduceSub, Array.replicate_succ, Array.replicate_zero, List.push_toArray, List.append_toArray, List.nil_append, List.cons_append]
  gi_wp2_with (first
    | (refine ⟨trivial, (fun h => by cases h), ?_⟩; gi_at_call 96; refine (callsIn_wide.2 N1.out).mono ?_; rintro e w1 ⟨a1, cp1, rfl, o1, b1⟩; clear N1))
  have K1 : SegK n₀ Bs w0.heap.size w0 w1 := HK.out.trans (SegK.later b1 (by omega) (by omega))
  have J1 : J 0 w1 := HJ.out _ _ _ h0 (grown_any b1)
  have z1 := b1.size
  have G1 : Hid (0 < m → ∃ g cur, a1 = some ⟨g, 0, none⟩ ∧ W.heap.size ≤ g ∧ w1.heap[g]? = some (.cells cur 9 (0, 0)) ∧ ∀ j (h : j < ns.length), cur[j]? = some (str (Wl.seg ns[j]))) := fun hm => by
    have ho := o1.out
    rcases ho.2 with ⟨e, h0⟩ | ⟨g, cap, cur, e, hge, hblk, _⟩
    · have := HM.out; omega
    · cases e
      refine ⟨g, cur, rfl, hge, hblk, fun j hj => ?_⟩
      have h1 := ho
      have := h1.cellAt j (by have := HM.out; omega)
      rw [Joins.cell_of_block hblk j] at this
      rw [this]
      simp [hj]
  clear o1 h0 HK b1 hbox
  gi_loopw [9] (fun i wr => ∃ (j : Nat), j ≤ m ∧ i = .int .i64 j ∧ J j wr ∧ SegK n₀ Bs w0.heap.size w0 wr ∧ w1.heap.size ≤ wr.heap.size ∧ (∀ g, a1 = some ⟨g, 0, none⟩ → W.heap.size ≤ g → wr.heap[g]? = w1.heap[g]?)) (fun i _ => m - (intOf i).toNat)
  case atStart => exact ⟨0, Nat.zero_le _, rfl, J1, K1, Nat.le_refl _, fun _ _ _ => rfl⟩
  case round =>
    obtain ⟨j, hj, rfl, hjw, kw, zw, hg⟩ := hrel
    clear J1 K1
    by_cases hlt : j < m
    · have jl : j < ns.length := by have := HM.out; omega
      obtain ⟨g, cur, rfl, hge, hblk, hcur⟩ := G1.out (by omega)
      have hbw := (hg g rfl hge).trans hblk
      have cx : wr.cell? ⟨g, j, none⟩ = some (str (Wl.seg ns[j])) := (Joins.cell_of_block hbw j).trans (hcur j jl)
      obtain ⟨k1, k2⟩ := HNS.out ns[j] (List.getElem_mem jl)
      have NB := numberOf_any wr ns[j] k1 k2
      have ek : ns.getD j 0 = ns[j] := by rw [List.getD_eq_getElem?_getD, List.getElem?_eq_getElem jl]; rfl
      have YY : Hid (∀ A, J j A → SegK n₀ Bs w0.heap.size w0 A → YieldAt Fence.wide (n - 1) Tryz.prog L #[.int .i64 (ns[j] : Int), str (Wl.seg ns[j])] A fun e B => (e = .returned (.bool true) ∧ J (j + 1) B ∧ SegK n₀ Bs w0.heap.size A B) ∨ (e = .returned (.bool false) ∧ Jx (j + 1) B)) := fun A h1 h2 => by
        have := HY.out j A jl h1 h2
        unfold segArg at this
        rw [ek] at this
        exact this
      have lt1 : g < wr.heap.size := (Array.getElem?_eq_some_iff.1 hbw).1
      have HBW := hide hbw
      have HKW := hide kw
      have HJW : Hid (J j wr) := hjw
      have HG1 : Hid (∀ B : World, B.heap[g]? = wr.heap[g]? → B.heap[g]? = w1.heap[g]?) := fun B e => e.trans (hg g rfl hge)
      generalize ns[j] = q at NB cx YY k1 k2
      generalize Wl.seg q = sq at NB cx YY
      have i1 : (q : Int) > 0 := by omega
      clear hblk hcur hbw ek jl HY G1 hg HNS kw hjw k2
      gi_wp2_with (first
        | (refine ⟨trivial, (fun h => by cases h), ?_⟩; gi_at_call 97; refine (callsIn_wide.2 NB).mono ?_; rintro e w2 ⟨rfl, b2⟩; have kx := HKW.out.trans (SegK.later b2 (by omega) (by omega)); have jx := HJ.out _ _ _ HJW.out (grown_any b2); obtain ⟨yf, yt, ya, yb, hy, hR⟩ := YY.out _ jx kx; clear NB YY))
      refine ⟨(fun h => by cases h), hR.mono ?_⟩
      rintro e W3 (⟨rfl, hJ3, hk3⟩ | ⟨rfl, hJx3⟩)
      · gi_wp2_with (fail)
        exact ⟨⟨j + 1, by omega, by go_num, hJ3, kx.trans hk3, by have := hk3.bel.size; have := b2.size; omega, fun g' e _ => by
          cases e
          exact HG1.out _ ((hk3.txt g cur (0, 0) (by omega) ((b2.block g lt1).trans HBW.out)).trans (b2.block g lt1))⟩, by simp [intOf]; omega⟩
      · gi_wp2_with (fail)
        refine bodyPost_ret (v := .tuple #[]) (by simp [results, Tryz.results95, go_sem]) rfl ?_
        exact ⟨⟨_, rfl⟩, .inr ⟨j + 1, by have := HM.out; omega, hJx3⟩⟩
    · have i3 : ¬ (j : Int) < (m : Int) := by omega
      have HE : Hid (j = ns.length) := by show _ = _; have := HM.out; omega
      clear HY HNS HM G1 hlt hj hg
      gi_wp2_with (fail)
      go_end0
      exact ⟨⟨_, rfl⟩, .inl (by rw [← HE.out]; exact hjw)⟩
end Go.Proofs.YtppfkhpofbbnbaaGreatDoor
