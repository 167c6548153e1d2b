/-
  Whether batches go on one by one; and those behind a number. .. and what follows from it.
-/
import Derived.Test.YtppfkhpofbbnbaaGreatDoorKBat
import Derived.Test.YtppfkhpofbbnbaaGreatDoorWSeg
namespace Go.Proofs.YtppfkhpofbbnbaaGreatDoor
open Go.RowKit

/-- The batches up to the j-th are numbered one by one. -/
def goTo (l : List Wl.Bat) (q j : Nat) : Prop := ∀ i (h : i < l.length), i < j → l[i].seq = q + i
theorem goOn_cons (x : Wl.Bat) (r : List Wl.Bat) (seq : Nat) : Wl.goOnB (x :: r) seq = (((x :: r).zipIdx.all fun p => decide (p.1.seq = x.seq + p.2)) && decide (x.seq ≤ seq + 1) && decide (seq ≤ ((x :: r).getLast (by simp)).seq)) := rfl
theorem goOn_yes {x : Wl.Bat} {r : List Wl.Bat} {seq : Nat} (h : goTo (x :: r) x.seq (x :: r).length) (h1 : x.seq ≤ seq + 1) (h2 : seq ≤ ((x :: r).getLast (by simp)).seq) : Wl.goOnB (x :: r) seq = true := by
  rw [goOn_cons]
  simp only [Bool.and_eq_true, decide_eq_true_eq, List.all_eq_true]
  refine ⟨⟨fun p hp => ?_, h1⟩, h2⟩
  obtain ⟨i, hi, he⟩ := List.getElem_of_mem hp
  rw [List.length_zipIdx] at hi
  rw [List.getElem_zipIdx] at he
  rw [← he]
  simpa using h i hi hi
theorem goOn_no {x : Wl.Bat} {r : List Wl.Bat} {seq i : Nat} (hi : i < (x :: r).length) (h : (x :: r)[i].seq ≠ x.seq + i) : Wl.goOnB (x :: r) seq = false := by
  rw [goOn_cons]
  have : ((x :: r).zipIdx.all fun p => decide (p.1.seq = x.seq + p.2)) = false := by
    rw [List.all_eq_false]
    refine ⟨((x :: r)[i], i), ?_, by simpa using h⟩
    rw [List.mem_zipIdx_iff_getElem?]
    exact List.getElem?_eq_getElem hi
  rw [this]; rfl
theorem goOn_ends {x : Wl.Bat} {r : List Wl.Bat} {seq : Nat} (h : ¬ (x.seq ≤ seq + 1 ∧ seq ≤ ((x :: r).getLast (by simp)).seq)) : Wl.goOnB (x :: r) seq = false := by
  rw [goOn_cons]
  by_cases h1 : x.seq ≤ seq + 1
  · rw [decide_eq_false (p := seq ≤ ((x :: r).getLast (by simp)).seq) (fun h2 => h ⟨h1, h2⟩), Bool.and_false]
  · rw [decide_eq_false (p := x.seq ≤ seq + 1) h1, Bool.and_false]; rfl

set_option maxRecDepth 100000 in
set_option maxHeartbeats 4000000 in
theorem goOn_any (w : World) (base : Nat) (a : Option Addr) (n c : Nat) (l : List Wl.Bat) (vs : List Value) (h : Bats base w (.slice a n c) l vs) (hn : n = l.length) (hl : n ≤ 1000000000) (hs : ∀ x ∈ l, x.seq ≤ 1073741824) (seq : Nat) (hq : seq ≤ 1073741824) (S : Bool) (HS : Hid (S = Wl.goOnB l seq)) :
    Calls Tryz.prog 45 #[.slice a n c, .int .i64 (seq : Int)] w fun e w' => e = .returned (.bool S) ∧ Below w.heap.size w w' := by
  rcases l with _ | ⟨x, r⟩
  · have hn0 : n = 0 := hn
    subst hn0
    have HF : Hid (S = true) := HS.out
    clear h hs HS hn
    go_enter Tryz.func45, Tryz.ntmps45
    go_wp2_with (fail)
    refine wp_loop_rounds 1 ?_
    rw [rounds_succ]
    go_wp2_with (fail)
    go_ret
    exact ⟨by rw [HF.out]; rfl, Below.refl _ _⟩
  · obtain ⟨g, rfl⟩ : ∃ g, a = some ⟨g, 0, none⟩ := by
      rcases h.row.2 with ⟨e, h0⟩ | ⟨g, cap, cur, e, _⟩
      · simp at h0
      · cases e; exact ⟨g, rfl⟩
    have H := hide h
    have HN : Hid (n = (x :: r).length) := hn
    have HQ : Hid (∀ y ∈ x :: r, y.seq ≤ 1073741824) := hs
    have hx := hs x (by simp)
    have n0 : 0 < n := by rw [hn]; simp
    clear h hn hs
    go_enter Tryz.func45, Tryz.ntmps45
    go_wp2_with (fail)
    go_loopw [9] (fun i wr => Below w.heap.size w wr ∧ ∃ j : Nat, j ≤ n ∧ i = .int .i64 j ∧ Hid (goTo (x :: r) x.seq j)) (fun i _ => n - (intOf i).toNat)
    case atStart => exact ⟨Below.refl _ _, 0, Nat.zero_le _, rfl, fun i h h' => by omega⟩
    case round =>
      obtain ⟨bx, j, hj, rfl, HT⟩ := hrel
      have hb := H.out.later (bx : Below w.heap.size w wr)
      have hvl : (x :: r).length = vs.length := H.out.len.symm
      have z0 := (hb.cells 0 (by have := HN.out; omega) (by have := HN.out; omega)).1
      by_cases hlt : j < n
      · have jl : j < (x :: r).length := by have := HN.out; omega
        obtain ⟨z1, z2⟩ := hb.cells j jl (by omega)
        have hq2 := HQ.out (x :: r)[j] (List.getElem_mem jl)
        have HJ : Hid ((x :: r)[j].seq = x.seq + j → goTo (x :: r) x.seq (j + 1)) := fun e i h h' => by
          by_cases e2 : i = j
          · subst e2; exact e
          · exact HT.out i h (by omega)
        have HJ2 : Hid ((x :: r)[j].seq ≠ x.seq + j → S = false) := fun e => by rw [HS.out]; exact goOn_no jl e
        generalize (x :: r)[j].seq = y at z1 hq2 HJ HJ2
        have z0' : wr.cell? ⟨g, 0, none⟩ = some (.int .i64 (x.seq : Int)) := z0
        obtain ⟨va, vn, vc, hve⟩ := H.out.slices vs[j] (List.getElem_mem (by omega))
        rw [hve] at z2
        generalize x.seq = q at z0' HJ HJ2 hx
        have z3 := fun o => keepC ((Below.refl _ wr).alloc (Nat.le_refl _) o) z0'
        clear z0 hb HT H HN HQ HS jl hve
        by_cases he : y = q + j
        · have i5 : ((y : Int) != (q : Int) + (j : Int)) = false := by simp; omega
          have HK : Hid (goTo (x :: r) q (j + 1)) := HJ.out he
          clear HJ HJ2 he
          go_wp2_with (fail)
          go_region
          go_wp2_with (fail)
          exact ⟨⟨(bx.alloc bx.size _).drew, j + 1, by omega, rfl, HK⟩, by simp [intOf]; omega⟩
        · have i5 : ((y : Int) != (q : Int) + (j : Int)) = true := by simp; omega
          have HK : Hid (S = false) := HJ2.out he
          clear HJ HJ2 he
          go_wp2_with (fail)
          go_region
          go_wp2_with (fail)
          go_ret
          exact ⟨by rw [HK.out]; rfl, (bx.alloc bx.size _).drew⟩
      · have i3 : ¬ (j : Int) < (n : Int) := by omega
        have nn := HN.out
        have jn : j = (x :: r).length := by omega
        have HT2 : Hid (goTo (x :: r) x.seq (x :: r).length) := by have := HT.out; rw [jn] at this; exact this
        obtain ⟨z1, z2⟩ := hb.cells (n - 1) (by omega) (by omega)
        have eg : (x :: r)[n - 1]'(by omega) = (x :: r).getLast (by simp) := by
          rw [List.getLast_eq_getElem]
          congr 1
          omega
        rw [eg] at z1
        have hq2 := HQ.out _ (List.getLast_mem (l := x :: r) (by simp))
        have z0' : wr.cell? ⟨g, 0, none⟩ = some (.int .i64 (x.seq : Int)) := z0
        have HJ1 : Hid (x.seq ≤ seq + 1 → seq ≤ ((x :: r).getLast (by simp)).seq → S = true) := fun h1 h2 => by rw [HS.out]; exact goOn_yes HT2.out h1 h2
        have HJ2 : Hid (¬ (x.seq ≤ seq + 1 ∧ seq ≤ ((x :: r).getLast (by simp)).seq) → S = false) := fun h => by rw [HS.out]; exact goOn_ends h
        generalize ((x :: r).getLast (by simp)).seq = y at z1 hq2 HJ1 HJ2
        generalize x.seq = q at z0' HJ1 HJ2 hx
        have i4 : ((n : Int) == 0) = false := by simp; omega
        have i7 : (n - 1) * 2 = 2 * n - 2 := by omega
        clear z0 hb HT H HN HQ HS eg z2 nn jn HT2 hlt hj hvl
        obtain ⟨N1, hN1⟩ : ∃ N1, N1 = n - 1 := ⟨_, rfl⟩
        have i8 : (n : Int) - 1 = (N1 : Int) := by omega
        have i9 : (N1 : Int) < (n : Int) := by omega
        rw [← hN1] at z1
        clear hN1 i7
        by_cases h1 : q ≤ seq + 1
        · have k1 : (q : Int) ≤ (seq : Int) + 1 := by omega
          by_cases h2 : seq ≤ y
          · have k2 : (y : Int) ≥ (seq : Int) := by omega
            have HF : Hid (S = true) := HJ1.out h1 h2
            clear HJ1 HJ2 h1 h2
            go_wp2_with (fail)
            go_ret
            exact ⟨by rw [HF.out]; rfl, bx⟩
          · have k2 : ¬ (y : Int) ≥ (seq : Int) := by omega
            have HF : Hid (S = false) := HJ2.out (fun h => h2 h.2)
            clear HJ1 HJ2 h1 h2
            go_wp2_with (fail)
            go_ret
            exact ⟨by rw [HF.out]; rfl, bx⟩
        · have k1 : ¬ (q : Int) ≤ (seq : Int) + 1 := by omega
          have HF : Hid (S = false) := HJ2.out (fun h => h1 h.1)
          clear HJ1 HJ2 h1
          go_wp2_with (fail)
          go_ret
          exact ⟨by rw [HF.out]; rfl, bx⟩
end Go.Proofs.YtppfkhpofbbnbaaGreatDoor
namespace Go.Proofs.YtppfkhpofbbnbaaGreatDoor
open Go.RowKit

set_option maxRecDepth 100000 in
set_option maxHeartbeats 4000000 in
theorem behind_any (w : World) (base : Nat) (a : Option Addr) (n c : Nat) (l : List Wl.Bat) (vs : List Value) (h : Bats base w (.slice a n c) l vs) (hn : n = l.length) (hb : base ≤ w.heap.size) (hl : n ≤ 1000000000) (hs : ∀ x ∈ l, x.seq ≤ 1073741824) (seq : Nat) :
    Calls Tryz.prog 47 #[.slice a n c, .int .i64 (seq : Int)] w fun e w' => ∃ v, e = .returned v ∧ Hid (∃ us, Bats base w' v (Wl.behind l seq) us ∧ (∀ u ∈ us, u ∈ vs) ∧ ∀ r, v.ownBlock = some r → w.heap.size ≤ r) ∧ Below w.heap.size w w' := by
  obtain ⟨i0, hi, hz0, hz1, hz2⟩ := info_parts infoB
  have H := hide h
  have HN : Hid (n = l.length) := hn
  have HQ : Hid (∀ y ∈ l, y.seq ≤ 1073741824) := hs
  clear h hn hs
  go_enter Tryz.func47, Tryz.ntmps47
  go_wp2_with (fail)
  go_loopw [5, 10] (fun v i wr => ∃ (j : Nat) (us : List Value), j ≤ n ∧ i = .int .i64 j ∧ Bats base wr v (Wl.behind (l.take j) seq) us ∧ (∀ r, v.ownBlock = some r → w.heap.size ≤ r) ∧ Hid (∀ u ∈ us, u ∈ vs) ∧ Below w.heap.size w wr) (fun _ i _ => n - (intOf i).toNat)
  case atStart => exact ⟨0, [], Nat.zero_le _, rfl, Bats.nil _ _, (fun r e => by cases e), (fun u hu => by cases hu), Below.refl _ _⟩
  case round =>
    obtain ⟨j, us, hj, rfl, BT, ho, HU, bx⟩ := hrel
    by_cases hlt : j < n
    · have jl : j < l.length := by have := HN.out; omega
      have jv : j < vs.length := by rw [H.out.len]; exact jl
      have h2 := H.out.later bx
      obtain ⟨g, rfl⟩ : ∃ g, a = some ⟨g, 0, none⟩ := by
        rcases h2.row.2 with ⟨e, h0⟩ | ⟨g, cap, cur, e, _⟩
        · omega
        · cases e; exact ⟨g, rfl⟩
      obtain ⟨z1, z2⟩ := h2.cells j jl jv
      obtain ⟨va, vn, vc, hve⟩ := H.out.slices vs[j] (List.getElem_mem jv)
      have ow := h2.own j jv jl
      rw [hve] at z2 ow
      have HW := hide ow
      have HV : Hid (Value.slice va vn vc ∈ vs) := by show _ ∈ _; rw [← hve]; exact List.getElem_mem jv
      have hq := HQ.out l[j] (List.getElem_mem jl)
      have bl := HQ.out
      have HY : Hid (∀ q : Wl.Bat, q = l[j] → seq < q.seq → Wl.behind (l.take (j + 1)) seq = Wl.behind (l.take j) seq ++ [q]) := fun q hq hs => by
        unfold Wl.behind
        rw [List.take_succ_eq_append_getElem jl, List.filter_append, ← hq]
        simp [hs]
      have HX : Hid (¬ seq < l[j].seq → Wl.behind (l.take (j + 1)) seq = Wl.behind (l.take j) seq) := fun hs => by
        unfold Wl.behind
        rw [List.take_succ_eq_append_getElem jl, List.filter_append]
        simp [hs]
      have fl : (Wl.behind (l.take j) seq).length ≤ j := by
        unfold Wl.behind
        have h1 := List.length_filter_le (fun x => decide (x.seq > seq)) (l.take j)
        rw [List.length_take] at h1
        omega
      obtain ⟨q, hqe⟩ : ∃ q, q = l[j] := ⟨_, rfl⟩
      rw [← hqe] at z1 hq HX ow HW
      have HY2 : Hid (seq < q.seq → Wl.behind (l.take (j + 1)) seq = Wl.behind (l.take j) seq ++ [q]) := fun hs => HY.out q hqe hs
      have HBT := hide BT
      have HO : Hid (∀ r, u5.ownBlock = some r → w.heap.size ≤ r) := ho
      generalize hm : Wl.behind (l.take j) seq = m at HBT HX HY2 fl
      have Z1 : Hid (m.length + 1 ≤ maxLen) := by show _ ≤ _; unfold maxLen; omega
      have Z2 : Hid ((m.length + 1) * 32 ≤ 140737488355328) := by show _ ≤ _; omega
      have zx := bx.size
      have HQs : Hid (q.seq = q.seq) := rfl
      obtain ⟨sq, hsq⟩ : ∃ s, s = q.seq := ⟨_, rfl⟩
      have HS2 : Hid (q.seq = sq) := hsq.symm
      rw [← hsq] at z1 hq HX HY2
      clear h2 hve ow HQ HY hqe BT ho hm bl jl jv hsq HQs fl
      by_cases hs : seq < sq
      · have k1 : (sq : Int) > (seq : Int) := by omega
        have HR : Hid (Wl.behind (l.take (j + 1)) seq = m ++ [q]) := HY2.out hs
        clear HX HY2 hs
        go_wp2_with (first
          | (at_builtin; refine wpList_append_lies _ rfl _ _ 41 rfl base 29 i0 _ 2 32 Tryz.underlying41 hi hz0 hz1 hz2 rfl (by decide) _ m.length _ rfl ((HBT.out.alloc _).alloc _).row ⟨wr.heap.size + 1, 0, none⟩ 1 1 (bcs [q] [.slice va vn vc]) rfl rfl (bat_new _ sq _ q HS2.out _ (by simp)) (bcs_one _ _ (fun u hu => by simp at hu; exact ⟨_, _, _, hu⟩)) (by decide) Z1.out Z2.out (by simp; omega) _ rfl ?_; intro g4 cap4 w4 o4 h4 l4 lt4))
        have BT4 := ((HBT.out.alloc (.cells #[.int .i64 (sq : Int), .slice va vn vc] 29)).alloc (.cells #[.int .i64 (sq : Int), .slice va vn vc] 29)).append (m := [q]) (us := [.slice va vn vc]) rfl (fun k hk hk' => by
          have : k = 0 := by simp at hk; exact hk
          subst this
          exact (HW.out.alloc _).alloc _) h4 (fun r hr k hk => by
          have : k = 0 := by simp at hk; exact hk
          subst this
          intro e
          obtain ⟨c1, fz, h1⟩ := Lib.ownsRow_kind HBT.out.row r hr
          obtain ⟨c2, fz', h2⟩ := Lib.ownsRow_kind HW.out r e
          rw [h1] at h2
          simp only [Option.some.injEq, Obj.cells.injEq] at h2
          exact absurd h2.2.1 (by decide)) o4
        have B4 : Below w.heap.size w w4 := ((bx.alloc zx _).alloc (by simp; omega) _).grown h4 (by simp; omega) (fun g hg => HO.out g hg)
        rw [← HR.out] at BT4
        have OB : ∀ r, (Value.slice (some ⟨g4, 0, none⟩) (m.length + 1) cap4).ownBlock = some r → w.heap.size ≤ r := fun r hr => by
          have hr' : g4 = r := by simpa [Value.ownBlock] using hr
          subst hr'
          rcases l4 with e | e
          · exact HO.out _ e
          · simp at e; omega
        exact ⟨⟨j + 1, _, by omega, by go_num, BT4, OB, (fun u hu => by
          rcases List.mem_append.1 hu with hu | hu
          · exact HU.out u hu
          · rw [List.mem_singleton.1 hu]; exact HV.out), B4⟩, by simp [intOf]; omega⟩
      · have k1 : ¬ (sq : Int) > (seq : Int) := by omega
        have HR : Hid (Wl.behind (l.take (j + 1)) seq = m) := HX.out hs
        clear HX HY2 hs
        go_wp2_with (fail)
        exact ⟨⟨j + 1, us, by omega, by go_num, by rw [HR.out]; exact HBT.out.alloc _, HO.out, HU, bx.alloc zx _⟩, by simp [intOf]; omega⟩
    · have i3 : ¬ (j : Int) < (n : Int) := by omega
      rw [List.take_of_length_le (by have := HN.out; omega)] at BT
      have hb' := hide BT
      have ho' := hide ho
      clear BT HN HQ H hlt hj ho
      go_wp2_with (fail)
      go_ret
      exact ⟨_, rfl, ⟨us, hb'.out, HU.out, ho'.out⟩, bx⟩
end Go.Proofs.YtppfkhpofbbnbaaGreatDoor
