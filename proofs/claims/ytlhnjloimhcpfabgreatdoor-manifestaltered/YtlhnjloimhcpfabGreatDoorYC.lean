/-
  Two laws for a region that draws its order: one operation that runs, one that is passed over. .. and what follows from it.
-/
import Derived.Test.YtlhnjloimhcpfabGreatDoorBase
import Derived.Deep.RegionHeld3
import Derived.Test.YtlhnjloimhcpfabGreatDoorYA
import Derived.Test.YtlhnjloimhcpfabGreatDoorYB
import Derived.Deep.Cut
import Derived.Deep.CutRange
namespace Go.Proofs.YtlhnjloimhcpfabGreatDoor
open Go.RowKit
theorem skipH {P : Program} {md : Region.Mode} {ops : Array Oper} {Q : Exit → Act → World → Prop} {S : World → Prop} (i d : Nat) {fuel : Nat} {listed : Array Bool} {a : Act} {w : World}
    (ho : ∃ o, ops[i]? = some o ∧ o.dst = some d ∧ Region.wanted o (yielded ops a.tmps) = false)
    (hs : Region.noSelect ops = true) (hf : Region.free md ops listed i = true) (hr : (Region.ready md ops listed).contains i = true)
    (hQ : ∀ c a w, Q (.panic c) (a.put (some d) undef) w → Q (.panic c) a w) (hS : S w)
    (h : wpAnyH P md ops Q S fuel (listed.setIfInBounds i true) (a.put (some d) undef) w) : wpAnyH P md ops Q S (fuel + 1) listed a w := by
  obtain ⟨o, h1, h2, h3⟩ := ho
  refine wpAnyH_take h1 hs hf hr ?_ (Or.inr ⟨h3, rfl⟩) hS ?_
  · rw [h2]; exact hQ
  · rw [h2]; exact h
theorem takeH {P : Program} {md : Region.Mode} {ops : Array Oper} {Q : Exit → Act → World → Prop} {S : World → Prop} (i d : Nat) (v : Value) {fuel : Nat} {listed : Array Bool} {a : Act} {w : World} {oi : Oper}
    (ho : ops[i]? = some oi) (hd : oi.dst = some d) (hw : Region.wanted oi (yielded ops a.tmps) = true)
    (hy : ∀ w, S w → (execOp a.eval oi).run P w = .ok (.value v) w)
    (hs : Region.noSelect ops = true) (hf : Region.free md ops listed i = true) (hr : (Region.ready md ops listed).contains i = true)
    (hQ : ∀ c a w, Q (.panic c) (a.put (some d) v) w → Q (.panic c) a w) (hS : S w)
    (h : wpAnyH P md ops Q S fuel (listed.setIfInBounds i true) (a.put (some d) v) w) : wpAnyH P md ops Q S (fuel + 1) listed a w := by
  refine wpAnyH_take ho hs hf hr ?_ (Or.inl ⟨hw, hy⟩) hS ?_
  · rw [hd]; exact hQ
  · rw [hd]; exact h
end Go.Proofs.YtlhnjloimhcpfabGreatDoor
namespace Go.Proofs.YtlhnjloimhcpfabGreatDoor
open Go.RowKit

abbrev vO (t : Value) (lo se ne : Int) : Obj := .cells #[t, .int .i64 lo, .int .i64 se, .int .i64 ne] 39
abbrev vv (t : Value) (lo se ne : Int) : Value := .agg #[t, .int .i64 lo, .int .i64 se, .int .i64 ne]

theorem may_long {l : List Mf.Mt} {lo se ne : Int} (h : ¬ l.length ≤ 1024) : Mf.may ⟨l, lo, se, ne⟩ = false := by
  unfold Mf.may
  rw [decide_eq_false (p := (⟨l, lo, se, ne⟩ : Mf.Vn).tabs.length ≤ 1024) h]
  rfl
theorem may_nums {l : List Mf.Mt} {lo se ne : Int} (h : Mf.nums lo se ne = false) : Mf.may ⟨l, lo, se, ne⟩ = false := by
  unfold Mf.may
  simp [h]
theorem may_rest {l : List Mf.Mt} {lo se ne : Int} (h1 : l.length ≤ 1024) (h2 : Mf.nums lo se ne = true) : Mf.may ⟨l, lo, se, ne⟩ = Mf.mayT l ne := by
  unfold Mf.may
  simp [h1, h2]
theorem mayT_bad {l : List Mf.Mt} {ne : Int} {j : Nat} (hj : j < l.length) (h : Mf.goodAt l ne j = false) : Mf.mayT l ne = false := by
  cases k : Mf.mayT l ne with
  | false => rfl
  | true => have := Mf.mayT_good k j hj; rw [h] at this; cases this
theorem mayT_all {l : List Mf.Mt} {ne : Int} (h : ∀ k, k < l.length → Mf.goodAt l ne k = true) : Mf.mayT l ne = decide (((Mf.once (Mf.numsOf l).reverse).length : Int) = (l.length : Int)) := by
  unfold Mf.mayT
  rw [show (List.range l.length).all (Mf.goodAt l ne) = true from List.all_eq_true.2 fun k hk => h k (List.mem_range.1 hk), Bool.true_and]
  congr 1
  exact propext ⟨fun k => by rw [k], fun k => by exact_mod_cast k⟩

theorem beq_dec (a b : Int) : (a == b) = decide (a = b) := by by_cases h : a = b <;> simp [h]

/-- What the loop has behind j tables. -/
structure MayIn (w wr : World) (t : Value) (l : List Mf.Mt) (lo se ne : Int) (j : Nat) : Prop where
  good : ∀ k, k < j → Mf.goodAt l ne k = true
  set : SetAt wr (w.heap.size + 1) (Mf.numsOf (l.take j)).reverse
  ver : wr.heap[w.heap.size]? = some (vO t lo se ne)
  bel : Below w.heap.size w wr

/-- Is the j-th table fine beside the one ahead of it? -/
def prevOk (l : List Mf.Mt) : Nat → Mf.Mt → Bool
  | 0, _ => true
  | k + 1, x => match l[k]? with | none => true | some a => Mf.follow a x
theorem good_parts {l : List Mf.Mt} {ne : Int} {j : Nat} {x : Mf.Mt} (hx : l[j]? = some x) : Mf.goodAt l ne j = (Mf.words x && decide (x.number < ne) && prevOk l j x) := by
  unfold Mf.goodAt
  rw [hx]
  cases j <;> rfl

theorem nums_take {l : List Mf.Mt} {j : Nat} (hj : j < l.length) : (Mf.numsOf (l.take (j + 1))).reverse = l[j].number :: (Mf.numsOf (l.take j)).reverse := by
  rw [List.take_succ_eq_append_getElem hj]
  unfold Mf.numsOf
  rw [List.map_append, List.reverse_append]
  rfl

set_option maxRecDepth 100000 in
set_option maxHeartbeats 8000000 in
theorem mayBe_any (w : World) (a : Option Addr) (cap : Nat) (l : List Mf.Mt) (lo se ne : Int) (h : MtsAt w (.slice a l.length cap) l) (hlen : l.length ≤ 10000000) (hs : ∀ x ∈ l, x.first.length ≤ 1000000000 ∧ x.last.length ≤ 1000000000) :
    Calls Tryz.prog 58 #[vv (.slice a l.length cap) lo se ne] w fun e w' => e = .returned (.bool (Mf.may ⟨l, lo, se, ne⟩)) ∧ Below w.heap.size w w' := by
  have NB := hide (fun wx => numbers_any wx lo se ne)
  have mk := run_makeSet
  obtain ⟨L, hL⟩ : ∃ L, L = l.length := ⟨_, rfl⟩
  have HL : Hid (L = l.length) := hL
  by_cases h1 : l.length ≤ 1024
  case neg =>
    rw [may_long h1, ← hL]
    have i1 : (L : Int) > 1024 := by omega
    clear h1 h hs hL
    go_enter Tryz.func58, Tryz.ntmps58
    go_wp2_with (fail)
    go_ret
    exact ⟨rfl, (Below.refl _ _).alloc (Nat.le_refl _) _⟩
  case pos =>
    have i1 : ¬ (L : Int) > 1024 := by omega
    cases h2 : Mf.nums lo se ne with
    | false =>
      rw [may_nums h2, ← hL]
      rw [h2] at NB
      clear h1 h hs h2 hL
      go_enter Tryz.func58, Tryz.ntmps58
      go_wp2_with (go_at_call 87; refine still (NB.out _) ?_)
      go_ret
      exact ⟨rfl, (Below.refl _ _).alloc (Nat.le_refl _) _⟩
    | true =>
      rw [may_rest h1 h2]
      rw [h2] at NB
      have WD := hide words_any
      have FW := hide follow_any
      have HW := hide h
      have HS : Hid (∀ x ∈ l, x.first.length ≤ 1000000000 ∧ x.last.length ≤ 1000000000) := hs
      obtain ⟨R, hR⟩ : ∃ R, R = Mf.mayT l ne := ⟨_, rfl⟩
      have HR : Hid (R = Mf.mayT l ne) := hR
      rw [← hR, ← hL]
      have l1 : L ≤ 1024 := by omega
      have W0 : Hid (MayIn w ((w.alloc (vO (.slice a L cap) lo se ne)).alloc (.map #[] 0)) (.slice a L cap) l lo se ne 0) := by
        have hm := SetAt.made (w.alloc (vO (.slice a L cap) lo se ne))
        rw [World.size_alloc] at hm
        exact ⟨fun k hk => by omega, hm, (Below.heap_alloc _ _ _ (by simp)).trans (World.alloc_heap_new w _), ((Below.refl _ _).alloc (Nat.le_refl _) _).alloc (by simp) _⟩
      clear h1 h hs h2 hR hL
      go_enter Tryz.func58, Tryz.ntmps58
      go_wp2_with (go_at_call 87; refine still (NB.out _) ?_)
      go_loopw [27] (fun i wr => ∃ j : Nat, j ≤ L ∧ i = .int .i64 j ∧ MayIn w wr (.slice a L cap) l lo se ne j) (fun i _ => L - (intOf i).toNat)
      case atStart => exact ⟨0, Nat.zero_le _, rfl, W0.out⟩
      case round =>
        obtain ⟨j, hj, rfl, D⟩ := hrel
        clear W0 NB mk
        by_cases hlt : j < L
        · have jl : j < l.length := by have := HL.out; omega
          have j1 : (j : Int) < (L : Int) := by omega
          obtain ⟨B, off, rfl⟩ := HW.out.some (by omega)
          have HB0 : Hid (MtsAt w (.slice (some ⟨B, off, none⟩) l.length cap) l) := HW.out
          obtain ⟨c0, c1, c2, c3, c4⟩ := (HB0.out.later D.bel).cells j jl
          have GP := hide (good_parts (ne := ne) (List.getElem?_eq_getElem jl))
          have hx := HS.out l[j] (List.getElem_mem jl)
          have NT := hide (nums_take jl)
          have CX : Hid (∀ wx, Below w.heap.size w wx → MtCells wx B (off + j * 5) l[j]) := fun wx hb => (HB0.out.later hb).cells j jl
          have CP : Hid (∀ k, k + 1 = j → ∀ wx, Below w.heap.size w wx → MtCells wx B (off + k * 5) (l[k]?.getD ⟨0, 0, 0, [], []⟩) ∧ l[k]? = some (l[k]?.getD ⟨0, 0, 0, [], []⟩)) := fun k hk wx hb => by
            have hkl : k < l.length := by omega
            have := (HB0.out.later hb).cells k hkl
            rw [List.getElem?_eq_getElem hkl]
            exact ⟨this, rfl⟩
          generalize l[j] = x at c0 c1 c2 c3 c4 GP hx NT CX
          obtain ⟨n, v, c, f, la⟩ := x
          simp only at c0 c1 c2 c3 c4 GP hx NT
          have HV := hide D.ver
          have vlt := (Array.getElem?_eq_some_iff.1 D.ver).1
          have HD := hide D
          have B1 : Hid (Below w.heap.size w (wr.alloc (mO ⟨n, v, c, f, la⟩))) := D.bel.alloc D.bel.size _
          have KX : Hid (∀ wx, Below (wr.alloc (mO ⟨n, v, c, f, la⟩)).heap.size (wr.alloc (mO ⟨n, v, c, f, la⟩)) wx → (wx.cell? ⟨wr.heap.size, 0, none⟩ = some (.int .i64 n) ∧ wx.cell? ⟨wr.heap.size, 1, none⟩ = some (.int .i64 v) ∧ wx.cell? ⟨wr.heap.size, 2, none⟩ = some (.int .i64 c) ∧ wx.cell? ⟨wr.heap.size, 3, none⟩ = some (str f) ∧ wx.cell? ⟨wr.heap.size, 4, none⟩ = some (str la)) ∧ (wx.cell? ⟨w.heap.size, 0, none⟩ = some (.slice (some ⟨B, off, none⟩) L cap) ∧ wx.cell? ⟨w.heap.size, 3, none⟩ = some (.int .i64 ne))) := fun wx hb => by
            have e1 := (hb.block _ (by simp)).trans (World.alloc_heap_new wr (mO ⟨n, v, c, f, la⟩))
            have e2 := (hb.block _ (by simp; omega)).trans ((Below.heap_alloc wr (mO ⟨n, v, c, f, la⟩) _ vlt).trans HV.out)
            exact ⟨⟨Joins.cell_of_block e1 0, Joins.cell_of_block e1 1, Joins.cell_of_block e1 2, Joins.cell_of_block e1 3, Joins.cell_of_block e1 4⟩, Joins.cell_of_block e2 0, Joins.cell_of_block e2 3⟩
          have WX : Hid (∀ wx, Calls Tryz.prog 86 #[mv ⟨n, v, c, f, la⟩] wx fun e w' => e = .returned (.bool (Mf.words ⟨n, v, c, f, la⟩)) ∧ Below wx.heap.size wx w') := fun wx => WD.out wx _ hx.1 hx.2
          have jj : (j : Int) ≤ 1024 := by omega
          clear hx D HW WD
          go_wp2_with (fail)
          go_cut [56] from 32 to 55 (fun z wx => z = .bool (!Mf.goodAt l ne j) ∧ Below (wr.alloc (mO ⟨n, v, c, f, la⟩)).heap.size (wr.alloc (mO ⟨n, v, c, f, la⟩)) wx)
          case first =>
            cases hw : Mf.words ⟨n, v, c, f, la⟩ with
            | false =>
              rw [hw] at WX GP
              have HG : Hid (Mf.goodAt l ne j = false) := by show _ = _; rw [GP.out]; rfl
              clear hw GP CP CX HB0 NT FW
              have KS : Hid (∀ wx, Below (wr.alloc (mO ⟨n, v, c, f, la⟩)).heap.size (wr.alloc (mO ⟨n, v, c, f, la⟩)) wx → (fun wx => ((wx.cell? ⟨wr.heap.size, 0, none⟩ = some (.int .i64 n) ∧ wx.cell? ⟨wr.heap.size, 1, none⟩ = some (.int .i64 v) ∧ wx.cell? ⟨wr.heap.size, 2, none⟩ = some (.int .i64 c) ∧ wx.cell? ⟨wr.heap.size, 3, none⟩ = some (str f) ∧ wx.cell? ⟨wr.heap.size, 4, none⟩ = some (str la)) ∧ (wx.cell? ⟨w.heap.size, 0, none⟩ = some (.slice (some ⟨B, off, none⟩) L cap) ∧ wx.cell? ⟨w.heap.size, 3, none⟩ = some (.int .i64 ne))) ∧ Hid (Below (wr.alloc (mO ⟨n, v, c, f, la⟩)).heap.size (wr.alloc (mO ⟨n, v, c, f, la⟩)) wx)) wx) := fun wx hx => ⟨KX.out wx hx, hx⟩
              have P0 := KS.out _ (Below.refl _ (wr.alloc (mO ⟨n, v, c, f, la⟩))).drew
              refine wp_region_held_drew (S := (fun wx => ((wx.cell? ⟨wr.heap.size, 0, none⟩ = some (.int .i64 n) ∧ wx.cell? ⟨wr.heap.size, 1, none⟩ = some (.int .i64 v) ∧ wx.cell? ⟨wr.heap.size, 2, none⟩ = some (.int .i64 c) ∧ wx.cell? ⟨wr.heap.size, 3, none⟩ = some (str f) ∧ wx.cell? ⟨wr.heap.size, 4, none⟩ = some (str la)) ∧ (wx.cell? ⟨w.heap.size, 0, none⟩ = some (.slice (some ⟨B, off, none⟩) L cap) ∧ wx.cell? ⟨w.heap.size, 3, none⟩ = some (.int .i64 ne))) ∧ Hid (Below (wr.alloc (mO ⟨n, v, c, f, la⟩)).heap.size (wr.alloc (mO ⟨n, v, c, f, la⟩)) wx))) (by kernel_rfl) P0 (fun hHeld => ?_)
              refine takeH (oi := ?oia1) 0 32 (.agg #[.int .i64 n, .int .i64 v, .int .i64 c, str f, str la]) ?hia1 ?hda1 ?hwa1 ?hya1 (by kernel_rfl) (by kernel_rfl) (by kernel_rfl) ?hQa1 (by assumption) ?_
              case hia1 => simp only [List.getElem?_toArray, List.getElem?_cons_zero]; rfl
              case hda1 => rfl
              case hwa1 => rfl
              case hya1 => (intro w hSw; (try dsimp only at hSw); go_simp)
              case hQa1 => exact fun _ _ _ h => h
              simp only [Act.put, List.setIfInBounds_toArray, List.set_cons_zero, List.set_cons_succ]
              refine wpAnyH_ready (rs := [1]) (by kernel_rfl) (by simp) ?_
              refine AllReadyH.cons rfl (fun KK hK => ?_) AllReadyH.nil
              go_simp
              refine (WX.out _).mono ?_
              rintro e w3 ⟨rfl, b3⟩
              have D3 : Below (wr.alloc (mO ⟨n, v, c, f, la⟩)).heap.size (wr.alloc (mO ⟨n, v, c, f, la⟩)) w3 := (Below.refl _ _).drew.trans b3
              go_wp2_with (fail)
              refine hK.out _ _ (KS.out _ D3) (fun hHeld => ?_)
              clear hK KK
              refine takeH (oi := ?oia2) 2 34 (.bool true) ?hia2 ?hda2 ?hwa2 ?hya2 (by kernel_rfl) (by kernel_rfl) (by kernel_rfl) ?hQa2 (by assumption) ?_
              case hia2 => simp only [List.getElem?_toArray, List.getElem?_cons_zero, List.getElem?_cons_succ]; rfl
              case hda2 => rfl
              case hwa2 => rfl
              case hya2 => (intro w hSw; (try dsimp only at hSw); go_simp)
              case hQa2 => exact fun _ _ _ h => h
              simp only [Act.put, List.setIfInBounds_toArray, List.set_cons_zero, List.set_cons_succ]
              refine takeH (oi := ?oia3) 3 35 (.bool true) ?hia3 ?hda3 ?hwa3 ?hya3 (by kernel_rfl) (by kernel_rfl) (by kernel_rfl) ?hQa3 (by assumption) ?_
              case hia3 => simp only [List.getElem?_toArray, List.getElem?_cons_zero, List.getElem?_cons_succ]; rfl
              case hda3 => rfl
              case hwa3 => rfl
              case hya3 => (intro w hSw; (try dsimp only at hSw); go_simp)
              case hQa3 => exact fun _ _ _ h => h
              simp only [Act.put, List.setIfInBounds_toArray, List.set_cons_zero, List.set_cons_succ]
              refine skipH 4 36 ⟨_, rfl, rfl, by rfl⟩ (by kernel_rfl) (by kernel_rfl) (by kernel_rfl) (fun _ _ _ h => h) (by assumption) ?_
              simp only [Act.put, List.setIfInBounds_toArray, List.set_cons_zero, List.set_cons_succ]
              refine skipH 5 37 ⟨_, rfl, rfl, by rfl⟩ (by kernel_rfl) (by kernel_rfl) (by kernel_rfl) (fun _ _ _ h => h) (by assumption) ?_
              simp only [Act.put, List.setIfInBounds_toArray, List.set_cons_zero, List.set_cons_succ]
              refine skipH 6 38 ⟨_, rfl, rfl, by rfl⟩ (by kernel_rfl) (by kernel_rfl) (by kernel_rfl) (fun _ _ _ h => h) (by assumption) ?_
              simp only [Act.put, List.setIfInBounds_toArray, List.set_cons_zero, List.set_cons_succ]
              refine skipH 7 39 ⟨_, rfl, rfl, by rfl⟩ (by kernel_rfl) (by kernel_rfl) (by kernel_rfl) (fun _ _ _ h => h) (by assumption) ?_
              simp only [Act.put, List.setIfInBounds_toArray, List.set_cons_zero, List.set_cons_succ]
              refine skipH 8 40 ⟨_, rfl, rfl, by rfl⟩ (by kernel_rfl) (by kernel_rfl) (by kernel_rfl) (fun _ _ _ h => h) (by assumption) ?_
              simp only [Act.put, List.setIfInBounds_toArray, List.set_cons_zero, List.set_cons_succ]
              refine takeH (oi := ?oia4) 9 41 (.bool true) ?hia4 ?hda4 ?hwa4 ?hya4 (by kernel_rfl) (by kernel_rfl) (by kernel_rfl) ?hQa4 (by assumption) ?_
              case hia4 => simp only [List.getElem?_toArray, List.getElem?_cons_zero, List.getElem?_cons_succ]; rfl
              case hda4 => rfl
              case hwa4 => rfl
              case hya4 => (intro w hSw; (try dsimp only at hSw); go_simp)
              case hQa4 => exact fun _ _ _ h => h
              simp only [Act.put, List.setIfInBounds_toArray, List.set_cons_zero, List.set_cons_succ]
              refine takeH (oi := ?oia5) 10 42 (.bool true) ?hia5 ?hda5 ?hwa5 ?hya5 (by kernel_rfl) (by kernel_rfl) (by kernel_rfl) ?hQa5 (by assumption) ?_
              case hia5 => simp only [List.getElem?_toArray, List.getElem?_cons_zero, List.getElem?_cons_succ]; rfl
              case hda5 => rfl
              case hwa5 => rfl
              case hya5 => (intro w hSw; (try dsimp only at hSw); go_simp)
              case hQa5 => exact fun _ _ _ h => h
              simp only [Act.put, List.setIfInBounds_toArray, List.set_cons_zero, List.set_cons_succ]
              refine skipH 11 43 ⟨_, rfl, rfl, by rfl⟩ (by kernel_rfl) (by kernel_rfl) (by kernel_rfl) (fun _ _ _ h => h) (by assumption) ?_
              simp only [Act.put, List.setIfInBounds_toArray, List.set_cons_zero, List.set_cons_succ]
              refine skipH 12 44 ⟨_, rfl, rfl, by rfl⟩ (by kernel_rfl) (by kernel_rfl) (by kernel_rfl) (fun _ _ _ h => h) (by assumption) ?_
              simp only [Act.put, List.setIfInBounds_toArray, List.set_cons_zero, List.set_cons_succ]
              refine skipH 13 45 ⟨_, rfl, rfl, by rfl⟩ (by kernel_rfl) (by kernel_rfl) (by kernel_rfl) (fun _ _ _ h => h) (by assumption) ?_
              simp only [Act.put, List.setIfInBounds_toArray, List.set_cons_zero, List.set_cons_succ]
              refine skipH 14 46 ⟨_, rfl, rfl, by rfl⟩ (by kernel_rfl) (by kernel_rfl) (by kernel_rfl) (fun _ _ _ h => h) (by assumption) ?_
              simp only [Act.put, List.setIfInBounds_toArray, List.set_cons_zero, List.set_cons_succ]
              refine skipH 15 47 ⟨_, rfl, rfl, by rfl⟩ (by kernel_rfl) (by kernel_rfl) (by kernel_rfl) (fun _ _ _ h => h) (by assumption) ?_
              simp only [Act.put, List.setIfInBounds_toArray, List.set_cons_zero, List.set_cons_succ]
              refine skipH 16 48 ⟨_, rfl, rfl, by rfl⟩ (by kernel_rfl) (by kernel_rfl) (by kernel_rfl) (fun _ _ _ h => h) (by assumption) ?_
              simp only [Act.put, List.setIfInBounds_toArray, List.set_cons_zero, List.set_cons_succ]
              refine skipH 17 49 ⟨_, rfl, rfl, by rfl⟩ (by kernel_rfl) (by kernel_rfl) (by kernel_rfl) (fun _ _ _ h => h) (by assumption) ?_
              simp only [Act.put, List.setIfInBounds_toArray, List.set_cons_zero, List.set_cons_succ]
              refine skipH 18 50 ⟨_, rfl, rfl, by rfl⟩ (by kernel_rfl) (by kernel_rfl) (by kernel_rfl) (fun _ _ _ h => h) (by assumption) ?_
              simp only [Act.put, List.setIfInBounds_toArray, List.set_cons_zero, List.set_cons_succ]
              refine skipH 19 51 ⟨_, rfl, rfl, by rfl⟩ (by kernel_rfl) (by kernel_rfl) (by kernel_rfl) (fun _ _ _ h => h) (by assumption) ?_
              simp only [Act.put, List.setIfInBounds_toArray, List.set_cons_zero, List.set_cons_succ]
              refine skipH 20 52 ⟨_, rfl, rfl, by rfl⟩ (by kernel_rfl) (by kernel_rfl) (by kernel_rfl) (fun _ _ _ h => h) (by assumption) ?_
              simp only [Act.put, List.setIfInBounds_toArray, List.set_cons_zero, List.set_cons_succ]
              refine skipH 21 53 ⟨_, rfl, rfl, by rfl⟩ (by kernel_rfl) (by kernel_rfl) (by kernel_rfl) (fun _ _ _ h => h) (by assumption) ?_
              simp only [Act.put, List.setIfInBounds_toArray, List.set_cons_zero, List.set_cons_succ]
              refine skipH 22 54 ⟨_, rfl, rfl, by rfl⟩ (by kernel_rfl) (by kernel_rfl) (by kernel_rfl) (fun _ _ _ h => h) (by assumption) ?_
              simp only [Act.put, List.setIfInBounds_toArray, List.set_cons_zero, List.set_cons_succ]
              refine skipH 23 55 ⟨_, rfl, rfl, by rfl⟩ (by kernel_rfl) (by kernel_rfl) (by kernel_rfl) (fun _ _ _ h => h) (by assumption) ?_
              simp only [Act.put, List.setIfInBounds_toArray, List.set_cons_zero, List.set_cons_succ]
              refine takeH (oi := ?oia6) 24 56 (.bool true) ?hia6 ?hda6 ?hwa6 ?hya6 (by kernel_rfl) (by kernel_rfl) (by kernel_rfl) ?hQa6 (by assumption) ?_
              case hia6 => simp only [List.getElem?_toArray, List.getElem?_cons_zero, List.getElem?_cons_succ]; rfl
              case hda6 => rfl
              case hwa6 => rfl
              case hya6 => (intro w hSw; (try dsimp only at hSw); go_simp)
              case hQa6 => exact fun _ _ _ h => h
              simp only [Act.put, List.setIfInBounds_toArray, List.set_cons_zero, List.set_cons_succ]
              refine wpAnyH_done (by kernel_rfl) ?_ _
              go_wp2_with (fail)
              go_meet
              case rel => rw [HG.out]; exact ⟨rfl, D3⟩
            | true =>
              rw [hw, Bool.true_and] at GP
              rw [hw] at WX
              by_cases hn : n < ne
              case neg =>
                have HG : Hid (Mf.goodAt l ne j = false) := by show _ = _; rw [GP.out, decide_eq_false hn]; rfl
                have i7 : ne ≤ n := by omega
                have i8 : n ≥ ne := i7
                clear hw GP CP CX HB0 NT FW hn
                have KS : Hid (∀ wx, Below (wr.alloc (mO ⟨n, v, c, f, la⟩)).heap.size (wr.alloc (mO ⟨n, v, c, f, la⟩)) wx → (fun wx => ((wx.cell? ⟨wr.heap.size, 0, none⟩ = some (.int .i64 n) ∧ wx.cell? ⟨wr.heap.size, 1, none⟩ = some (.int .i64 v) ∧ wx.cell? ⟨wr.heap.size, 2, none⟩ = some (.int .i64 c) ∧ wx.cell? ⟨wr.heap.size, 3, none⟩ = some (str f) ∧ wx.cell? ⟨wr.heap.size, 4, none⟩ = some (str la)) ∧ (wx.cell? ⟨w.heap.size, 0, none⟩ = some (.slice (some ⟨B, off, none⟩) L cap) ∧ wx.cell? ⟨w.heap.size, 3, none⟩ = some (.int .i64 ne))) ∧ Hid (Below (wr.alloc (mO ⟨n, v, c, f, la⟩)).heap.size (wr.alloc (mO ⟨n, v, c, f, la⟩)) wx)) wx) := fun wx hx => ⟨KX.out wx hx, hx⟩
                have P0 := KS.out _ (Below.refl _ (wr.alloc (mO ⟨n, v, c, f, la⟩))).drew
                refine wp_region_held_drew (S := (fun wx => ((wx.cell? ⟨wr.heap.size, 0, none⟩ = some (.int .i64 n) ∧ wx.cell? ⟨wr.heap.size, 1, none⟩ = some (.int .i64 v) ∧ wx.cell? ⟨wr.heap.size, 2, none⟩ = some (.int .i64 c) ∧ wx.cell? ⟨wr.heap.size, 3, none⟩ = some (str f) ∧ wx.cell? ⟨wr.heap.size, 4, none⟩ = some (str la)) ∧ (wx.cell? ⟨w.heap.size, 0, none⟩ = some (.slice (some ⟨B, off, none⟩) L cap) ∧ wx.cell? ⟨w.heap.size, 3, none⟩ = some (.int .i64 ne))) ∧ Hid (Below (wr.alloc (mO ⟨n, v, c, f, la⟩)).heap.size (wr.alloc (mO ⟨n, v, c, f, la⟩)) wx))) (by kernel_rfl) P0 (fun hHeld => ?_)
                refine takeH (oi := ?oia7) 0 32 (.agg #[.int .i64 n, .int .i64 v, .int .i64 c, str f, str la]) ?hia7 ?hda7 ?hwa7 ?hya7 (by kernel_rfl) (by kernel_rfl) (by kernel_rfl) ?hQa7 (by assumption) ?_
                case hia7 => simp only [List.getElem?_toArray, List.getElem?_cons_zero]; rfl
                case hda7 => rfl
                case hwa7 => rfl
                case hya7 => (intro w hSw; (try dsimp only at hSw); go_simp)
                case hQa7 => exact fun _ _ _ h => h
                simp only [Act.put, List.setIfInBounds_toArray, List.set_cons_zero, List.set_cons_succ]
                refine wpAnyH_ready (rs := [1]) (by kernel_rfl) (by simp) ?_
                refine AllReadyH.cons rfl (fun KK hK => ?_) AllReadyH.nil
                go_simp
                refine (WX.out _).mono ?_
                rintro e w3 ⟨rfl, b3⟩
                have D3 : Below (wr.alloc (mO ⟨n, v, c, f, la⟩)).heap.size (wr.alloc (mO ⟨n, v, c, f, la⟩)) w3 := (Below.refl _ _).drew.trans b3
                go_wp2_with (fail)
                refine hK.out _ _ (KS.out _ D3) (fun hHeld => ?_)
                clear hK KK
                refine takeH (oi := ?oia8) 2 34 (.bool false) ?hia8 ?hda8 ?hwa8 ?hya8 (by kernel_rfl) (by kernel_rfl) (by kernel_rfl) ?hQa8 (by assumption) ?_
                case hia8 => simp only [List.getElem?_toArray, List.getElem?_cons_zero, List.getElem?_cons_succ]; rfl
                case hda8 => rfl
                case hwa8 => rfl
                case hya8 => (intro w hSw; (try dsimp only at hSw); go_simp)
                case hQa8 => exact fun _ _ _ h => h
                simp only [Act.put, List.setIfInBounds_toArray, List.set_cons_zero, List.set_cons_succ]
                refine takeH (oi := ?oia9) 3 35 (.bool false) ?hia9 ?hda9 ?hwa9 ?hya9 (by kernel_rfl) (by kernel_rfl) (by kernel_rfl) ?hQa9 (by assumption) ?_
                case hia9 => simp only [List.getElem?_toArray, List.getElem?_cons_zero, List.getElem?_cons_succ]; rfl
                case hda9 => rfl
                case hwa9 => rfl
                case hya9 => (intro w hSw; (try dsimp only at hSw); go_simp)
                case hQa9 => exact fun _ _ _ h => h
                simp only [Act.put, List.setIfInBounds_toArray, List.set_cons_zero, List.set_cons_succ]
                refine takeH (oi := ?oia10) 4 36 (.pointer (some ⟨wr.heap.size, 0, none⟩)) ?hia10 ?hda10 ?hwa10 ?hya10 (by kernel_rfl) (by kernel_rfl) (by kernel_rfl) ?hQa10 (by assumption) ?_
                case hia10 => simp only [List.getElem?_toArray, List.getElem?_cons_zero, List.getElem?_cons_succ]; rfl
                case hda10 => rfl
                case hwa10 => rfl
                case hya10 => (intro w hSw; (try dsimp only at hSw); go_simp)
                case hQa10 => exact fun _ _ _ h => h
                simp only [Act.put, List.setIfInBounds_toArray, List.set_cons_zero, List.set_cons_succ]
                refine takeH (oi := ?oia11) 5 37 (.int .i64 n) ?hia11 ?hda11 ?hwa11 ?hya11 (by kernel_rfl) (by kernel_rfl) (by kernel_rfl) ?hQa11 (by assumption) ?_
                case hia11 => simp only [List.getElem?_toArray, List.getElem?_cons_zero, List.getElem?_cons_succ]; rfl
                case hda11 => rfl
                case hwa11 => rfl
                case hya11 => (intro w hSw; (try dsimp only at hSw); go_simp)
                case hQa11 => exact fun _ _ _ h => h
                simp only [Act.put, List.setIfInBounds_toArray, List.set_cons_zero, List.set_cons_succ]
                refine takeH (oi := ?oia12) 6 38 (.pointer (some ⟨w.heap.size, 3, none⟩)) ?hia12 ?hda12 ?hwa12 ?hya12 (by kernel_rfl) (by kernel_rfl) (by kernel_rfl) ?hQa12 (by assumption) ?_
                case hia12 => simp only [List.getElem?_toArray, List.getElem?_cons_zero, List.getElem?_cons_succ]; rfl
                case hda12 => rfl
                case hwa12 => rfl
                case hya12 => (intro w hSw; (try dsimp only at hSw); go_simp)
                case hQa12 => exact fun _ _ _ h => h
                simp only [Act.put, List.setIfInBounds_toArray, List.set_cons_zero, List.set_cons_succ]
                refine takeH (oi := ?oia13) 7 39 (.int .i64 ne) ?hia13 ?hda13 ?hwa13 ?hya13 (by kernel_rfl) (by kernel_rfl) (by kernel_rfl) ?hQa13 (by assumption) ?_
                case hia13 => simp only [List.getElem?_toArray, List.getElem?_cons_zero, List.getElem?_cons_succ]; rfl
                case hda13 => rfl
                case hwa13 => rfl
                case hya13 => (intro w hSw; (try dsimp only at hSw); go_simp)
                case hQa13 => exact fun _ _ _ h => h
                simp only [Act.put, List.setIfInBounds_toArray, List.set_cons_zero, List.set_cons_succ]
                refine takeH (oi := ?oia14) 8 40 (.bool true) ?hia14 ?hda14 ?hwa14 ?hya14 (by kernel_rfl) (by kernel_rfl) (by kernel_rfl) ?hQa14 (by assumption) ?_
                case hia14 => simp only [List.getElem?_toArray, List.getElem?_cons_zero, List.getElem?_cons_succ]; rfl
                case hda14 => rfl
                case hwa14 => rfl
                case hya14 => (intro w hSw; (try dsimp only at hSw); go_simp)
                case hQa14 => exact fun _ _ _ h => h
                simp only [Act.put, List.setIfInBounds_toArray, List.set_cons_zero, List.set_cons_succ]
                refine takeH (oi := ?oia15) 9 41 (.bool true) ?hia15 ?hda15 ?hwa15 ?hya15 (by kernel_rfl) (by kernel_rfl) (by kernel_rfl) ?hQa15 (by assumption) ?_
                case hia15 => simp only [List.getElem?_toArray, List.getElem?_cons_zero, List.getElem?_cons_succ]; rfl
                case hda15 => rfl
                case hwa15 => rfl
                case hya15 => (intro w hSw; (try dsimp only at hSw); go_simp)
                case hQa15 => exact fun _ _ _ h => h
                simp only [Act.put, List.setIfInBounds_toArray, List.set_cons_zero, List.set_cons_succ]
                refine takeH (oi := ?oia16) 10 42 (.bool true) ?hia16 ?hda16 ?hwa16 ?hya16 (by kernel_rfl) (by kernel_rfl) (by kernel_rfl) ?hQa16 (by assumption) ?_
                case hia16 => simp only [List.getElem?_toArray, List.getElem?_cons_zero, List.getElem?_cons_succ]; rfl
                case hda16 => rfl
                case hwa16 => rfl
                case hya16 => (intro w hSw; (try dsimp only at hSw); go_simp)
                case hQa16 => exact fun _ _ _ h => h
                simp only [Act.put, List.setIfInBounds_toArray, List.set_cons_zero, List.set_cons_succ]
                refine skipH 11 43 ⟨_, rfl, rfl, by rfl⟩ (by kernel_rfl) (by kernel_rfl) (by kernel_rfl) (fun _ _ _ h => h) (by assumption) ?_
                simp only [Act.put, List.setIfInBounds_toArray, List.set_cons_zero, List.set_cons_succ]
                refine skipH 12 44 ⟨_, rfl, rfl, by rfl⟩ (by kernel_rfl) (by kernel_rfl) (by kernel_rfl) (fun _ _ _ h => h) (by assumption) ?_
                simp only [Act.put, List.setIfInBounds_toArray, List.set_cons_zero, List.set_cons_succ]
                refine skipH 13 45 ⟨_, rfl, rfl, by rfl⟩ (by kernel_rfl) (by kernel_rfl) (by kernel_rfl) (fun _ _ _ h => h) (by assumption) ?_
                simp only [Act.put, List.setIfInBounds_toArray, List.set_cons_zero, List.set_cons_succ]
                refine skipH 14 46 ⟨_, rfl, rfl, by rfl⟩ (by kernel_rfl) (by kernel_rfl) (by kernel_rfl) (fun _ _ _ h => h) (by assumption) ?_
                simp only [Act.put, List.setIfInBounds_toArray, List.set_cons_zero, List.set_cons_succ]
                refine skipH 15 47 ⟨_, rfl, rfl, by rfl⟩ (by kernel_rfl) (by kernel_rfl) (by kernel_rfl) (fun _ _ _ h => h) (by assumption) ?_
                simp only [Act.put, List.setIfInBounds_toArray, List.set_cons_zero, List.set_cons_succ]
                refine skipH 16 48 ⟨_, rfl, rfl, by rfl⟩ (by kernel_rfl) (by kernel_rfl) (by kernel_rfl) (fun _ _ _ h => h) (by assumption) ?_
                simp only [Act.put, List.setIfInBounds_toArray, List.set_cons_zero, List.set_cons_succ]
                refine skipH 17 49 ⟨_, rfl, rfl, by rfl⟩ (by kernel_rfl) (by kernel_rfl) (by kernel_rfl) (fun _ _ _ h => h) (by assumption) ?_
                simp only [Act.put, List.setIfInBounds_toArray, List.set_cons_zero, List.set_cons_succ]
                refine skipH 18 50 ⟨_, rfl, rfl, by rfl⟩ (by kernel_rfl) (by kernel_rfl) (by kernel_rfl) (fun _ _ _ h => h) (by assumption) ?_
                simp only [Act.put, List.setIfInBounds_toArray, List.set_cons_zero, List.set_cons_succ]
                refine skipH 19 51 ⟨_, rfl, rfl, by rfl⟩ (by kernel_rfl) (by kernel_rfl) (by kernel_rfl) (fun _ _ _ h => h) (by assumption) ?_
                simp only [Act.put, List.setIfInBounds_toArray, List.set_cons_zero, List.set_cons_succ]
                refine skipH 20 52 ⟨_, rfl, rfl, by rfl⟩ (by kernel_rfl) (by kernel_rfl) (by kernel_rfl) (fun _ _ _ h => h) (by assumption) ?_
                simp only [Act.put, List.setIfInBounds_toArray, List.set_cons_zero, List.set_cons_succ]
                refine skipH 21 53 ⟨_, rfl, rfl, by rfl⟩ (by kernel_rfl) (by kernel_rfl) (by kernel_rfl) (fun _ _ _ h => h) (by assumption) ?_
                simp only [Act.put, List.setIfInBounds_toArray, List.set_cons_zero, List.set_cons_succ]
                refine skipH 22 54 ⟨_, rfl, rfl, by rfl⟩ (by kernel_rfl) (by kernel_rfl) (by kernel_rfl) (fun _ _ _ h => h) (by assumption) ?_
                simp only [Act.put, List.setIfInBounds_toArray, List.set_cons_zero, List.set_cons_succ]
                refine skipH 23 55 ⟨_, rfl, rfl, by rfl⟩ (by kernel_rfl) (by kernel_rfl) (by kernel_rfl) (fun _ _ _ h => h) (by assumption) ?_
                simp only [Act.put, List.setIfInBounds_toArray, List.set_cons_zero, List.set_cons_succ]
                refine takeH (oi := ?oia17) 24 56 (.bool true) ?hia17 ?hda17 ?hwa17 ?hya17 (by kernel_rfl) (by kernel_rfl) (by kernel_rfl) ?hQa17 (by assumption) ?_
                case hia17 => simp only [List.getElem?_toArray, List.getElem?_cons_zero, List.getElem?_cons_succ]; rfl
                case hda17 => rfl
                case hwa17 => rfl
                case hya17 => (intro w hSw; (try dsimp only at hSw); go_simp)
                case hQa17 => exact fun _ _ _ h => h
                simp only [Act.put, List.setIfInBounds_toArray, List.set_cons_zero, List.set_cons_succ]
                refine wpAnyH_done (by kernel_rfl) ?_ _
                go_wp2_with (fail)
                go_meet
                case rel => rw [HG.out]; exact ⟨rfl, D3⟩
              case pos =>
                rw [decide_eq_true hn, Bool.true_and] at GP
                have i7 : ¬ ne ≤ n := by omega
                have i8 : ¬ n ≥ ne := i7
                clear hw hn
                by_cases j0 : j = 0
                case pos =>
                  have HG : Hid (Mf.goodAt l ne j = true) := by show _ = _; rw [GP.out, j0]; rfl
                  have j9 : ¬ (j : Int) > 0 := by omega
                  have j8 : ¬ (0 : Int) < (j : Int) := by omega
                  have j6 : ¬ 0 < j := by omega
                  clear GP CP CX HB0 NT FW j0
                  have KS : Hid (∀ wx, Below (wr.alloc (mO ⟨n, v, c, f, la⟩)).heap.size (wr.alloc (mO ⟨n, v, c, f, la⟩)) wx → (fun wx => ((wx.cell? ⟨wr.heap.size, 0, none⟩ = some (.int .i64 n) ∧ wx.cell? ⟨wr.heap.size, 1, none⟩ = some (.int .i64 v) ∧ wx.cell? ⟨wr.heap.size, 2, none⟩ = some (.int .i64 c) ∧ wx.cell? ⟨wr.heap.size, 3, none⟩ = some (str f) ∧ wx.cell? ⟨wr.heap.size, 4, none⟩ = some (str la)) ∧ (wx.cell? ⟨w.heap.size, 0, none⟩ = some (.slice (some ⟨B, off, none⟩) L cap) ∧ wx.cell? ⟨w.heap.size, 3, none⟩ = some (.int .i64 ne))) ∧ Hid (Below (wr.alloc (mO ⟨n, v, c, f, la⟩)).heap.size (wr.alloc (mO ⟨n, v, c, f, la⟩)) wx)) wx) := fun wx hx => ⟨KX.out wx hx, hx⟩
                  have P0 := KS.out _ (Below.refl _ (wr.alloc (mO ⟨n, v, c, f, la⟩))).drew
                  refine wp_region_held_drew (S := (fun wx => ((wx.cell? ⟨wr.heap.size, 0, none⟩ = some (.int .i64 n) ∧ wx.cell? ⟨wr.heap.size, 1, none⟩ = some (.int .i64 v) ∧ wx.cell? ⟨wr.heap.size, 2, none⟩ = some (.int .i64 c) ∧ wx.cell? ⟨wr.heap.size, 3, none⟩ = some (str f) ∧ wx.cell? ⟨wr.heap.size, 4, none⟩ = some (str la)) ∧ (wx.cell? ⟨w.heap.size, 0, none⟩ = some (.slice (some ⟨B, off, none⟩) L cap) ∧ wx.cell? ⟨w.heap.size, 3, none⟩ = some (.int .i64 ne))) ∧ Hid (Below (wr.alloc (mO ⟨n, v, c, f, la⟩)).heap.size (wr.alloc (mO ⟨n, v, c, f, la⟩)) wx))) (by kernel_rfl) P0 (fun hHeld => ?_)
                  refine takeH (oi := ?oia18) 0 32 (.agg #[.int .i64 n, .int .i64 v, .int .i64 c, str f, str la]) ?hia18 ?hda18 ?hwa18 ?hya18 (by kernel_rfl) (by kernel_rfl) (by kernel_rfl) ?hQa18 (by assumption) ?_
                  case hia18 => simp only [List.getElem?_toArray, List.getElem?_cons_zero]; rfl
                  case hda18 => rfl
                  case hwa18 => rfl
                  case hya18 => (intro w hSw; (try dsimp only at hSw); go_simp)
                  case hQa18 => exact fun _ _ _ h => h
                  simp only [Act.put, List.setIfInBounds_toArray, List.set_cons_zero, List.set_cons_succ]
                  refine wpAnyH_ready (rs := [1]) (by kernel_rfl) (by simp) ?_
                  refine AllReadyH.cons rfl (fun KK hK => ?_) AllReadyH.nil
                  go_simp
                  refine (WX.out _).mono ?_
                  rintro e w3 ⟨rfl, b3⟩
                  have D3 : Below (wr.alloc (mO ⟨n, v, c, f, la⟩)).heap.size (wr.alloc (mO ⟨n, v, c, f, la⟩)) w3 := (Below.refl _ _).drew.trans b3
                  go_wp2_with (fail)
                  refine hK.out _ _ (KS.out _ D3) (fun hHeld => ?_)
                  clear hK KK
                  refine takeH (oi := ?oia19) 2 34 (.bool false) ?hia19 ?hda19 ?hwa19 ?hya19 (by kernel_rfl) (by kernel_rfl) (by kernel_rfl) ?hQa19 (by assumption) ?_
                  case hia19 => simp only [List.getElem?_toArray, List.getElem?_cons_zero, List.getElem?_cons_succ]; rfl
                  case hda19 => rfl
                  case hwa19 => rfl
                  case hya19 => (intro w hSw; (try dsimp only at hSw); go_simp)
                  case hQa19 => exact fun _ _ _ h => h
                  simp only [Act.put, List.setIfInBounds_toArray, List.set_cons_zero, List.set_cons_succ]
                  refine takeH (oi := ?oia20) 3 35 (.bool false) ?hia20 ?hda20 ?hwa20 ?hya20 (by kernel_rfl) (by kernel_rfl) (by kernel_rfl) ?hQa20 (by assumption) ?_
                  case hia20 => simp only [List.getElem?_toArray, List.getElem?_cons_zero, List.getElem?_cons_succ]; rfl
                  case hda20 => rfl
                  case hwa20 => rfl
                  case hya20 => (intro w hSw; (try dsimp only at hSw); go_simp)
                  case hQa20 => exact fun _ _ _ h => h
                  simp only [Act.put, List.setIfInBounds_toArray, List.set_cons_zero, List.set_cons_succ]
                  refine takeH (oi := ?oia21) 4 36 (.pointer (some ⟨wr.heap.size, 0, none⟩)) ?hia21 ?hda21 ?hwa21 ?hya21 (by kernel_rfl) (by kernel_rfl) (by kernel_rfl) ?hQa21 (by assumption) ?_
                  case hia21 => simp only [List.getElem?_toArray, List.getElem?_cons_zero, List.getElem?_cons_succ]; rfl
                  case hda21 => rfl
                  case hwa21 => rfl
                  case hya21 => (intro w hSw; (try dsimp only at hSw); go_simp)
                  case hQa21 => exact fun _ _ _ h => h
                  simp only [Act.put, List.setIfInBounds_toArray, List.set_cons_zero, List.set_cons_succ]
                  refine takeH (oi := ?oia22) 5 37 (.int .i64 n) ?hia22 ?hda22 ?hwa22 ?hya22 (by kernel_rfl) (by kernel_rfl) (by kernel_rfl) ?hQa22 (by assumption) ?_
                  case hia22 => simp only [List.getElem?_toArray, List.getElem?_cons_zero, List.getElem?_cons_succ]; rfl
                  case hda22 => rfl
                  case hwa22 => rfl
                  case hya22 => (intro w hSw; (try dsimp only at hSw); go_simp)
                  case hQa22 => exact fun _ _ _ h => h
                  simp only [Act.put, List.setIfInBounds_toArray, List.set_cons_zero, List.set_cons_succ]
                  refine takeH (oi := ?oia23) 6 38 (.pointer (some ⟨w.heap.size, 3, none⟩)) ?hia23 ?hda23 ?hwa23 ?hya23 (by kernel_rfl) (by kernel_rfl) (by kernel_rfl) ?hQa23 (by assumption) ?_
                  case hia23 => simp only [List.getElem?_toArray, List.getElem?_cons_zero, List.getElem?_cons_succ]; rfl
                  case hda23 => rfl
                  case hwa23 => rfl
                  case hya23 => (intro w hSw; (try dsimp only at hSw); go_simp)
                  case hQa23 => exact fun _ _ _ h => h
                  simp only [Act.put, List.setIfInBounds_toArray, List.set_cons_zero, List.set_cons_succ]
                  refine takeH (oi := ?oia24) 7 39 (.int .i64 ne) ?hia24 ?hda24 ?hwa24 ?hya24 (by kernel_rfl) (by kernel_rfl) (by kernel_rfl) ?hQa24 (by assumption) ?_
                  case hia24 => simp only [List.getElem?_toArray, List.getElem?_cons_zero, List.getElem?_cons_succ]; rfl
                  case hda24 => rfl
                  case hwa24 => rfl
                  case hya24 => (intro w hSw; (try dsimp only at hSw); go_simp)
                  case hQa24 => exact fun _ _ _ h => h
                  simp only [Act.put, List.setIfInBounds_toArray, List.set_cons_zero, List.set_cons_succ]
                  refine takeH (oi := ?oia25) 8 40 (.bool false) ?hia25 ?hda25 ?hwa25 ?hya25 (by kernel_rfl) (by kernel_rfl) (by kernel_rfl) ?hQa25 (by assumption) ?_
                  case hia25 => simp only [List.getElem?_toArray, List.getElem?_cons_zero, List.getElem?_cons_succ]; rfl
                  case hda25 => rfl
                  case hwa25 => rfl
                  case hya25 => (intro w hSw; (try dsimp only at hSw); go_simp)
                  case hQa25 => exact fun _ _ _ h => h
                  simp only [Act.put, List.setIfInBounds_toArray, List.set_cons_zero, List.set_cons_succ]
                  refine takeH (oi := ?oia26) 9 41 (.bool false) ?hia26 ?hda26 ?hwa26 ?hya26 (by kernel_rfl) (by kernel_rfl) (by kernel_rfl) ?hQa26 (by assumption) ?_
                  case hia26 => simp only [List.getElem?_toArray, List.getElem?_cons_zero, List.getElem?_cons_succ]; rfl
                  case hda26 => rfl
                  case hwa26 => rfl
                  case hya26 => (intro w hSw; (try dsimp only at hSw); go_simp)
                  case hQa26 => exact fun _ _ _ h => h
                  simp only [Act.put, List.setIfInBounds_toArray, List.set_cons_zero, List.set_cons_succ]
                  refine takeH (oi := ?oia27) 10 42 (.bool false) ?hia27 ?hda27 ?hwa27 ?hya27 (by kernel_rfl) (by kernel_rfl) (by kernel_rfl) ?hQa27 (by assumption) ?_
                  case hia27 => simp only [List.getElem?_toArray, List.getElem?_cons_zero, List.getElem?_cons_succ]; rfl
                  case hda27 => rfl
                  case hwa27 => rfl
                  case hya27 => (intro w hSw; (try dsimp only at hSw); go_simp)
                  case hQa27 => exact fun _ _ _ h => h
                  simp only [Act.put, List.setIfInBounds_toArray, List.set_cons_zero, List.set_cons_succ]
                  refine takeH (oi := ?oia28) 11 43 (.int .i64 (j : Int)) ?hia28 ?hda28 ?hwa28 ?hya28 (by kernel_rfl) (by kernel_rfl) (by kernel_rfl) ?hQa28 (by assumption) ?_
                  case hia28 => simp only [List.getElem?_toArray, List.getElem?_cons_zero, List.getElem?_cons_succ]; rfl
                  case hda28 => rfl
                  case hwa28 => rfl
                  case hya28 => (intro w hSw; (try dsimp only at hSw); go_simp)
                  case hQa28 => exact fun _ _ _ h => h
                  simp only [Act.put, List.setIfInBounds_toArray, List.set_cons_zero, List.set_cons_succ]
                  refine takeH (oi := ?oia29) 12 44 (.bool false) ?hia29 ?hda29 ?hwa29 ?hya29 (by kernel_rfl) (by kernel_rfl) (by kernel_rfl) ?hQa29 (by assumption) ?_
                  case hia29 => simp only [List.getElem?_toArray, List.getElem?_cons_zero, List.getElem?_cons_succ]; rfl
                  case hda29 => rfl
                  case hwa29 => rfl
                  case hya29 => (intro w hSw; (try dsimp only at hSw); go_simp)
                  case hQa29 => exact fun _ _ _ h => h
                  simp only [Act.put, List.setIfInBounds_toArray, List.set_cons_zero, List.set_cons_succ]
                  refine takeH (oi := ?oia30) 13 45 (.bool false) ?hia30 ?hda30 ?hwa30 ?hya30 (by kernel_rfl) (by kernel_rfl) (by kernel_rfl) ?hQa30 (by assumption) ?_
                  case hia30 => simp only [List.getElem?_toArray, List.getElem?_cons_zero, List.getElem?_cons_succ]; rfl
                  case hda30 => rfl
                  case hwa30 => rfl
                  case hya30 => (intro w hSw; (try dsimp only at hSw); go_simp)
                  case hQa30 => exact fun _ _ _ h => h
                  simp only [Act.put, List.setIfInBounds_toArray, List.set_cons_zero, List.set_cons_succ]
                  refine skipH 14 46 ⟨_, rfl, rfl, by rfl⟩ (by kernel_rfl) (by kernel_rfl) (by kernel_rfl) (fun _ _ _ h => h) (by assumption) ?_
                  simp only [Act.put, List.setIfInBounds_toArray, List.set_cons_zero, List.set_cons_succ]
                  refine skipH 15 47 ⟨_, rfl, rfl, by rfl⟩ (by kernel_rfl) (by kernel_rfl) (by kernel_rfl) (fun _ _ _ h => h) (by assumption) ?_
                  simp only [Act.put, List.setIfInBounds_toArray, List.set_cons_zero, List.set_cons_succ]
                  refine skipH 16 48 ⟨_, rfl, rfl, by rfl⟩ (by kernel_rfl) (by kernel_rfl) (by kernel_rfl) (fun _ _ _ h => h) (by assumption) ?_
                  simp only [Act.put, List.setIfInBounds_toArray, List.set_cons_zero, List.set_cons_succ]
                  refine skipH 17 49 ⟨_, rfl, rfl, by rfl⟩ (by kernel_rfl) (by kernel_rfl) (by kernel_rfl) (fun _ _ _ h => h) (by assumption) ?_
                  simp only [Act.put, List.setIfInBounds_toArray, List.set_cons_zero, List.set_cons_succ]
                  refine skipH 18 50 ⟨_, rfl, rfl, by rfl⟩ (by kernel_rfl) (by kernel_rfl) (by kernel_rfl) (fun _ _ _ h => h) (by assumption) ?_
                  simp only [Act.put, List.setIfInBounds_toArray, List.set_cons_zero, List.set_cons_succ]
                  refine skipH 19 51 ⟨_, rfl, rfl, by rfl⟩ (by kernel_rfl) (by kernel_rfl) (by kernel_rfl) (fun _ _ _ h => h) (by assumption) ?_
                  simp only [Act.put, List.setIfInBounds_toArray, List.set_cons_zero, List.set_cons_succ]
                  refine skipH 20 52 ⟨_, rfl, rfl, by rfl⟩ (by kernel_rfl) (by kernel_rfl) (by kernel_rfl) (fun _ _ _ h => h) (by assumption) ?_
                  simp only [Act.put, List.setIfInBounds_toArray, List.set_cons_zero, List.set_cons_succ]
                  refine skipH 21 53 ⟨_, rfl, rfl, by rfl⟩ (by kernel_rfl) (by kernel_rfl) (by kernel_rfl) (fun _ _ _ h => h) (by assumption) ?_
                  simp only [Act.put, List.setIfInBounds_toArray, List.set_cons_zero, List.set_cons_succ]
                  refine skipH 22 54 ⟨_, rfl, rfl, by rfl⟩ (by kernel_rfl) (by kernel_rfl) (by kernel_rfl) (fun _ _ _ h => h) (by assumption) ?_
                  simp only [Act.put, List.setIfInBounds_toArray, List.set_cons_zero, List.set_cons_succ]
                  refine takeH (oi := ?oia31) 23 55 (.bool false) ?hia31 ?hda31 ?hwa31 ?hya31 (by kernel_rfl) (by kernel_rfl) (by kernel_rfl) ?hQa31 (by assumption) ?_
                  case hia31 => simp only [List.getElem?_toArray, List.getElem?_cons_zero, List.getElem?_cons_succ]; rfl
                  case hda31 => rfl
                  case hwa31 => rfl
                  case hya31 => (intro w hSw; (try dsimp only at hSw); go_simp)
                  case hQa31 => exact fun _ _ _ h => h
                  simp only [Act.put, List.setIfInBounds_toArray, List.set_cons_zero, List.set_cons_succ]
                  refine takeH (oi := ?oia32) 24 56 (.bool false) ?hia32 ?hda32 ?hwa32 ?hya32 (by kernel_rfl) (by kernel_rfl) (by kernel_rfl) ?hQa32 (by assumption) ?_
                  case hia32 => simp only [List.getElem?_toArray, List.getElem?_cons_zero, List.getElem?_cons_succ]; rfl
                  case hda32 => rfl
                  case hwa32 => rfl
                  case hya32 => (intro w hSw; (try dsimp only at hSw); go_simp)
                  case hQa32 => exact fun _ _ _ h => h
                  simp only [Act.put, List.setIfInBounds_toArray, List.set_cons_zero, List.set_cons_succ]
                  refine wpAnyH_done (by kernel_rfl) ?_ _
                  go_wp2_with (fail)
                  go_meet
                  case rel => rw [HG.out]; exact ⟨rfl, D3⟩
                case neg =>
                  obtain ⟨k, hk⟩ : ∃ k, k + 1 = j := ⟨j - 1, by omega⟩
                  have CY := CP.out k hk
                  have HP : prevOk l j ⟨n, v, c, f, la⟩ = Mf.follow (l[k]?.getD ⟨0, 0, 0, [], []⟩) ⟨n, v, c, f, la⟩ := by rw [← hk]; show (match l[k]? with | none => true | some a => Mf.follow a _) = _; rw [(CY wr HD.out.bel).2]; rfl
                  rw [HP] at GP
                  generalize l[k]?.getD ⟨0, 0, 0, [], []⟩ = y at CY GP HP
                  obtain ⟨yn, yv, yc, yf, yl⟩ := y
                  have FX : Hid (∀ wx, Calls Tryz.prog 93 #[.agg #[.int .i64 yn, .int .i64 yv, .int .i64 yc, str yf, str yl], .agg #[.int .i64 n, .int .i64 v, .int .i64 c, str f, str la]] wx fun e w' => e = .returned (.bool (Mf.follow ⟨yn, yv, yc, yf, yl⟩ ⟨n, v, c, f, la⟩)) ∧ Below wx.heap.size wx w') := fun wx => FW.out wx _ _
                  have KS : Hid (∀ wx, Below (wr.alloc (mO ⟨n, v, c, f, la⟩)).heap.size (wr.alloc (mO ⟨n, v, c, f, la⟩)) wx → (fun wx => ((wx.cell? ⟨wr.heap.size, 0, none⟩ = some (.int .i64 n) ∧ wx.cell? ⟨wr.heap.size, 1, none⟩ = some (.int .i64 v) ∧ wx.cell? ⟨wr.heap.size, 2, none⟩ = some (.int .i64 c) ∧ wx.cell? ⟨wr.heap.size, 3, none⟩ = some (str f) ∧ wx.cell? ⟨wr.heap.size, 4, none⟩ = some (str la)) ∧ (wx.cell? ⟨w.heap.size, 0, none⟩ = some (.slice (some ⟨B, off, none⟩) L cap) ∧ wx.cell? ⟨w.heap.size, 3, none⟩ = some (.int .i64 ne))) ∧ (wx.cell? ⟨B, off + k * 5, none⟩ = some (.int .i64 yn) ∧ wx.cell? ⟨B, off + k * 5 + 1, none⟩ = some (.int .i64 yv) ∧ wx.cell? ⟨B, off + k * 5 + 2, none⟩ = some (.int .i64 yc) ∧ wx.cell? ⟨B, off + k * 5 + 3, none⟩ = some (str yf) ∧ wx.cell? ⟨B, off + k * 5 + 4, none⟩ = some (str yl)) ∧ Hid (Below (wr.alloc (mO ⟨n, v, c, f, la⟩)).heap.size (wr.alloc (mO ⟨n, v, c, f, la⟩)) wx)) wx) := fun wx hx => ⟨KX.out wx hx, (CY wx (B1.out.trans (hx.mono B1.out.size))).1, hx⟩
                  have P0 := KS.out _ (Below.refl _ (wr.alloc (mO ⟨n, v, c, f, la⟩))).drew
                  have HG : Hid (Mf.goodAt l ne j = Mf.follow ⟨yn, yv, yc, yf, yl⟩ ⟨n, v, c, f, la⟩) := GP.out
                  have j9 : (j : Int) > 0 := by omega
                  have j8 : (0 : Int) < (j : Int) := j9
                  have j6 : 0 < j := by omega
                  have j7 : IntKind.i64.wrap ((j : Int) - 1) = (k : Int) := by rw [IntKind.wrap_i64]; omega
                  have k1 : (0 : Int) ≤ (k : Int) := by omega
                  have k2 : (k : Int) < (L : Int) := by omega
                  generalize Mf.follow ⟨yn, yv, yc, yf, yl⟩ ⟨n, v, c, f, la⟩ = fb at FX HG
                  clear GP HP CP CX CY HB0 NT FW hk j0
                  refine wp_region_held_drew (S := (fun wx => ((wx.cell? ⟨wr.heap.size, 0, none⟩ = some (.int .i64 n) ∧ wx.cell? ⟨wr.heap.size, 1, none⟩ = some (.int .i64 v) ∧ wx.cell? ⟨wr.heap.size, 2, none⟩ = some (.int .i64 c) ∧ wx.cell? ⟨wr.heap.size, 3, none⟩ = some (str f) ∧ wx.cell? ⟨wr.heap.size, 4, none⟩ = some (str la)) ∧ (wx.cell? ⟨w.heap.size, 0, none⟩ = some (.slice (some ⟨B, off, none⟩) L cap) ∧ wx.cell? ⟨w.heap.size, 3, none⟩ = some (.int .i64 ne))) ∧ (wx.cell? ⟨B, off + k * 5, none⟩ = some (.int .i64 yn) ∧ wx.cell? ⟨B, off + k * 5 + 1, none⟩ = some (.int .i64 yv) ∧ wx.cell? ⟨B, off + k * 5 + 2, none⟩ = some (.int .i64 yc) ∧ wx.cell? ⟨B, off + k * 5 + 3, none⟩ = some (str yf) ∧ wx.cell? ⟨B, off + k * 5 + 4, none⟩ = some (str yl)) ∧ Hid (Below (wr.alloc (mO ⟨n, v, c, f, la⟩)).heap.size (wr.alloc (mO ⟨n, v, c, f, la⟩)) wx))) (by kernel_rfl) P0 (fun hHeld => ?_)
                  refine takeH (oi := ?oia33) 0 32 (.agg #[.int .i64 n, .int .i64 v, .int .i64 c, str f, str la]) ?hia33 ?hda33 ?hwa33 ?hya33 (by kernel_rfl) (by kernel_rfl) (by kernel_rfl) ?hQa33 (by assumption) ?_
                  case hia33 => simp only [List.getElem?_toArray, List.getElem?_cons_zero]; rfl
                  case hda33 => rfl
                  case hwa33 => rfl
                  case hya33 => (intro w hSw; (try dsimp only at hSw); go_simp)
                  case hQa33 => exact fun _ _ _ h => h
                  simp only [Act.put, List.setIfInBounds_toArray, List.set_cons_zero, List.set_cons_succ]
                  refine wpAnyH_ready (rs := [1]) (by kernel_rfl) (by simp) ?_
                  refine AllReadyH.cons rfl (fun KK hK => ?_) AllReadyH.nil
                  go_simp
                  refine (WX.out _).mono ?_
                  rintro e w3 ⟨rfl, b3⟩
                  have D3 : Below (wr.alloc (mO ⟨n, v, c, f, la⟩)).heap.size (wr.alloc (mO ⟨n, v, c, f, la⟩)) w3 := (Below.refl _ _).drew.trans b3
                  go_wp2_with (fail)
                  refine hK.out _ _ (KS.out _ D3) (fun hHeld => ?_)
                  clear hK KK
                  refine takeH (oi := ?oia34) 2 34 (.bool false) ?hia34 ?hda34 ?hwa34 ?hya34 (by kernel_rfl) (by kernel_rfl) (by kernel_rfl) ?hQa34 (by assumption) ?_
                  case hia34 => simp only [List.getElem?_toArray, List.getElem?_cons_zero, List.getElem?_cons_succ]; rfl
                  case hda34 => rfl
                  case hwa34 => rfl
                  case hya34 => (intro w hSw; (try dsimp only at hSw); go_simp)
                  case hQa34 => exact fun _ _ _ h => h
                  simp only [Act.put, List.setIfInBounds_toArray, List.set_cons_zero, List.set_cons_succ]
                  refine takeH (oi := ?oia35) 3 35 (.bool false) ?hia35 ?hda35 ?hwa35 ?hya35 (by kernel_rfl) (by kernel_rfl) (by kernel_rfl) ?hQa35 (by assumption) ?_
                  case hia35 => simp only [List.getElem?_toArray, List.getElem?_cons_zero, List.getElem?_cons_succ]; rfl
                  case hda35 => rfl
                  case hwa35 => rfl
                  case hya35 => (intro w hSw; (try dsimp only at hSw); go_simp)
                  case hQa35 => exact fun _ _ _ h => h
                  simp only [Act.put, List.setIfInBounds_toArray, List.set_cons_zero, List.set_cons_succ]
                  refine takeH (oi := ?oia36) 4 36 (.pointer (some ⟨wr.heap.size, 0, none⟩)) ?hia36 ?hda36 ?hwa36 ?hya36 (by kernel_rfl) (by kernel_rfl) (by kernel_rfl) ?hQa36 (by assumption) ?_
                  case hia36 => simp only [List.getElem?_toArray, List.getElem?_cons_zero, List.getElem?_cons_succ]; rfl
                  case hda36 => rfl
                  case hwa36 => rfl
                  case hya36 => (intro w hSw; (try dsimp only at hSw); go_simp)
                  case hQa36 => exact fun _ _ _ h => h
                  simp only [Act.put, List.setIfInBounds_toArray, List.set_cons_zero, List.set_cons_succ]
                  refine takeH (oi := ?oia37) 5 37 (.int .i64 n) ?hia37 ?hda37 ?hwa37 ?hya37 (by kernel_rfl) (by kernel_rfl) (by kernel_rfl) ?hQa37 (by assumption) ?_
                  case hia37 => simp only [List.getElem?_toArray, List.getElem?_cons_zero, List.getElem?_cons_succ]; rfl
                  case hda37 => rfl
                  case hwa37 => rfl
                  case hya37 => (intro w hSw; (try dsimp only at hSw); go_simp)
                  case hQa37 => exact fun _ _ _ h => h
                  simp only [Act.put, List.setIfInBounds_toArray, List.set_cons_zero, List.set_cons_succ]
                  refine takeH (oi := ?oia38) 6 38 (.pointer (some ⟨w.heap.size, 3, none⟩)) ?hia38 ?hda38 ?hwa38 ?hya38 (by kernel_rfl) (by kernel_rfl) (by kernel_rfl) ?hQa38 (by assumption) ?_
                  case hia38 => simp only [List.getElem?_toArray, List.getElem?_cons_zero, List.getElem?_cons_succ]; rfl
                  case hda38 => rfl
                  case hwa38 => rfl
                  case hya38 => (intro w hSw; (try dsimp only at hSw); go_simp)
                  case hQa38 => exact fun _ _ _ h => h
                  simp only [Act.put, List.setIfInBounds_toArray, List.set_cons_zero, List.set_cons_succ]
                  refine takeH (oi := ?oia39) 7 39 (.int .i64 ne) ?hia39 ?hda39 ?hwa39 ?hya39 (by kernel_rfl) (by kernel_rfl) (by kernel_rfl) ?hQa39 (by assumption) ?_
                  case hia39 => simp only [List.getElem?_toArray, List.getElem?_cons_zero, List.getElem?_cons_succ]; rfl
                  case hda39 => rfl
                  case hwa39 => rfl
                  case hya39 => (intro w hSw; (try dsimp only at hSw); go_simp)
                  case hQa39 => exact fun _ _ _ h => h
                  simp only [Act.put, List.setIfInBounds_toArray, List.set_cons_zero, List.set_cons_succ]
                  refine takeH (oi := ?oia40) 8 40 (.bool false) ?hia40 ?hda40 ?hwa40 ?hya40 (by kernel_rfl) (by kernel_rfl) (by kernel_rfl) ?hQa40 (by assumption) ?_
                  case hia40 => simp only [List.getElem?_toArray, List.getElem?_cons_zero, List.getElem?_cons_succ]; rfl
                  case hda40 => rfl
                  case hwa40 => rfl
                  case hya40 => (intro w hSw; (try dsimp only at hSw); go_simp)
                  case hQa40 => exact fun _ _ _ h => h
                  simp only [Act.put, List.setIfInBounds_toArray, List.set_cons_zero, List.set_cons_succ]
                  refine takeH (oi := ?oia41) 9 41 (.bool false) ?hia41 ?hda41 ?hwa41 ?hya41 (by kernel_rfl) (by kernel_rfl) (by kernel_rfl) ?hQa41 (by assumption) ?_
                  case hia41 => simp only [List.getElem?_toArray, List.getElem?_cons_zero, List.getElem?_cons_succ]; rfl
                  case hda41 => rfl
                  case hwa41 => rfl
                  case hya41 => (intro w hSw; (try dsimp only at hSw); go_simp)
                  case hQa41 => exact fun _ _ _ h => h
                  simp only [Act.put, List.setIfInBounds_toArray, List.set_cons_zero, List.set_cons_succ]
                  refine takeH (oi := ?oia42) 10 42 (.bool false) ?hia42 ?hda42 ?hwa42 ?hya42 (by kernel_rfl) (by kernel_rfl) (by kernel_rfl) ?hQa42 (by assumption) ?_
                  case hia42 => simp only [List.getElem?_toArray, List.getElem?_cons_zero, List.getElem?_cons_succ]; rfl
                  case hda42 => rfl
                  case hwa42 => rfl
                  case hya42 => (intro w hSw; (try dsimp only at hSw); go_simp)
                  case hQa42 => exact fun _ _ _ h => h
                  simp only [Act.put, List.setIfInBounds_toArray, List.set_cons_zero, List.set_cons_succ]
                  refine takeH (oi := ?oia43) 11 43 (.int .i64 (j : Int)) ?hia43 ?hda43 ?hwa43 ?hya43 (by kernel_rfl) (by kernel_rfl) (by kernel_rfl) ?hQa43 (by assumption) ?_
                  case hia43 => simp only [List.getElem?_toArray, List.getElem?_cons_zero, List.getElem?_cons_succ]; rfl
                  case hda43 => rfl
                  case hwa43 => rfl
                  case hya43 => (intro w hSw; (try dsimp only at hSw); go_simp)
                  case hQa43 => exact fun _ _ _ h => h
                  simp only [Act.put, List.setIfInBounds_toArray, List.set_cons_zero, List.set_cons_succ]
                  refine takeH (oi := ?oia44) 12 44 (.bool true) ?hia44 ?hda44 ?hwa44 ?hya44 (by kernel_rfl) (by kernel_rfl) (by kernel_rfl) ?hQa44 (by assumption) ?_
                  case hia44 => simp only [List.getElem?_toArray, List.getElem?_cons_zero, List.getElem?_cons_succ]; rfl
                  case hda44 => rfl
                  case hwa44 => rfl
                  case hya44 => (intro w hSw; (try dsimp only at hSw); go_simp)
                  case hQa44 => exact fun _ _ _ h => h
                  simp only [Act.put, List.setIfInBounds_toArray, List.set_cons_zero, List.set_cons_succ]
                  refine takeH (oi := ?oia45) 13 45 (.bool true) ?hia45 ?hda45 ?hwa45 ?hya45 (by kernel_rfl) (by kernel_rfl) (by kernel_rfl) ?hQa45 (by assumption) ?_
                  case hia45 => simp only [List.getElem?_toArray, List.getElem?_cons_zero, List.getElem?_cons_succ]; rfl
                  case hda45 => rfl
                  case hwa45 => rfl
                  case hya45 => (intro w hSw; (try dsimp only at hSw); go_simp)
                  case hQa45 => exact fun _ _ _ h => h
                  simp only [Act.put, List.setIfInBounds_toArray, List.set_cons_zero, List.set_cons_succ]
                  refine takeH (oi := ?oia46) 14 46 (.pointer (some ⟨w.heap.size, 0, none⟩)) ?hia46 ?hda46 ?hwa46 ?hya46 (by kernel_rfl) (by kernel_rfl) (by kernel_rfl) ?hQa46 (by assumption) ?_
                  case hia46 => simp only [List.getElem?_toArray, List.getElem?_cons_zero, List.getElem?_cons_succ]; rfl
                  case hda46 => rfl
                  case hwa46 => rfl
                  case hya46 => (intro w hSw; (try dsimp only at hSw); go_simp)
                  case hQa46 => exact fun _ _ _ h => h
                  simp only [Act.put, List.setIfInBounds_toArray, List.set_cons_zero, List.set_cons_succ]
                  refine takeH (oi := ?oia47) 15 47 (.slice (some ⟨B, off, none⟩) L cap) ?hia47 ?hda47 ?hwa47 ?hya47 (by kernel_rfl) (by kernel_rfl) (by kernel_rfl) ?hQa47 (by assumption) ?_
                  case hia47 => simp only [List.getElem?_toArray, List.getElem?_cons_zero, List.getElem?_cons_succ]; rfl
                  case hda47 => rfl
                  case hwa47 => rfl
                  case hya47 => (intro w hSw; (try dsimp only at hSw); go_simp)
                  case hQa47 => exact fun _ _ _ h => h
                  simp only [Act.put, List.setIfInBounds_toArray, List.set_cons_zero, List.set_cons_succ]
                  refine takeH (oi := ?oia48) 16 48 (.int .i64 (j : Int)) ?hia48 ?hda48 ?hwa48 ?hya48 (by kernel_rfl) (by kernel_rfl) (by kernel_rfl) ?hQa48 (by assumption) ?_
                  case hia48 => simp only [List.getElem?_toArray, List.getElem?_cons_zero, List.getElem?_cons_succ]; rfl
                  case hda48 => rfl
                  case hwa48 => rfl
                  case hya48 => (intro w hSw; (try dsimp only at hSw); go_simp)
                  case hQa48 => exact fun _ _ _ h => h
                  simp only [Act.put, List.setIfInBounds_toArray, List.set_cons_zero, List.set_cons_succ]
                  refine takeH (oi := ?oia49) 17 49 (.int .i64 (k : Int)) ?hia49 ?hda49 ?hwa49 ?hya49 (by kernel_rfl) (by kernel_rfl) (by kernel_rfl) ?hQa49 (by assumption) ?_
                  case hia49 => simp only [List.getElem?_toArray, List.getElem?_cons_zero, List.getElem?_cons_succ]; rfl
                  case hda49 => rfl
                  case hwa49 => rfl
                  case hya49 => (intro w hSw; (try dsimp only at hSw); go_simp)
                  case hQa49 => exact fun _ _ _ h => h
                  simp only [Act.put, List.setIfInBounds_toArray, List.set_cons_zero, List.set_cons_succ]
                  refine takeH (oi := ?oia50) 18 50 (.pointer (some ⟨B, off + k * 5, none⟩)) ?hia50 ?hda50 ?hwa50 ?hya50 (by kernel_rfl) (by kernel_rfl) (by kernel_rfl) ?hQa50 (by assumption) ?_
                  case hia50 => simp only [List.getElem?_toArray, List.getElem?_cons_zero, List.getElem?_cons_succ]; rfl
                  case hda50 => rfl
                  case hwa50 => rfl
                  case hya50 => (intro w hSw; (try dsimp only at hSw); go_simp)
                  case hQa50 => exact fun _ _ _ h => h
                  simp only [Act.put, List.setIfInBounds_toArray, List.set_cons_zero, List.set_cons_succ]
                  refine takeH (oi := ?oia51) 19 51 (.agg #[.int .i64 yn, .int .i64 yv, .int .i64 yc, str yf, str yl]) ?hia51 ?hda51 ?hwa51 ?hya51 (by kernel_rfl) (by kernel_rfl) (by kernel_rfl) ?hQa51 (by assumption) ?_
                  case hia51 => simp only [List.getElem?_toArray, List.getElem?_cons_zero, List.getElem?_cons_succ]; rfl
                  case hda51 => rfl
                  case hwa51 => rfl
                  case hya51 => (intro w hSw; (try dsimp only at hSw); go_simp)
                  case hQa51 => exact fun _ _ _ h => h
                  simp only [Act.put, List.setIfInBounds_toArray, List.set_cons_zero, List.set_cons_succ]
                  refine takeH (oi := ?oia52) 20 52 (.agg #[.int .i64 n, .int .i64 v, .int .i64 c, str f, str la]) ?hia52 ?hda52 ?hwa52 ?hya52 (by kernel_rfl) (by kernel_rfl) (by kernel_rfl) ?hQa52 (by assumption) ?_
                  case hia52 => simp only [List.getElem?_toArray, List.getElem?_cons_zero, List.getElem?_cons_succ]; rfl
                  case hda52 => rfl
                  case hwa52 => rfl
                  case hya52 => (intro w hSw; (try dsimp only at hSw); go_simp)
                  case hQa52 => exact fun _ _ _ h => h
                  simp only [Act.put, List.setIfInBounds_toArray, List.set_cons_zero, List.set_cons_succ]
                  refine wpAnyH_ready (rs := [21]) (by kernel_rfl) (by simp) ?_
                  refine AllReadyH.cons rfl (fun KK hK => ?_) AllReadyH.nil
                  go_simp
                  refine (FX.out _).mono ?_
                  rintro e w4 ⟨rfl, b4⟩
                  have D4 : Below (wr.alloc (mO ⟨n, v, c, f, la⟩)).heap.size (wr.alloc (mO ⟨n, v, c, f, la⟩)) w4 := D3.trans (b4.mono D3.size)
                  go_wp2_with (fail)
                  refine hK.out _ _ (KS.out _ D4) (fun hHeld => ?_)
                  clear hK KK
                  refine takeH (oi := ?oia53) 22 54 (.bool (!fb)) ?hia53 ?hda53 ?hwa53 ?hya53 (by kernel_rfl) (by kernel_rfl) (by kernel_rfl) ?hQa53 (by assumption) ?_
                  case hia53 => simp only [List.getElem?_toArray, List.getElem?_cons_zero, List.getElem?_cons_succ]; rfl
                  case hda53 => rfl
                  case hwa53 => rfl
                  case hya53 => (intro w hSw; (try dsimp only at hSw); go_simp)
                  case hQa53 => exact fun _ _ _ h => h
                  simp only [Act.put, List.setIfInBounds_toArray, List.set_cons_zero, List.set_cons_succ]
                  refine takeH (oi := ?oia54) 23 55 (.bool (!fb)) ?hia54 ?hda54 ?hwa54 ?hya54 (by kernel_rfl) (by kernel_rfl) (by kernel_rfl) ?hQa54 (by assumption) ?_
                  case hia54 => simp only [List.getElem?_toArray, List.getElem?_cons_zero, List.getElem?_cons_succ]; rfl
                  case hda54 => rfl
                  case hwa54 => rfl
                  case hya54 => (intro w hSw; (try dsimp only at hSw); go_simp)
                  case hQa54 => exact fun _ _ _ h => h
                  simp only [Act.put, List.setIfInBounds_toArray, List.set_cons_zero, List.set_cons_succ]
                  refine takeH (oi := ?oia55) 24 56 (.bool (!fb)) ?hia55 ?hda55 ?hwa55 ?hya55 (by kernel_rfl) (by kernel_rfl) (by kernel_rfl) ?hQa55 (by assumption) ?_
                  case hia55 => simp only [List.getElem?_toArray, List.getElem?_cons_zero, List.getElem?_cons_succ]; rfl
                  case hda55 => rfl
                  case hwa55 => rfl
                  case hya55 => (intro w hSw; (try dsimp only at hSw); go_simp)
                  case hQa55 => exact fun _ _ _ h => h
                  simp only [Act.put, List.setIfInBounds_toArray, List.set_cons_zero, List.set_cons_succ]
                  refine wpAnyH_done (by kernel_rfl) ?_ _
                  go_wp2_with (fail)
                  go_meet
                  case rel => rw [HG.out]; exact ⟨rfl, D4⟩
          case rest =>
            obtain ⟨rfl, b5⟩ := hcut
            obtain ⟨w5, hw5⟩ : ∃ w5, w5 = wc := ⟨_, rfl⟩
            rw [← hw5] at b5 ⊢
            obtain ⟨⟨x0, x1, x2, x3, x4⟩, v0, v3⟩ := KX.out _ b5
            have B5 := B1.out.trans (b5.mono B1.out.size)
            have S5 : Hid (SetAt w5 (w.heap.size + 1) (Mf.numsOf (l.take j)).reverse) := (HD.out.set.later ((Below.refl wr.heap.size wr).alloc (Nat.le_refl _) (mO ⟨n, v, c, f, la⟩))).later b5
            have V5 : Hid (w5.heap[w.heap.size]? = some (vO (.slice (some ⟨B, off, none⟩) L cap) lo se ne)) := (b5.block _ (by simp; omega)).trans ((Below.heap_alloc wr (mO ⟨n, v, c, f, la⟩) _ vlt).trans HV.out)
            have GD := HD.out.good
            have HGD : Hid (∀ k, k < j → Mf.goodAt l ne k = true) := GD
            clear hw5 b5 KX HD B1 HV WX FW CP CX HB0 vlt GD
            cases hg : Mf.goodAt l ne j with
            | false =>
              have HRF : Hid (R = false) := HR.out.trans (mayT_bad jl hg)
              clear hg GP NT S5 V5 HGD HS HR
              go_wp2_with (fail)
              go_ret
              exact ⟨by rw [HRF.out]; rfl, B5⟩
            | true =>
              have hwd : 1 ≤ n ∧ n ≤ 999999 := by
                rw [hg] at GP
                have h1 := GP.out
                simp only [eq_comm (a := true), Bool.and_eq_true, Mf.words, Mf.inB, decide_eq_true_eq] at h1
                exact h1.1.1.1.1.1.1.1
              have HN : Hid (i64r n) := ⟨by omega, by omega⟩
              have HQ : Hid ((Mf.numsOf (l.take j)).reverse.length ≤ 1000000000000) := by
                show _ ≤ _
                rw [List.length_reverse]
                unfold Mf.numsOf
                rw [List.length_map, List.length_take]
                omega
              have HGX : Hid (∀ k, k < j + 1 → Mf.goodAt l ne k = true) := fun k hk => by
                by_cases e : k = j
                · rw [e]; exact hg
                · exact HGD.out k (by omega)
              clear hg GP HS HR HGD hwd
              go_wp2_with (at_mapUpdate; refine wpList_set_put _ rfl _ _ _ rfl _ _ n rfl rfl rfl S5.out HN.out HQ.out ?_; intro w6 s6 g6 z6; have Z6 := hide z6; clear z6)
              refine ⟨⟨j + 1, by omega, by go_num, ⟨HGX.out, ?_, ?_, ?_⟩⟩, by simp [intOf]; omega⟩
              · rw [NT.out]; exact s6
              · exact (g6.block _ (Array.getElem?_eq_some_iff.1 V5.out).1 (by simp)).trans V5.out
              · exact B5.grown g6 B5.size (fun k hk => by cases hk; omega)
        · have e : j = L := by omega
          subst e
          have i3 : ¬ (j : Int) < (j : Int) := by omega
          have HG : Hid (R = decide (((Mf.once (Mf.numsOf l).reverse).length : Int) = (j : Int))) := by
            show _ = _
            rw [HR.out, mayT_all (fun k hk => D.good k (by have := HL.out; omega)), HL.out]
          have st := D.set
          rw [List.take_of_length_le (by have := HL.out; omega)] at st
          obtain ⟨s0, s1, s2, s3⟩ : wr.cell? ⟨w.heap.size, 0, none⟩ = some (.slice a j cap) ∧ True ∧ True ∧ True := ⟨Joins.cell_of_block D.ver 0, trivial, trivial, trivial⟩
          have BL := D.bel
          clear D HR HW HS
          have q1 := fun ty => st.len ty
          go_wp2_with (fail)
          go_ret
          exact ⟨by rw [HG.out, ← beq_dec]; rfl, BL⟩
end Go.Proofs.YtlhnjloimhcpfabGreatDoor
