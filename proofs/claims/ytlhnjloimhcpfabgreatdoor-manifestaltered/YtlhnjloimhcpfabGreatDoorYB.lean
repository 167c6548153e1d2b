/-
  A set of numbers (a map whose elements are empty structs), as the walks meet it. .. and what follows from it.
-/
import Derived.Test.YtlhnjloimhcpfabGreatDoorVA
import Derived.Test.YtlhnjloimhcpfabGreatDoorYP
import Derived.Test.YtlhnjloimhcpfabGreatDoorYA
namespace Go.Proofs.YtlhnjloimhcpfabGreatDoor
open Go.RowKit Go.Maps Go.MapKept Go.ChangeMaps

/-- A number of 64 bits. -/
def i64r (n : Int) : Prop := -9223372036854775808 ≤ n ∧ n ≤ 9223372036854775807
theorem keyZ (n : Int) (h : i64r n) : keyOf Tryz.prog 3 (.int .i64 n) = some (.int .i64 n) := keyOf_int_mk Tryz.underlying3 (WalkArith.wf_i64 ⟨h.1, h.2⟩)
theorem zeroU (w : World) : (zeroValue 140).run Tryz.prog w = .ok (.agg #[]) w := by kernel_rfl

structure StOf (D : DataW Unit) (l : List Int) : Prop where
  hs : ∀ n : Int, Maps.has D (.int .i64 n) = decide (n ∈ l)
  size : Maps.size D = (Mf.once l).length

theorem litZ_ne {k j : Int} (h : j ≠ k) : (Lit.int .i64 j) ≠ .int .i64 k := fun e => h (by injection e)
theorem StOf.put {D : DataW Unit} {l : List Int} (h : StOf D l) (hm : IsMap D) (ht : Tidy D) (n : Int) : StOf (D.put (.int .i64 n) (.agg [])) (n :: l) := by
  refine ⟨fun j => ?_, ?_⟩
  · by_cases e : j = n
    · subst e; simp [Maps.has_put_same hm (keyLitI _)]
    · rw [Maps.has_put_other (litZ_ne e), h.hs j]
      simp [e]
  · rw [Maps.size_put ht, h.hs n, h.size, Mf.once_snoc]
    by_cases e : n ∈ l <;> simp [e]

/-- Block b is the set of these numbers. -/
def SetAt (w : World) (b : Nat) (l : List Int) : Prop := ∃ D : DataW Unit, w.ownsMap Tryz.prog 3 unitElem b (Mf.once l).length D ∧ StOf D l
theorem SetAt.lt {w : World} {b : Nat} {l : List Int} (h : SetAt w b l) : b < w.heap.size := by obtain ⟨D, h, _⟩ := h; exact h.lt
theorem SetAt.same {w w' : World} {b : Nat} {l : List Int} (h : SetAt w b l) (e : w'.heap[b]? = w.heap[b]?) : SetAt w' b l := by
  obtain ⟨D, ⟨es, clock, hb, r⟩, hn⟩ := h
  exact ⟨D, ⟨es, clock, e.trans hb, r⟩, hn⟩
theorem SetAt.later {w w' : World} {b : Nat} {l : List Int} (h : SetAt w b l) (hb : Below w.heap.size w w') : SetAt w' b l := h.same (hb.block _ h.lt)
theorem SetAt.made (w : World) : SetAt (w.alloc (.map #[] 0)) w.heap.size [] :=
  ⟨_, World.ownsMap_made w _ _ _, ⟨fun k => by simp [Maps.has], rfl⟩⟩
theorem SetAt.put {w : World} {b : Nat} {l : List Int} (h : SetAt w b l) (n : Int) (hn : i64r n) (hl : l.length ≤ 1000000000000) :
    ∃ w', (Instr.mapUpdate 139 (.map (some b)) (.int .i64 n) (.agg #[])).run Tryz.prog w = .ok () w' ∧ SetAt w' b (n :: l) ∧ w.grownBy w' (some b) ∧ w'.heap.size = w.heap.size := by
  obtain ⟨D, h, hD⟩ := h
  have hle := Mf.once_le l
  obtain ⟨w', hrun, ho, ht⟩ := h.store lawI Tryz.underlying139 (by unfold maxLen; omega) (keyZ n hn) unitElem_mk
  have hD' := hD.put h.isMap (h.tidy lawI) n
  have ho' := ownsMap_tight ho
  rw [hD'.size] at ho'
  refine ⟨w', hrun, ⟨_, ho', hD'⟩, ht.grown, ?_⟩
  obtain ⟨es, clock, es', clock', _, rfl⟩ := ht
  simp [setBlock]
theorem SetAt.look_ok {w : World} {b : Nat} {l : List Int} (h : SetAt w b l) (n : Int) (hn : i64r n) : (Instr.lookup 139 (.map (some b)) (.int .i64 n) true).run Tryz.prog w = .ok (.tuple #[.agg #[], .bool (decide (n ∈ l))]) w := by
  obtain ⟨D, h, hD⟩ := h
  obtain ⟨v, ps, hrun, hv⟩ := h.look_ok lawI Tryz.underlying139 (zeroU _) unitElem_mk (keyZ n hn)
  obtain ⟨rfl, _⟩ := unitElem_inv hv
  rw [hrun, hD.hs n]
theorem SetAt.len {w : World} {b : Nat} {l : List Int} (h : SetAt w b l) (ty : TypeId) : (Builtin.len_ #[139] ty #[.map (some b)]).run Tryz.prog w = .ok (.int .i64 ((Mf.once l).length : Int)) w := by
  obtain ⟨D, h, hD⟩ := h
  rw [h.len Tryz.underlying139 ty, hD.size]
theorem run_makeSet (w : World) (n : Nat) : (Instr.makeMap 139 (some (.int .i64 (n : Int)))).run Tryz.prog w = .ok (.map (some w.heap.size)) (w.alloc (.map #[] 0)) := by
  simp [Instr.makeMap]
  rfl

section
variable (w : World) {ops : Array Oper} {rest : List Oper} {o : Oper} {a : Act} {Q : Exit → Act → World → Prop}
theorem wpList_set_put (hg : o.guard = none) (m x v : Operand) (hop : o.op = Op.mapUpdate 139 m x v) (b : Nat) (l : List Int) (n : Int) (hm : a.eval m = .map (some b)) (hx : a.eval x = .int .i64 n) (hv : a.eval v = .agg #[]) (h : SetAt w b l) (hn : i64r n) (hl : l.length ≤ 1000000000000)
    (hK : ∀ w', SetAt w' b (n :: l) → w.grownBy w' (some b) → w'.heap.size = w.heap.size → wpList Tryz.prog ops Q rest (a.put o.dst undef) w') : wpList Tryz.prog ops Q (o :: rest) a w := by
  refine wpList_plain hg fun K' hK' => ?_
  obtain ⟨w', hrun, r1, r2, r3⟩ := h.put n hn hl
  unfold Oper.wp
  simp [execOp, hop, hm, hx, hv, hrun, Result.andThen]
  exact hK' _ _ (hK w' r1 r2 r3)
theorem wpList_set_look (hg : o.guard = none) (m x : Operand) (hop : o.op = Op.lookup 139 m x true) (b : Nat) (l : List Int) (n : Int) (hm : a.eval m = .map (some b)) (hx : a.eval x = .int .i64 n) (h : SetAt w b l) (hn : i64r n)
    (hK : wpList Tryz.prog ops Q rest (a.put o.dst (.tuple #[.agg #[], .bool (decide (n ∈ l))])) w) : wpList Tryz.prog ops Q (o :: rest) a w := by
  refine wpList_plain hg fun K' hK' => ?_
  unfold Oper.wp
  simp [execOp, hop, hm, hx, h.look_ok n hn, Result.andThen]
  exact hK' _ _ hK
theorem wpList_set_is (hg : o.guard = none) (m x : Operand) (hop : o.op = Op.lookup 139 m x true) (b : Nat) (l : List Int) (n : Int) (hm : a.eval m = .map (some b)) (hx : a.eval x = .int .i64 n) (h : SetAt w b l) (hn : i64r n) (is : Bool) (hi : decide (n ∈ l) = is)
    (hK : wpList Tryz.prog ops Q rest (a.put o.dst (.tuple #[.agg #[], .bool is])) w) : wpList Tryz.prog ops Q (o :: rest) a w := wpList_set_look w hg m x hop b l n hm hx h hn (by rw [hi]; exact hK)
theorem wpList_set_len (hg : o.guard = none) (m : Operand) (hop : o.op = Op.call { callee := Callee.builtin Builtin.len, args := #[m], argTypes := #[139] }) (b : Nat) (l : List Int) (hm : a.eval m = .map (some b)) (h : SetAt w b l)
    (hK : wpList Tryz.prog ops Q rest (a.put o.dst (.int .i64 ((Mf.once l).length : Int))) w) : wpList Tryz.prog ops Q (o :: rest) a w := by
  refine wpList_plain hg fun K' hK' => ?_
  unfold Oper.wp
  simp [execOp, hop, resolve, invoke, builtin, hm, h.len, Result.andThen]
  exact hK' _ _ hK
end
end Go.Proofs.YtlhnjloimhcpfabGreatDoor
namespace Go.Proofs.YtlhnjloimhcpfabGreatDoor
open Go.RowKit

/-- Numbers, where they can be read. -/
structure IzAt (w : World) (v : Value) (l : List Int) : Prop where
  form : ∃ a cap, v = .slice a l.length cap ∧ (l ≠ [] → ∃ b off, a = some ⟨b, off, none⟩ ∧ ∀ j (h : j < l.length), w.cell? ⟨b, off + j, none⟩ = some (.int .i64 l[j]))
theorem IzAt.later {w w' : World} {v : Value} {l : List Int} (h : IzAt w v l) (hb : Below w.heap.size w w') : IzAt w' v l := by
  obtain ⟨⟨a, cap, e, hf⟩⟩ := h
  refine ⟨⟨a, cap, e, fun h0 => ?_⟩⟩
  obtain ⟨b, off, ha, hat⟩ := hf h0
  exact ⟨b, off, ha, fun j hj => keepC hb (hat j hj)⟩
theorem IzAt.cell {w : World} {b off n cap : Nat} {l : List Int} (h : IzAt w (.slice (some ⟨b, off, none⟩) n cap) l) (j : Nat) (hj : j < l.length) : w.cell? ⟨b, off + j, none⟩ = some (.int .i64 l[j]) := by
  obtain ⟨⟨a, c, e, hf⟩⟩ := h
  obtain ⟨b', off', ha, hat⟩ := hf (fun h0 => by rw [h0] at hj; cases hj)
  cases e
  cases ha
  exact hat j hj
theorem IzAt.some {w : World} {a : Option Addr} {n cap : Nat} {l : List Int} (h : IzAt w (.slice a n cap) l) (h0 : 0 < l.length) : ∃ b off, a = some ⟨b, off, none⟩ := by
  obtain ⟨⟨a', c', e, hf⟩⟩ := h
  obtain ⟨b, off, ha, _⟩ := hf (fun h1 => by rw [h1] at h0; cases h0)
  cases e
  exact ⟨b, off, ha⟩
theorem IzAt.nil (w : World) (a : Option Addr) (c : Nat) : IzAt w (.slice a 0 c) [] := ⟨⟨a, c, rfl, fun h => absurd rfl h⟩⟩
theorem IzAt.shape {w : World} {v : Value} {l : List Int} (h : IzAt w v l) : ∃ a cap, v = .slice a l.length cap := by
  obtain ⟨⟨a, cap, e, _⟩⟩ := h
  exact ⟨a, cap, e⟩

theorem left_take {l : List Mf.Mt} {ds : List Int} {j : Nat} (h : j < l.length) : Mf.left (l.take (j + 1)) ds = Mf.left (l.take j) ds ++ (if l[j].number ∈ ds then [] else [l[j]]) := by
  unfold Mf.left
  rw [List.take_succ_eq_append_getElem h, List.filter_append]
  congr 1
  by_cases hm : l[j].number ∈ ds <;> simp [hm]
theorem left_le (l : List Mf.Mt) (ds : List Int) : (Mf.left l ds).length ≤ l.length := List.length_filter_le _ _

set_option maxRecDepth 100000 in
set_option maxHeartbeats 8000000 in
theorem without_any (w : World) (a a2 : Option Addr) (cap cap2 : Nat) (l : List Mf.Mt) (ds : List Int) (h : MtsAt w (.slice a l.length cap) l) (hd : IzAt w (.slice a2 ds.length cap2) ds) (hlen : l.length ≤ 1000000) (hdl : ds.length ≤ 1000000) (hn : ∀ x ∈ l, i64r x.number) (hr : ∀ n ∈ ds, i64r n) :
    Calls Tryz.prog 55 #[.slice a l.length cap, .slice a2 ds.length cap2] w fun e w' => ∃ v, e = .returned (.tuple #[v, .bool (Mf.allDrops l ds)]) ∧ w'.ownsRow (w.heap.size + 1) 43 5 v (Mf.left l ds).length (mcs (Mf.left l ds)) ∧ Below w.heap.size w w' := by
  obtain ⟨ie, hi, hz0, hz1, hz2⟩ := info_parts infoM
  have HA := hide h
  have HD := hide hd
  have HN : Hid (∀ x ∈ l, i64r x.number) := hn
  have HRR : Hid (∀ n ∈ ds, i64r n) := hr
  have mk := run_makeSet
  obtain ⟨L, hL⟩ : ∃ L, L = l.length := ⟨_, rfl⟩
  have HL : Hid (L = l.length) := hL
  obtain ⟨M, hM⟩ : ∃ M, M = ds.length := ⟨_, rfl⟩
  have HM : Hid (M = ds.length) := hM
  rw [← hL] at hlen ⊢
  rw [← hM] at hdl ⊢
  have W0 : Hid (SetAt (w.alloc (.map #[] 0)) w.heap.size (ds.take 0).reverse) := SetAt.made w
  have B0 : Hid (Below w.heap.size w (w.alloc (.map #[] 0))) := (Below.refl _ _).alloc (Nat.le_refl _) _
  clear h hd hn hr hL hM
  go_enter Tryz.func55, Tryz.ntmps55
  go_wp2_with (fail)
  go_loopw [19] (fun i wr => ∃ j : Nat, j ≤ M ∧ i = .int .i64 j ∧ SetAt wr w.heap.size (ds.take j).reverse ∧ Below w.heap.size w wr) (fun i _ => M - (intOf i).toNat)
  case atStart => exact ⟨0, Nat.zero_le _, rfl, W0.out, B0.out⟩
  case round =>
    obtain ⟨j, hj, rfl, ST, BL⟩ := hrel
    clear W0 B0 mk
    by_cases hlt : j < M
    · have jl : j < ds.length := by have := HM.out; omega
      have j1 : (j : Int) < (M : Int) := by omega
      have j2 : (0 : Int) ≤ (j : Int) := by omega
      obtain ⟨B, off, rfl⟩ := HD.out.some (by omega)
      have c0 := (HD.out.later BL).cell j jl
      have HR1 : Hid (i64r ds[j]) := HRR.out _ (List.getElem_mem jl)
      have TK : Hid ((ds.take (j + 1)).reverse = ds[j] :: (ds.take j).reverse) := by
        show _ = _
        rw [List.take_succ_eq_append_getElem jl, List.reverse_append]
        rfl
      have HQ : Hid ((ds.take j).reverse.length ≤ 1000000000000) := by show _ ≤ _; rw [List.length_reverse, List.length_take]; omega
      have S5 := hide ST
      generalize ds[j] = n at c0 HR1 TK
      clear ST HD HRR HA HN
      go_wp2_with (at_mapUpdate; refine wpList_set_put _ rfl _ _ _ rfl _ _ n rfl rfl rfl S5.out HR1.out HQ.out ?_; intro w6 s6 g6 z6; have Z6 := hide z6; clear z6)
      refine ⟨⟨j + 1, by omega, by go_num, ?_, BL.grown g6 BL.size (fun k hk => by cases hk; omega)⟩, by simp [intOf]; omega⟩
      rw [TK.out]; exact s6
    · have e : j = M := by omega
      subst e
      have i3 : ¬ (j : Int) < (j : Int) := by omega
      rw [List.take_of_length_le (by have := HM.out; omega)] at ST
      have BS := BL.size
      have lt0 := ST.lt
      have S0 := hide ST
      have HBL := hide BL
      clear ST HD HRR BL hlt hj
      go_wp2_with (fail)
      go_loopw [9, 29] (fun v i wx => ∃ k : Nat, k ≤ L ∧ i = .int .i64 k ∧ wx.ownsRow (w.heap.size + 1) 43 5 v (Mf.left (l.take k) ds).length (mcs (Mf.left (l.take k) ds)) ∧ SetAt wx w.heap.size ds.reverse ∧ Below w.heap.size w wx) (fun _ i _ => L - (intOf i).toNat)
      case atStart => exact ⟨0, Nat.zero_le _, rfl, World.ownsRow_nil _ _ _ _, S0.out, HBL.out⟩
      case round =>
        obtain ⟨k, hk, rfl, O, ST, BL⟩ := hrel
        clear S0 HBL BS lt0
        by_cases hlt : k < L
        · have kl : k < l.length := by have := HL.out; omega
          have k1 : (k : Int) < (L : Int) := by omega
          have k2 : (0 : Int) ≤ (k : Int) := by omega
          obtain ⟨B, off, rfl⟩ := HA.out.some (by omega)
          obtain ⟨c0, c1, c2, c3, c4⟩ := (HA.out.later BL).cells k kl
          have HR1 : Hid (i64r l[k].number) := HN.out _ (List.getElem_mem kl)
          have TK := hide (left_take (ds := ds) kl)
          have LE : (Mf.left (l.take k) ds).length ≤ 1000000 := by have := left_le (l.take k) ds; rw [List.length_take] at this; omega
          generalize l[k] = x at c0 c1 c2 c3 c4 HR1 TK
          obtain ⟨n, v, c, f, la⟩ := x
          simp only at c0 c1 c2 c3 c4 HR1
          obtain ⟨q, hq⟩ : ∃ q, q = Mf.left (l.take k) ds := ⟨_, rfl⟩
          rw [← hq] at O LE TK
          have b1 : Below wr.heap.size wr (wr.alloc (mO ⟨n, v, c, f, la⟩)) := (Below.refl _ _).alloc (Nat.le_refl _) _
          have S1 := hide (ST.later b1)
          have HX : Hid (∀ o, ((wr.alloc (mO ⟨n, v, c, f, la⟩)).alloc o).heap[wr.heap.size]? = some (mO ⟨n, v, c, f, la⟩)) := fun o => (Below.heap_alloc _ _ _ (by simp)).trans (World.alloc_heap_new wr _)
          have b2 : Hid (∀ o, Below wr.heap.size wr ((wr.alloc (mO ⟨n, v, c, f, la⟩)).alloc o)) := fun o => b1.alloc (by simp) o
          have HO := hide O
          have HST := hide ST
          have HBL := hide BL
          have zb := BL.size
          have zs := ST.lt
          clear hq O ST BL HA HN b1
          by_cases hm : n ∈ ds
          · have hd1 : Hid (decide (n ∈ ds.reverse) = true) := decide_eq_true (List.mem_reverse.2 hm)
            rw [if_pos hm, List.append_nil] at TK
            clear hm
            go_wp2_with (at_lookup; refine wpList_set_is _ rfl _ _ rfl w.heap.size _ n rfl rfl S1.out HR1.out true hd1.out ?_)
            refine ⟨⟨k + 1, by omega, by go_num, ?_, HST.out.later (b2.out _), HBL.out.trans ((b2.out _).mono HBL.out.size)⟩, by simp [intOf]; omega⟩
            rw [TK.out]
            exact own_aft HO.out (b2.out _)
          · have hd1 : Hid (decide (n ∈ ds.reverse) = false) := decide_eq_false (fun c => hm (List.mem_reverse.1 c))
            rw [if_neg hm] at TK
            clear hm
            have CN : Hid (∀ W : World, ∀ B, B = W.heap.size → ∀ i u, (mcs [⟨n, v, c, f, la⟩])[i]? = some u → (W.alloc (mO ⟨n, v, c, f, la⟩)).cell? ((⟨B, 0, none⟩ : Addr).add i) = some u) := fun W B hB => mc_new W ⟨n, v, c, f, la⟩ B hB
            have KL : Hid ((mcs [⟨n, v, c, f, la⟩]).length = 1 * 5) := rfl
            have KO : Hid (∀ u ∈ mcs [⟨n, v, c, f, la⟩], u.oneCell' = true) := mcs_one _
            have Z1 : Hid (q.length + 1 ≤ maxLen) := by show _ ≤ _; unfold maxLen; omega
            have Z2 : Hid ((q.length + 1) * 56 ≤ 140737488355328) := by show _ ≤ _; omega
            have I7 := hide (fun o o2 => own_aft HO.out ((b2.out o).alloc (by simp; omega) o2))
            go_wp2_with (first
              | (at_lookup; refine wpList_set_is _ rfl _ _ rfl w.heap.size _ n rfl rfl S1.out HR1.out false hd1.out ?_)
              | (at_builtin; refine wpList_append_lies _ rfl _ _ 37 rfl (w.heap.size + 1) 43 ie _ 5 56 Tryz.underlying37 hi hz0 hz1 hz2 rfl (by decide) _ q.length _ rfl (I7.out _ _) ⟨wr.heap.size + 1 + 1, 0, none⟩ 1 1 (mcs [⟨n, v, c, f, la⟩]) rfl KL.out (CN.out _ _ (by simp)) KO.out (by decide) Z1.out Z2.out (by simp; omega) _ rfl ?_; intro g8 cap8 w12 o8 h8 l8 lt8))
            have b9 := (b2.out (.cells #[] 140)).alloc (by simp; omega) (mO ⟨n, v, c, f, la⟩)
            have B9 := HBL.out.trans (b9.mono HBL.out.size)
            refine ⟨⟨k + 1, by omega, by go_num, ?_, ?_, ?_⟩, by simp [intOf]; omega⟩
            · rw [TK.out, mcs_append, List.length_append]; exact o8
            · refine (HST.out.later b9).same (h8.block _ (by simp; omega) (fun e => ?_))
              have := (HO.out.lt _ e.symm).1
              omega
            · exact B9.grown h8 B9.size (fun k hk => by have := (HO.out.lt _ hk).1; omega)
        · have e : k = L := by omega
          subst e
          have i3 : ¬ (k : Int) < (k : Int) := by omega
          rw [List.take_of_length_le (by have := HL.out; omega)] at O
          have HO := hide O
          obtain ⟨va, vc, hv⟩ := row_shp O
          subst hv
          have nk : (Mf.left l ds).length ≤ k := by have := left_le l ds; have := HL.out; omega
          have HAD : Hid (Mf.allDrops l ds = (((k : Int) - ((Mf.left l ds).length : Int)) == (j : Int))) := by
            show _ = _
            unfold Mf.allDrops
            rw [← HL.out, ← HM.out]
            by_cases e : (k : Int) - ((Mf.left l ds).length : Int) = (j : Int)
            · rw [decide_eq_true e, e]; simp
            · rw [decide_eq_false e]; symm; rw [beq_eq_false_iff_ne]; exact e
          clear O HA HN ST
          generalize hgN : (Mf.left l ds).length = N at *
          have HGN := hide hgN
          clear hgN
          go_wp2_with (fail)
          go_ret2
          exact ⟨.slice va N vc, by rw [HAD.out]; rfl, by rw [HGN.out]; exact HO.out, BL⟩
end Go.Proofs.YtlhnjloimhcpfabGreatDoor
