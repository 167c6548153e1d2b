/-
  The places of a lane's entries.
-/
import Derived.Test.YtbdgdigpnfpnhaaMLaneP
import Derived.Deep.Cut
import Derived.Deep.CutRange
namespace Go.Proofs.Ytbdgdigpnfpnhaa.Q.P
open Go.RowKit

attribute [local go_sem] Oper.semAt_some

/-- How it stands when the loop begins. -/
structure LaneB (w : World) (h : Nat) (qv : Option Addr) (Bp Bn : Nat) (W1 : World) : Prop where
  hgt : W1.heap[w.heap.size]? = some (.cells #[.int .i64 ((h : Int) + 1)] 3 (0, 0))
  out : W1.heap[w.heap.size + 1]? = some (.cells #[.slice none 0 0] 22 (0, 0))
  place : W1.heap[Bp]? = some (.cells #[.int .i64 0] 3 (0, 0))
  next : W1.heap[Bn]? = some (.cells #[.pointer qv] 61 (0, 0))
  bel : Below w.heap.size w W1
  at' : w.heap.size + 1 < Bp ∧ Bp < W1.heap.size ∧ w.heap.size + 1 < Bn ∧ Bn < W1.heap.size ∧ Bp ≠ Bn
  big : w.heap.size + 4 ≤ W1.heap.size
theorem laneB_a (w : World) (h : Nat) (qv : Option Addr) : LaneB w h qv (w.heap.size + 1 + 1) (w.heap.size + 1 + 1 + 1) ((((w.alloc (.cells #[.int .i64 ((h : Int) + 1)] 3)).alloc (.cells #[.slice none 0 0] 22)).alloc (.cells #[.int .i64 0] 3)).alloc (.cells #[.pointer qv] 61)).drew := by
  obtain ⟨h1, h2, h3, h4, h5, h6⟩ := lane_w1 w _ _ _ _ _ rfl
  exact ⟨h1, h2, h3, h4, h5, by omega, by omega⟩
theorem laneB_b (w : World) (h : Nat) (qv : Option Addr) : LaneB w h qv (w.heap.size + 1 + 1 + 1) (w.heap.size + 1 + 1) ((((w.alloc (.cells #[.int .i64 ((h : Int) + 1)] 3)).alloc (.cells #[.slice none 0 0] 22)).alloc (.cells #[.pointer qv] 61)).alloc (.cells #[.int .i64 0] 3)).drew := by
  obtain ⟨h1, h2, h3, h4, h5, h6⟩ := lane_w1 w _ _ _ _ _ rfl
  exact ⟨h1, h2, h4, h3, h5, by omega, by omega⟩

set_option maxRecDepth 100000 in
set_option maxHeartbeats 8000000 in
theorem lane_any (w : World) (b : Nat) (hv : Value) (hs : List Nat) (hd : Mm.Nd) (ns : List Mm.Nd) (T : TabAt w b hv hs hd ns) (hn : ns.length ≤ 100000) (h : Nat) (h2 : h < 12) :
    Calls Try.prog 47 #[.pointer (some ⟨b, 0, none⟩), .int .i64 ((h : Int) + 1)] w fun r w' => ∃ v, r = .returned v ∧ w'.ownsRow w.heap.size 3 1 v (Mm.places (h + 1) 0 (ns.map Mm.it)).length (ncs (Mm.places (h + 1) 0 (ns.map Mm.it))) ∧ Below w.heap.size w w' := by
  have HT := hide T
  have B0 : Below w.heap.size w (w.alloc (.cells #[.int .i64 ((h : Int) + 1)] 3)) := (Below.refl _ _).alloc (Nat.le_refl _) _
  have MD := hide (made_yes _ b (T.later B0).cells.1)
  obtain ⟨q0, q1, c2, q3, q4⟩ := T.cells
  have l0 : w.cell? ⟨hd.blk, 5, none⟩ = some (ptr ns.head?) := by
    have := T.chain.lane (p := []) 0 (by omega) (decide_eq_true (by rw [T.top]; omega))
    rw [Mm.nxt_zero (fun x hx => (T.tall x hx).1)] at this
    exact this
  have l1 : w.cell? ⟨hd.blk, 5 + h, none⟩ = some (ptr (Mm.nxt h ns)) := T.chain.lane (p := []) h (by omega) (decide_eq_true (by rw [T.top]; omega))
  obtain ⟨pv, hpv⟩ : ∃ pv, ptr ns.head? = .pointer pv := by cases ns.head? <;> exact ⟨_, rfl⟩
  obtain ⟨qv, hqv⟩ : ∃ qv, ptr (Mm.nxt h ns) = .pointer qv := by cases Mm.nxt h ns <;> exact ⟨_, rfl⟩
  have LK := links_any
  rw [hpv] at l0
  rw [hqv] at l1
  have HPV := hide hpv
  have HQV := hide hqv
  have i1 : ¬ (h : Int) + 1 < 1 := by omega
  have i2 : ¬ (h : Int) + 1 > 12 := by omega
  have i3 : (h : Int) < 12 := by omega
  have i4 : IntKind.i64.wrap (h : Int) = (h : Int) := by rw [IntKind.wrap_i64]; omega
  have hdl : hd.blk < w.heap.size := World.block_lt_of_cell? w _ l0
  have bl : b < w.heap.size := World.block_lt_of_cell? w _ c2
  have n5 : hd.blk < w.heap.size + 1 := by omega
  have n6 : hd.blk < w.heap.size + 1 + 1 := by omega
  have n7 : hd.blk < w.heap.size + 1 + 1 + 1 := by omega
  have m5 : b < w.heap.size + 1 := by omega
  have m6 : b < w.heap.size + 1 + 1 := by omega
  have m7 : b < w.heap.size + 1 + 1 + 1 := by omega
  clear T q0 q1 q3 q4 hpv hqv
  refine (callsIn_wide (n := 5)).1 ?_
  refine callsIn_of_wp_marks Try.func47 rfl trivial ?_ rfl
  simp only [Try.ntmps47, List.size_toArray, List.length_cons, List.length_nil, Nat.reduceAdd, Nat.reduceSub, Array.replicate_succ, Array.replicate_zero, List.push_toArray, List.append_toArray, List.nil_append, List.cons_append]
  rw [wpIn_wide]
  go_wp2_with (first
    | (go_at_call 39; refine still MD.out ?_; clear MD))
  go_cut [6, 7] from 9 to 29 (fun p q wx => ∃ Bp Bn, p = .pointer (some ⟨Bp, 0, none⟩) ∧ q = .pointer (some ⟨Bn, 0, none⟩) ∧ LaneB w h qv Bp Bn wx)
  case first =>
    go_region
    all_goals
      go_wp2_with (fail)
      go_meet
      case rel => first | exact ⟨_, _, rfl, rfl, laneB_a w h qv⟩ | exact ⟨_, _, rfl, rfl, laneB_b w h qv⟩
  case rest =>
    obtain ⟨Bp, Bn, rfl, rfl, LB⟩ := hcut
    clear n5 n6 n7 m5 m6 m7
    obtain ⟨W1, hW1⟩ : ∃ W1, W1 = wc := ⟨_, rfl⟩
    rw [← hW1] at LB ⊢
    clear hW1
    obtain ⟨x0, x1, xp, xn, B1, pB, z2⟩ := LB
    have c2' := keepC (Below.mono B1 (Nat.le_refl _)) c2
    have l0' := keepC (Below.mono B1 (Nat.le_refl _)) l0
    clear c2 l0 l1 B0
    go_wp2_with (first
      | (go_at_call 53; refine (LK _ _).mono ?_; rintro e w2 ⟨rfl, rfl⟩; clear LK))
    obtain ⟨W, hW⟩ : ∃ W, W = W1.alloc (.cells #[.pointer pv] 61) := ⟨_, rfl⟩
    have b2 : Below W1.heap.size W1 W := by rw [hW]; exact (Below.refl _ _).alloc (Nat.le_refl _) _
    have xb : W.heap[W1.heap.size]? = some (.cells #[.pointer pv] 61 (0, 0)) := by rw [hW]; exact World.alloc_heap_new W1 _
    have zW : W1.heap.size + 1 ≤ W.heap.size := by rw [hW]; simp
    rw [← hW]
    have BW := B1.trans (b2.mono B1.size)
    have TW := HT.out.later BW
    have NL : ∀ x ∈ ns, x.blk < w.heap.size := fun x hx => HT.out.chain.lt x (by simp [hx])
    have L0 : LaneIn w W ns h Bp Bn 0 W := ⟨⟨_, keepB b2 x1, World.ownsRow_nil _ _ _ _⟩, keepB b2 x0, keepB b2 xp, by rw [List.drop_zero, HQV.out]; exact keepB b2 xn, BW⟩
    have HH := links_hands (5 - 1) W1.heap.size W ns (fun i => (∃ x ∈ ns, x.blk = i) ∨ i = W1.heap.size) (by rw [HPV.out]; exact xb) TW.chain.2 (fun x hx => (TW.tall x hx).1) (by have := TW.apart; rw [List.map_cons] at this; exact (List.nodup_cons.1 this).2) (.inr rfl) (fun x hx => .inl ⟨x, hx, rfl⟩)
    have SL : Hid (∀ i, ((∃ x ∈ ns, x.blk = i) ∨ i = W1.heap.size) → i < W.heap.size ∧ i ≠ w.heap.size ∧ i ≠ w.heap.size + 1 ∧ i ≠ Bp ∧ i ≠ Bn) := fun i hi => by
      rcases hi with ⟨x, hx, rfl⟩ | rfl
      · have := NL x hx; omega
      · omega
    have CH := hide TW.chain.2
    have ND : Hid ((ns.map (·.blk)).Nodup) := by have := TW.apart; rw [List.map_cons] at this; exact (List.nodup_cons.1 this).2
    clear hW x0 x1 xp xn xb TW NL c2' l0' B1 b2
    rw [← wpIn_wide (n := 5)]
    refine wpIn_handsK6 rfl (by decide) (gf := 75) (lb := #[.pointer (some ⟨W1.heap.size, 0, none⟩)]) rfl trivial (enters_of Try.func75 (by kernel_rfl) rfl) HH (KeepK.refl _ _) (fun h k => h.trans k) (fun A o hA => KeepK.later ((Below.refl _ _).alloc (Nat.le_refl _) _) (fun i hi => by have := (SL.out i hi).1; omega)) (fun A o => KeepK.put A _ o (fun i hi => by have := (SL.out i hi).1; omega)) (fun _ => rfl)
      (fun k A => LaneIn w W ns h Bp Bn k A) (fun _ _ _ => False)
      (fun k A B x hg => x.grown hg) (fun _ _ _ _ x _ => x) (fun k A i o o' x hi ha ho => x.put o' (by omega) (by omega) (by omega) ha ho) (fun _ _ _ _ _ _ x _ _ _ => x)
      (fun o => L0.grown (grown_any (((Below.refl W.heap.size W).alloc (Nat.le_refl _) _).alloc (by simp) _))) ?_ ?_ ?_ ?_ (fun _ _ _ _ x => x.elim)
    rotate_left
    · intro L' k A K hK
      gi_wp2_with (fail)
      exact hK
    · rintro L' k A hk hI hKp ⟨rl, hl1⟩ hd1
      have en : ns[k]? = some ns[k] := List.getElem?_eq_getElem hk
      have chA : Chain A ns := CH.out.same fun x hx => hKp.2 _ (.inl ⟨x, hx, rfl⟩)
      have ek : ns = ns.take k ++ ns[k] :: ns.drop (k + 1) := by rw [List.getElem_cons_drop, List.take_append_drop]
      have ch' : Chain A (ns.take k ++ ns[k] :: ns.drop (k + 1)) := by rw [← ek]; exact chA
      obtain ⟨jn, hjn, hjs⟩ := infoNode
      have zA : W.heap.size ≤ A.heap.size := hKp.1
      have cp := hI.place.cell
      have fp := hI.place.frozen
      have HI := hide hI
      have cn := hI.next.cell
      have wk : IntKind.i64.wrap ((k : Int) + 1) = (k : Int) + 1 := by rw [IntKind.wrap_i64]; omega
      simp only [en, show ptr (some ns[k]) = Value.pointer (some ⟨ns[k].blk, 0, none⟩) from rfl]
      cases ho : Mm.on h ns[k] with
      | false =>
        have hfin := hide (hI.off hk ho pB.1 pB.2.2.2.2 (by omega))
        rw [show ((k + 1 : Nat) : Int) = (k : Int) + 1 by omega] at hfin
        have FF : Hid (((A.setCell ⟨Bp, 0, none⟩ (.int .i64 ((k : Int) + 1))).heap[W.heap.size]? = A.heap[W.heap.size]? ∧ (A.setCell ⟨Bp, 0, none⟩ (.int .i64 ((k : Int) + 1))).heap[W.heap.size + 1]? = A.heap[W.heap.size + 1]?) ∧ KeepK (fun i => (∃ x ∈ ns, x.blk = i) ∨ i = W1.heap.size) A (A.setCell ⟨Bp, 0, none⟩ (.int .i64 ((k : Int) + 1)))) := ⟨⟨heap_setCell_other _ _ _ _ (by show W.heap.size ≠ Bp; omega), heap_setCell_other _ _ _ _ (by show W.heap.size + 1 ≠ Bp; omega)⟩, by simp, fun i hi => heap_setCell_other _ _ _ _ (by have := SL.out i hi; show i ≠ Bp; omega)⟩
        rw [nxt_off hk ho] at cn
        cases hy : Mm.nxt h (ns.drop (k + 1)) with
        | none =>
          rw [hy, show ptr none = Value.pointer none from rfl] at cn
          generalize ns[k] = x at *
          clear HH CH ND hI HI chA ch' ek SL hKp hl1 hd1 ho hy en
          gi_wp2_with (fail)
          exact ⟨FF.out.1, FF.out.2, hfin.out⟩
        | some y =>
          rw [hy, show ptr (some y) = Value.pointer (some ⟨y.blk, 0, none⟩) from rfl] at cn
          obtain ⟨r1, r2, er, oy, _⟩ := Mm.nxt_some hy
          have hyx : (⟨ns[k].blk, 0, none⟩ : Addr) ≠ ⟨y.blk, 0, none⟩ := fun e => by
            have e' : ns[k].blk = y.blk := congrArg Addr.block e
            have nd := ND.out
            rw [ek, er, List.map_append, List.map_cons, List.nodup_append] at nd
            have := (List.nodup_cons.1 nd.2.1).1
            exact this (by rw [e']; simp)
          have hby : A.heap[y.blk]? = some (ndObj y r2) := by
            have : Chain A ((ns.take k ++ ns[k] :: r1) ++ y :: r2) := by
              have e2 : (ns.take k ++ ns[k] :: r1) ++ y :: r2 = ns := by rw [List.append_assoc, List.cons_append, ← er, ← ek]
              rw [e2]; exact chA
            exact this.at
          have q := run_eql_ptr_other A Try.underlying61 hjn hjs hyx ch'.at hby
          generalize ns[k] = x at *
          clear HH CH ND hI HI chA ch' ek SL hKp hl1 hd1 ho hy en hby er oy
          gi_wp2_with (fail)
          exact ⟨FF.out.1, FF.out.2, hfin.out⟩
      | true =>
        rw [nxt_on hk ho, show ptr (some ns[k]) = Value.pointer (some ⟨ns[k].blk, 0, none⟩) from rfl] at cn
        obtain ⟨v, o1, o2⟩ := hI.out
        obtain ⟨n, hn'⟩ : ∃ n, n = (Mm.places (h + 1) 0 ((ns.map Mm.it).take k)).length := ⟨_, rfl⟩
        rw [← hn'] at o2
        obtain ⟨va, vc, rfl⟩ := row_shape o2
        have hnk : n ≤ 100000 := by
          have := Mm.places_len (h + 1) ((ns.map Mm.it).take k) 0
          rw [← hn', List.length_take, List.length_map] at this
          omega
        have q := run_eql_ptr_same A ⟨ns[k].blk, 0, none⟩ Try.underlying61 hjn
        have FI := hide (fun (v' : Value) (tmp : Obj) (w1 : World) (r1 : w1.ownsRow W.heap.size 3 1 v' (n + 1) (ncs (Mm.places (h + 1) 0 ((ns.map Mm.it).take k)) ++ [.int .i64 (k : Int)])) (g1 : (A.alloc tmp).grownBy w1 (Value.slice va n vc).ownBlock) => hI.on hk ho pB.1 pB.2.2.2.2 (by omega) pB.2.2.1 (by omega) (fun i => (∃ x ∈ ns, x.blk = i) ∨ i = W1.heap.size) SL.out zA rl hl1 hd1 (Value.slice va n vc) v' tmp w1 n o1 o2 hn' r1 g1)
        have CX : Hid (∀ (Y : World), (∀ i, ((∃ x ∈ ns, x.blk = i) ∨ i = W1.heap.size) → Y.heap[i]? = A.heap[i]?) → Y.cell? ⟨ns[k].blk, 5 + h, none⟩ = some (ptr (Mm.nxt h (ns.drop (k + 1))))) := fun Y hY => (ch'.same (w' := Y) fun x hx => hY _ (.inl ⟨x, by rw [ek]; exact hx, rfl⟩)).lane h h2 ho
        have c1 := o1.cell
        have f1 := o1.frozen
        have OA : Hid ((A.alloc (.cells #[.int .i64 (k : Int)] 3)).ownsRow W.heap.size 3 1 (.slice va n vc) n (ncs (Mm.places (h + 1) 0 ((ns.map Mm.it).take k)))) := o2.alloc _
        have NC : Hid (∀ j u, [Value.int .i64 (k : Int)][j]? = some u → (A.alloc (.cells #[.int .i64 (k : Int)] 3)).cell? ((⟨A.heap.size, 0, none⟩ : Addr).add j) = some u) := fun j u hu => by
          rw [addr_add, Nat.zero_add]
          have hj : j = 0 := by
            rcases Nat.eq_zero_or_pos j with h | h
            · exact h
            · rw [List.getElem?_eq_none (by simp; omega)] at hu; cases hu
          subst hj
          rw [Joins.cell_of_block (World.alloc_heap_new A _) 0]
          exact hu
        obtain ⟨i0, hi, hz0, hz1, hz2⟩ := info_parts Try.infoI
        obtain ⟨nv, hnv⟩ : ∃ nv, ptr (Mm.nxt h (ns.drop (k + 1))) = .pointer nv := by cases Mm.nxt h (ns.drop (k + 1)) <;> exact ⟨_, rfl⟩
        rw [hnv] at CX
        generalize ns[k] = x at *
        clear HH CH ND hI HI chA ch' ek SL hKp hl1 hd1 en o1 o2 hn'
        gi_wp2_with (first
          | (gi_at_builtin; refine wpListIn_append_own _ rfl _ _ 22 rfl W.heap.size 3 i0 _ 1 8 Try.underlying22 hi hz0 hz1 hz2 rfl (by decide) _ n _ rfl OA.out ⟨A.heap.size, 0, none⟩ 1 1 [.int .i64 (k : Int)] rfl rfl NC.out (by simp [Value.oneCell']) (by unfold maxLen; omega) (by omega) (by simp; omega) ?_; intro v1 w1 r1 g1 _; obtain ⟨bx1, FF⟩ := FI.out v1 _ w1 r1 g1; obtain ⟨a1, c1', rfl⟩ := row_shape r1; have fx := bx1.frozen; have cx := bx1.cell; clear FI))
        obtain ⟨Y1, hY1⟩ : ∃ Y1, Y1 = w1.setCell ⟨w.heap.size + 1, 0, none⟩ (.slice a1 (n + 1) c1') := ⟨_, rfl⟩
        rw [← hY1]
        obtain ⟨y0, yp, yn, ys, Y2F⟩ := FF Y1 hY1
        have cx5 := CX.out Y1 ys
        have ch0 := y0.cell
        have cn1 := yn.cell
        have fn1 := yn.frozen
        rw [hnv] at Y2F
        have HF := hide Y2F
        clear hY1 FF Y2F CX ys r1 g1 bx1 fx cx OA NC y0 yp yn
        gi_region
        all_goals
          obtain ⟨Y2, hY2⟩ : ∃ Y2, Y2 = (Y1.setCell ⟨Bn, 0, none⟩ (.pointer nv)).drew := ⟨_, rfl⟩
          rw [← hY2]
          obtain ⟨y2p, hfin, kk, k1, k2⟩ := HF.out Y2 (by rw [hY2]; rfl) (by rw [hY2]; rfl) (by rw [hY2]; rfl) (by rw [hY2]; rfl)
          have cp2 := y2p.cell
          have fp2 := y2p.frozen
          have HFI := hide hfin
          clear hY2 HF hfin y2p
          gi_wp2_with (fail)
          exact ⟨⟨k1, k2⟩, kk, HFI.out⟩
    · rintro B hI hd
      clear HH
      obtain ⟨v, o1, o2⟩ := hI.out
      rw [List.take_of_length_le (by simp)] at o2
      obtain ⟨va, vc, rfl⟩ := row_shape o2
      have c1 := o1.cell
      have BB := hI.below
      have HO : Hid ((B.putObj W.heap.size (.deferred none)).ownsRow w.heap.size 3 1 (.slice va (Mm.places (h + 1) 0 (ns.map Mm.it)).length vc) (Mm.places (h + 1) 0 (ns.map Mm.it)).length (ncs (Mm.places (h + 1) 0 (ns.map Mm.it)))) := by
        have := ownsRow_putObj o2 (.deferred none) hd rfl
        refine ⟨this.1, ?_⟩
        rcases this.2 with h | ⟨g, cap, cur, e, h1, h2⟩
        · exact .inl h
        · exact .inr ⟨g, cap, cur, e, by have := BW.size; omega, h2⟩
      have B9 : Below w.heap.size w (B.putObj W.heap.size (.deferred none)) := BB.trans ⟨rfl, rfl, rfl, by simp [World.putObj], fun i hi => World.putObj_heap_other (by have := BW.size; omega)⟩
      clear hI o1 o2 SL CH ND L0
      gi_wp2_with (fail)
      go_wp2_with (fail)
      exact leaves_one hd (v := .slice va (Mm.places (h + 1) 0 (ns.map Mm.it)).length vc) (by simp [results, Try.results47, go_sem]) ⟨_, rfl, HO.out, B9⟩
end Go.Proofs.Ytbdgdigpnfpnhaa.Q.P
