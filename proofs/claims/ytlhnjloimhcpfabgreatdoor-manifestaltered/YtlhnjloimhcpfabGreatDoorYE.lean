/-
  Numbers put behind bytes that a call owns. .. and what follows from it.
-/
import Derived.Test.YtlhnjloimhcpfabGreatDoorYB
import Derived.Test.YtlhnjloimhcpfabGreatDoorYPR
import Derived.Test.YtlhnjloimhcpfabGreatDoorEA
import Derived.Test.YtlhnjloimhcpfabGreatDoorYL
import Derived.RangeFuncBox
import Derived.Test.YtlhnjloimhcpfabGreatDoorYJ
import Derived.Lib.AppendStr
namespace Go.Proofs.YtlhnjloimhcpfabGreatDoor
open Go.RowKit

theorem grown_all {w w' : World} {r : Option Nat} (hb : Below w.heap.size w w') : w.grownBy w' r := ⟨hb.os, hb.tape, hb.output, hb.size, fun k hk _ => hb.block k hk⟩
theorem ext_then {base : Nat} {w w1 w2 : World} {v v2 : Value} {l : List UInt8} (hb : Below w.heap.size w w1) (h : Ext base w1 v w2 v2 l) : Ext base w v w2 v2 l :=
  ⟨h.own, grownBy_trans (grown_all hb) h.grown (.inl rfl), by
    rcases h.lies with e | ⟨g, e, hg⟩
    · exact .inl e
    · exact .inr ⟨g, e, Nat.le_trans hb.size hg⟩⟩

set_option maxRecDepth 100000 in
set_option maxHeartbeats 8000000 in
theorem anums_any (w : World) (base : Nat) (va : Option Addr) (vn vc : Nat) (l : List UInt8) (a : Option Addr) (c : Nat) (xs : List Int) (hv : vn = l.length) (h : w.ownsRow base 5 1 (.slice va vn vc) l.length (bc l)) (hb : base ≤ w.heap.size) (hx : IzAt w (.slice a xs.length c) xs) (ha : xs ≠ [] → ∀ ad, a = some ad → some ad.block ≠ (Value.slice va vn vc).ownBlock)
    (hr : ∀ x ∈ xs, 0 ≤ x ∧ x ≤ 4000000000000000000) (hl : l.length ≤ 900000000) (hxl : xs.length ≤ 1000000) :
    Calls Tryz.prog 88 #[.slice va vn vc, .slice a xs.length c] w fun e w' => ∃ va' vn' vc', e = .returned (.slice va' vn' vc') ∧ Hid (vn' = (l ++ Mf.lebs xs).length) ∧ Ext base w (.slice va vn vc) w' (.slice va' vn' vc') (l ++ Mf.lebs xs) := by
  have EA : Hid (∀ wx (x : Nat), x ≤ 4000000000000000000 → Calls Tryz.prog 113 #[.slice none 0 0, .int .u64 (x : Int)] wx fun e w' => ∃ g c m, e = .returned (.slice (some ⟨g, 0, none⟩) m c) ∧ Hid (m = (Enc.leb x).length) ∧ Hid (Ext wx.heap.size wx (.slice none 0 0) w' (.slice (some ⟨g, 0, none⟩) m c) (Enc.leb x))) := fun wx x hx => by
    refine (Enc.append_any wx (.slice none 0 0) [] x ⟨⟨none, 0, rfl, fun h => absurd rfl h⟩, by simp⟩ (fun a b e => by cases e; rfl) (by omega) (by simp)).mono ?_
    rintro e w' ⟨v', rfl, hx'⟩
    rw [List.nil_append] at hx'
    obtain ⟨g, c, rfl⟩ := hx'.some (by have := Enc.leb_pos x; intro e; rw [e] at this; simp at this)
    exact ⟨g, c, _, rfl, rfl, hx'⟩
  have HX := hide hx
  have HR : Hid (∀ x ∈ xs, 0 ≤ x ∧ x ≤ 4000000000000000000) := hr
  have HA : Hid (xs ≠ [] → ∀ ad, a = some ad → some ad.block ≠ (Value.slice va vn vc).ownBlock) := ha
  have E0 : Hid (Ext base w (.slice va vn vc) w (.slice va vn vc) (l ++ Mf.lebs (xs.take 0))) := by
    show Ext _ _ _ _ _ _
    rw [show l ++ Mf.lebs (xs.take 0) = l by simp [Mf.lebs]]
    exact Ext.start h
  have HV : Hid (vn = (l ++ Mf.lebs (xs.take 0)).length) := by show _ = _; rw [hv]; simp [Mf.lebs]
  have LL : Hid (∀ j, (l ++ Mf.lebs (xs.take j)).length ≤ 910000000) := fun j => by
    have h1 := Mf.lebs_len (xs.take j) (fun x hx => (hr x (List.mem_of_mem_take hx)).2)
    rw [List.length_take] at h1
    rw [List.length_append]
    omega
  obtain ⟨L, hL⟩ : ∃ L, L = xs.length := ⟨_, rfl⟩
  have HL := hide hL
  rw [← hL] at hxl ⊢
  clear hx hr ha h hv hL
  go_enter Tryz.func88, Tryz.ntmps88
  go_wp2_with (fail)
  go_loopw [0, 9] (fun v i wr => ∃ (j : Nat) (aj : Option Addr) (nj cj : Nat), j ≤ L ∧ i = .int .i64 j ∧ v = .slice aj nj cj ∧ nj = (l ++ Mf.lebs (xs.take j)).length ∧ Ext base w (.slice va vn vc) wr (.slice aj nj cj) (l ++ Mf.lebs (xs.take j))) (fun _ i _ => L - (intOf i).toNat)
  case atStart => exact ⟨0, va, vn, vc, Nat.zero_le _, rfl, rfl, HV.out, E0.out⟩
  case round =>
    obtain ⟨j, aj, nj, cj, hj, rfl, rfl, hnj, X⟩ := hrel
    clear E0 HV
    by_cases hlt : j < L
    · have jl : j < xs.length := by have := HL.out; omega
      have j1 : (j : Int) < (L : Int) := by omega
      have j2 : (0 : Int) ≤ (j : Int) := by omega
      obtain ⟨B, off, rfl⟩ := HX.out.some (by omega)
      have c0 : wr.cell? ⟨B, off + j, none⟩ = some (.int .i64 xs[j]) := X.keeps (HX.out.cell j jl) (HA.out (fun h0 => by rw [h0] at jl; cases jl) ⟨B, off, none⟩ rfl)
      obtain ⟨r1, r2⟩ := HR.out _ (List.getElem_mem jl)
      have TK : Hid (l ++ Mf.lebs (xs.take (j + 1)) = l ++ Mf.lebs (xs.take j) ++ Enc.leb (xs[j]).toNat) := by show _ = _; rw [Mf.lebs_take jl, List.append_assoc]
      have L1 := LL.out j
      generalize xs[j] = x at c0 r1 r2 TK
      obtain ⟨n, rfl⟩ : ∃ n : Nat, x = (n : Int) := ⟨x.toNat, by omega⟩
      rw [Int.toNat_natCast] at TK
      have r3 : n ≤ 4000000000000000000 := by omega
      have hw : IntKind.u64.wrap (n : Int) = (n : Int) := by rw [IntKind.wrap_u64]; omega
      have EX := EA.out wr n r3
      have hlp : Hid (0 < (Enc.leb n).length) := Enc.leb_pos n
      have hl10 := Enc.leb_len64 n (by omega)
      obtain ⟨Q, hQ⟩ : ∃ Q, Q = l ++ Mf.lebs (xs.take j) := ⟨_, rfl⟩
      rw [← hQ] at X TK L1 hnj
      have HO : Hid (wr.ownsRow base 5 1 (.slice aj nj cj) Q.length (bc Q)) := X.own
      have HXX := hide X
      have hzr : base ≤ wr.heap.size := Nat.le_trans hb X.size
      obtain ⟨q, hq⟩ : ∃ q, q = Enc.leb n := ⟨_, rfl⟩
      rw [← hq] at EX hlp hl10 TK
      have R1 : Hid (Q.length + q.length ≤ 140737488355328) := by show _ ≤ _; omega
      clear hQ hq X HX HR HA EA LL r1 r2 r3 hl10 L1 hnj
      go_wp2_with (first
        | (go_at_call 113; refine EX.mono ?_; rintro e w1 ⟨g1, c1, m, rfl, HM, x1⟩; have b1 := below_of x1.out.grown; have o1 := hide (own_aft HO.out b1); have z1 : base ≤ w1.heap.size := Nat.le_trans hzr b1.size; have y1 := hide x1.out.own; clear EX x1)
        | (at_builtin; refine wpList_append_bytes _ rfl _ _ rfl base _ Q q rfl o1.out ⟨g1, 0, none⟩ m c1 rfl HM.out (own_cells (by have := y1.out; rw [← HM.out] at this; exact this)) hlp.out R1.out z1 ?_; intro g2 cap2 L2 w2 HL2 x2 lt2))
      refine ⟨⟨j + 1, some ⟨g2, 0, none⟩, L2, cap2, by omega, by go_num, rfl, ?_, ?_⟩, by simp [intOf]; omega⟩
      · rw [TK.out]; exact HL2.out
      · rw [TK.out]; exact HXX.out.trans (ext_then b1 x2)
    · have e : j = L := by omega
      subst e
      have i3 : ¬ (j : Int) < (j : Int) := by omega
      rw [List.take_of_length_le (by have := HL.out; omega)] at X hnj
      have HXX := hide X
      have HNJ := hide hnj
      clear X HX HR HA EA LL hnj
      go_wp2_with (fail)
      go_ret
      exact ⟨_, _, _, rfl, by show _ = _; rw [HNJ.out, List.length_append], HXX.out⟩
end Go.Proofs.YtlhnjloimhcpfabGreatDoor
namespace Go.Proofs.YtlhnjloimhcpfabGreatDoor
open Go.RowKit

theorem strCells_bc (l : List UInt8) : Lib.strCells ⟨l.toArray⟩ = bc l := by simp [Lib.strCells, bc]
theorem step_app_strL (w : World) {ops : Array Oper} {o : Oper} {a : Act} {K : Act → World → Prop} {Q : Exit → Act → World → Prop} {E : Prop} (hgd : o.guard = none) (s x : Operand)
    (hop : o.op = .call { callee := .builtin .append, args := #[s, x], argTypes := #[33, 9] })
    (base g cap : Nat) (l m : List UInt8) (n : Nat) (hn : n = l.length) (hs : a.eval s = .slice (some ⟨g, 0, none⟩) n cap) (hown : w.ownsRow base 5 1 (.slice (some ⟨g, 0, none⟩) n cap) n (bc l))
    (sb : ByteArray) (hx : a.eval x = .string sb) (hsb : sb = ⟨m.toArray⟩) (hroom : l.length + m.length ≤ 140737488355328) (hbase : base ≤ w.heap.size)
    (h : ∀ g' cap' L w', Hid (L = (l ++ m).length) → Ext base w (.slice (some ⟨g, 0, none⟩) n cap) w' (.slice (some ⟨g', 0, none⟩) L cap') (l ++ m) → K (a.put o.dst (.slice (some ⟨g', 0, none⟩) L cap')) w') :
    if Region.wanted o (yielded ops a.tmps) = true then Oper.wp Tryz.prog o a w K Q else E := by
  have hw : Region.wanted o (yielded ops a.tmps) = true := by simp [Region.wanted, hgd]
  rw [if_pos hw]
  subst hn hsb
  obtain ⟨i0, hi, hz0, hz1, hz2⟩ := info_parts Tryz.info5
  have hsz : (⟨m.toArray⟩ : ByteArray).size = m.length := by show m.toArray.size = _; simp
  obtain ⟨v', w', hr, h2, h3, h4⟩ := Lib.run_append_own_string (P := Tryz.prog) w base 33 9 o.type 5 i0 Tryz.underlying33 Tryz.underlying9 hi hz0 hz1 hz2 _ l.length (bc l) hown ⟨m.toArray⟩ (by rw [hsz]; unfold maxLen; omega) (by rw [hsz]; exact hroom) hbase
  have lies : v'.ownBlock = some g ∨ v'.ownBlock = some w.heap.size := by
    rcases hown.2 with ⟨e, _⟩ | ⟨g', cap', cur, e, hbg, hg, hnc, hcm, hcs, htake⟩
    · cases e
    · simp only [Value.slice.injEq, Option.some.injEq, Addr.mk.injEq, and_true, true_and] at e
      obtain ⟨rfl, rfl⟩ := e
      have hcs' : cur.size = cap := by simpa using hcs
      by_cases hro : l.length + (⟨m.toArray⟩ : ByteArray).size ≤ cap
      · have hr2 := Lib.run_append_room_string (P := Tryz.prog) w 33 9 o.type 5 i0 Tryz.underlying33 Tryz.underlying9 hi hz1 g l.length cap cur hg ⟨m.toArray⟩ hro (by omega)
        rw [hr2] at hr
        simp only [Result.ok.injEq] at hr
        rw [← hr.1]
        exact .inl rfl
      · have holds := hown.cells (g := g) rfl
        have hr2 := Lib.run_append_grow_string (P := Tryz.prog) w 33 9 o.type 5 i0 (.int .u8 0) Tryz.underlying33 Tryz.underlying9 hi hz0 ⟨g, 0, none⟩ l.length cap (bc l) (by rw [hz1, bc_length]; omega) holds ⟨m.toArray⟩ (by omega) (by rw [hsz]; omega) (by rw [hz2, hsz]; exact growslice_fits (by omega) (by omega))
        rw [hr2] at hr
        simp only [Result.ok.injEq] at hr
        rw [← hr.1]
        exact .inr rfl
  rw [strCells_bc, ← bc_append, hsz, ← List.length_append] at h2
  unfold Oper.wp execOp
  simp only [hop, resolve, invoke, builtin, Sem.run_bind, Sem.run_pure, Result.andThen_ok, List.map_toArray, List.map_cons, List.map_nil, hs, hx, hr]
  rcases h2.2 with ⟨rfl, _⟩ | ⟨g', cap', cur, rfl, _⟩
  · have := (h4.1 rfl).1
    cases this
  · refine h g' cap' _ w' rfl ⟨h2, h3, ?_⟩
    rcases lies with e | e
    · exact .inl e
    · exact .inr ⟨_, e, Nat.le_refl _⟩

theorem own_neM {w : World} {base n B : Nat} {v : Value} {xs : List Value} {x : Mf.Mt} (h : w.ownsRow base 5 1 v n xs) (hb : w.heap[B]? = some (mO x)) : v.ownBlock ≠ some B := by
  rcases h.2 with ⟨rfl, _⟩ | ⟨g, cap, cur, rfl, _, hg, _⟩
  · intro e; cases e
  · intro e1
    have : g = B := Option.some.inj e1
    subst this
    rw [hg] at hb
    have := (Obj.cells.inj (Option.some.inj hb)).2.1
    revert this
    decide

/-- Bytes that a call owns, beside the block of an edit. -/
structure Rc (w : World) (d a : Value) (lo se ne : Int) (wx : World) (v : Value) (q : List UInt8) : Prop where
  ed : EdIn w wx d a lo se ne
  own : wx.ownsRow (w.heap.size + 1) 5 1 v q.length (bc q)
section
variable {w wx wy : World} {d a : Value} {lo se ne : Int} {v v' : Value} {q q' : List UInt8}
theorem Rc.low (h : Rc w d a lo se ne wx v q) : w.heap.size + 1 ≤ wx.heap.size := (Array.getElem?_eq_some_iff.1 h.ed.blk).1
theorem Rc.later (h : Rc w d a lo se ne wx v q) (b : Below wx.heap.size wx wy) : Rc w d a lo se ne wy v q := ⟨h.ed.later b, own_aft h.own b⟩
theorem Rc.step (h : Rc w d a lo se ne wx v q) (x : Ext (w.heap.size + 1) wx v wy v' q') : Rc w d a lo se ne wy v' q' :=
  ⟨⟨(x.grown.block _ (Array.getElem?_eq_some_iff.1 h.ed.blk).1 (fun e => by have := (h.own.lt _ e.symm).1; omega)).trans h.ed.blk, h.ed.bel.grown x.grown h.ed.bel.size (fun k hk => by have := (h.own.lt _ hk).1; omega)⟩, x.own⟩
/-- .. and beside the block of a table's words. -/
structure Rcx (w : World) (d a : Value) (lo se ne : Int) (G : Nat) (x : Mf.Mt) (wx : World) (v : Value) (q : List UInt8) : Prop where
  rc : Rc w d a lo se ne wx v q
  blk : wx.heap[G]? = some (mO x)
theorem Rcx.later {G : Nat} {x : Mf.Mt} (h : Rcx w d a lo se ne G x wx v q) (b : Below wx.heap.size wx wy) : Rcx w d a lo se ne G x wy v q := ⟨h.rc.later b, (b.block _ (Array.getElem?_eq_some_iff.1 h.blk).1).trans h.blk⟩
theorem Rcx.step {G : Nat} {x : Mf.Mt} (h : Rcx w d a lo se ne G x wx v q) (y : Ext (w.heap.size + 1) wx v wy v' q') : Rcx w d a lo se ne G x wy v' q' :=
  ⟨h.rc.step y, (y.grown.block _ (Array.getElem?_eq_some_iff.1 h.blk).1 (fun e => own_neM h.rc.own h.blk e.symm)).trans h.blk⟩
theorem Rcx.row {G : Nat} {x : Mf.Mt} {g cap L : Nat} (hL : L = q.length) (h : Rcx w d a lo se ne G x wx (.slice (some ⟨g, 0, none⟩) L cap) q) : wx.ownsRow (w.heap.size + 1) 5 1 (.slice (some ⟨g, 0, none⟩) L cap) L (bc q) := by
  have := h.rc.own
  rw [← hL] at this
  exact this
end

/-- Numbers that are written out. -/
theorem lit_ints (w : World) (xs : List Int) : IzAt (w.alloc (.cells (xs.map (Value.int .i64)).toArray 3)) (.slice (some ⟨w.heap.size, 0, none⟩) xs.length xs.length) xs := by
  refine ⟨⟨_, _, rfl, fun _ => ⟨_, 0, rfl, fun j hj => ?_⟩⟩⟩
  refine (Joins.cell_of_block (World.alloc_heap_new w _) (0 + j)).trans ?_
  simp [hj]

section
variable {w wx : World} {d a : Value} {lo se ne : Int} {va : Option Addr} {vn vc : Nat} {q : List UInt8}
theorem rc_slice (h : Rc w d a lo se ne wx (.slice va vn vc) q) : vn = q.length := by
  rcases h.own.2 with ⟨e, h0⟩ | ⟨g, cap, cur, e, _⟩
  · cases e; exact h0.symm
  · cases e; rfl
theorem ext_some {b : Nat} {w1 w2 : World} {u : Value} {va' : Option Addr} {vn' vc' : Nat} {q' : List UInt8} (x : Ext b w1 u w2 (.slice va' vn' vc') q') (hq : q' ≠ []) : ∃ g, va' = some ⟨g, 0, none⟩ := by
  obtain ⟨g, c, e⟩ := x.some hq
  cases e
  exact ⟨g, rfl⟩
/-- Numbers written out, put behind. -/
theorem lit_nums (h : Rc w d a lo se ne wx (.slice va vn vc) q) (xs : List Int) (hr : ∀ x ∈ xs, 0 ≤ x ∧ x ≤ 4000000000000000000) (hq : q.length ≤ 900000000) (hx0 : q ++ Mf.lebs xs ≠ []) (hxl : xs.length ≤ 100) :
    Calls Tryz.prog 88 #[.slice va vn vc, .slice (some ⟨wx.heap.size, 0, none⟩) xs.length xs.length] (wx.alloc (.cells (xs.map (Value.int .i64)).toArray 3)) fun r w' => ∃ g n c, r = .returned (.slice (some ⟨g, 0, none⟩) n c) ∧ Hid (n = (q ++ Mf.lebs xs).length) ∧ Hid (Ext (w.heap.size + 1) wx (.slice va vn vc) w' (.slice (some ⟨g, 0, none⟩) n c) (q ++ Mf.lebs xs)) := by
  have b1 : Below wx.heap.size wx (wx.alloc (.cells (xs.map (Value.int .i64)).toArray 3)) := (Below.refl _ _).alloc (Nat.le_refl _) _
  have o1 := own_aft h.own b1
  refine (anums_any _ (w.heap.size + 1) va vn vc q _ xs.length xs (rc_slice h) o1 (Nat.le_trans h.low b1.size) (lit_ints wx xs) (fun _ ad e ho => ?_) hr hq (by omega)).mono ?_
  · cases e
    have := (h.own.lt _ ho.symm).2
    simp at this
  · rintro r w' ⟨va', vn', vc', rfl, hn, x⟩
    obtain ⟨g, rfl⟩ := ext_some x hx0
    exact ⟨g, vn', vc', rfl, hn, ext_then b1 x⟩
end
end Go.Proofs.YtlhnjloimhcpfabGreatDoor
