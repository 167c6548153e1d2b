/-
  The iterator over records: what it keeps, and what it hands over, one by one, to whatever loop asks it.
-/
import Derived.Test.YtmhehohiodggcaaKHands
import Derived.Test.YtmhehohiodggcaaFScan
import Derived.Test.YtmhehohiodggcaaKLent
import Derived.Shelf.Abstract
import Derived.Shelf.RegionOpen
import Derived.WalkKit
import Derived.OwnWalkIn
import Derived.TacticsInMore
import Derived.LoopNIn
import Derived.LoopIn
namespace Go.Proofs.Ytmhehohiodggcaa
open Go.RowKit Go.Shelf

set_option maxHeartbeats 800000 in
theorem clone_any (w : World) (a0 : Option Addr) (c0 : Nat) (l : List UInt8) (h : BytesIn w (.slice a0 l.length c0) l) (hn : a0 = none → c0 = 0) :
    Calls Try.prog 38 #[.slice a0 l.length c0] w fun e w' => ∃ ad c, e = .returned (.slice ad l.length c) ∧ Ext w.heap.size w (.slice none 0 0) w' (.slice ad l.length c) l := by
  have keq := fun (w : World) (a : Option Addr) (n c : Nat) => Lib.run_eql_slice_nil (P := Try.prog) w 22 5 a n c 0 0 Try.underlying22
  have L0 := Ext.lit0 w.heap.size w #[] [] 0 (Nat.le_refl _) rfl rfl (by decide)
  have K0 : Below w.heap.size w (w.alloc (.cells #[] 5)) := (Below.refl _ _).alloc (Nat.le_refl _) _
  have V0 := h.later K0
  have hl := h.len
  have hno := bytes_nil_ok h
  clear h
  cases a0 with
  | none =>
    have e := hno rfl
    subst e
    go_enter Try.func38, Try.ntmps38
    go_wp2_with (fail)
    go_ret
    exact ⟨none, 0, rfl, Ext.nil _ _⟩
  | some ad =>
    go_enter Try.func38, Try.ntmps38
    go_wp2_with (at_builtin; refine wpList_copy_bytes _ rfl _ _ rfl w.heap.size w.heap.size l l.length c0 rfl rfl L0.own (some ad) rfl V0 hn hl K0.size ?_; intro g1 cap1 L1 w1 HL1 hx1; have R := L0.trans hx1; clear L0 hx1 V0 K0)
    go_ret
    have e := HL1.out
    subst e
    exact ⟨_, cap1, rfl, R⟩

set_option maxHeartbeats 800000 in
theorem each_any (w : World) (a0 : Option Addr) (c0 : Nat) (l : List UInt8) (h : BytesIn w (.slice a0 l.length c0) l) (hn : a0 = none → c0 = 0) :
    Calls Try.prog 24 #[.slice a0 l.length c0] w fun e w' => ∃ B ad c, e = .returned (.func (.func 39) #[] #[.pointer (some ⟨B, 0, none⟩)]) ∧ Boxed w' B 22 (.slice ad l.length c) ∧ w'.ownsRow w.heap.size 5 1 (.slice ad l.length c) l.length (bc l) ∧ Below w.heap.size w w' := by
  have hmf : ∀ (fn : Fn) (first cap : Array Value) (w : World), (Instr.makeFunc fn first cap).run Try.prog w = .ok (.func fn first cap) w := fun _ _ _ _ => rfl
  have CL : Hid (∀ wx, Below w.heap.size w wx → Calls Try.prog 38 #[.slice a0 l.length c0] wx fun e w' => ∃ ad c, e = .returned (.slice ad l.length c) ∧ Below w.heap.size w w' ∧ w'.ownsRow w.heap.size 5 1 (.slice ad l.length c) l.length (bc l)) := fun wx hw => by
    refine (clone_any wx a0 c0 l (h.later hw) hn).mono ?_
    rintro e w' ⟨ad, c, rfl, hx⟩
    exact ⟨ad, c, rfl, hw.trans ((hx.below (Nat.le_refl _) (by simp [Value.ownBlock])).mono hw.size), own_base hx.own hw.size⟩
  clear h hn
  go_enter Try.func24, Try.ntmps24
  go_wp2_with (go_at_call 38; refine (CL.out _ (Below.refl _ _)).mono ?_; rintro e w1 ⟨ad, c, rfl, b1, o1⟩)
  go_ret
  exact ⟨_, ad, c, rfl, Boxed.new _ _ _, o1.alloc _, b1.alloc b1.size _⟩

/-- The k-th record, as it is handed over, and its place. -/
def tells (l : List UInt8) (k : Nat) (u : Value) (A : World) : Prop := ∃ ad c, u = .slice ad ((scn l).1.getD k []).length c ∧ BytesIn A u ((scn l).1.getD k [])
def told (l : List UInt8) (k : Nat) (u : Value) : Array Value := #[.int .i64 (((plc 0 l).getD k 0 : Nat) : Int), u]

theorem getD_mid {α : Type} (a : List α) (x d : α) (b : List α) : (a ++ x :: b).getD a.length d = x := by
  rw [List.getD_eq_getElem?_getD, List.getElem?_append_right (Nat.le_refl _), Nat.sub_self]
  rfl

theorem yield_deep {m m' : Nat} {L : Nat} {args : Array Value} {A : World} {R : Ending → World → Prop} (h : YieldAt Fence.wide m Try.prog L args A R) : YieldAt Fence.wide m' Try.prog L args A R := by
  obtain ⟨fn, tmps, assign, body, hy, hR⟩ := h
  exact ⟨fn, tmps, assign, body, hy, hR.1, fun c cs _ => hR.2 c cs (fun d hd => by cases hd)⟩

attribute [local go_sem] Oper.semAt_some

set_option maxRecDepth 100000 in
set_option maxHeartbeats 4000000 in
theorem walk_hands (n L n₀ : Nat) (w0 W : World) (a0 : Option Addr) (c0 : Nat) (l : List UInt8) (hb : Below n₀ w0 W) (hin : ∀ A, Below n₀ w0 A → BytesIn A (.slice a0 l.length c0) l) (hc : l.length ≤ c0) (hl : l.length ≤ 1000000000) (hn0 : n₀ ≤ W.heap.size)
    (J Jx : Nat → World → Prop) (hJ : ∀ k A B, J k A → A.grownBy B none → J k B) (hJx : ∀ k A B, Jx k A → A.grownBy B none → Jx k B)
    (hY : ∀ m k u A, k < (scn l).1.length → J k A → tells l k u A → YieldAt Fence.wide m Try.prog L (told l k u) A fun e B => (e = .returned (.bool true) ∧ J (k + 1) B ∧ Below n₀ A B) ∨ (e = .returned (.bool false) ∧ Jx (k + 1) B)) (h0 : J 0 W) :
    CallsIn Fence.wide n Try.prog 33 #[.slice a0 l.length c0, .func (.yield L) #[] #[]] W fun e B => (∃ v, e = .returned v) ∧ (J (scn l).1.length B ∨ ∃ k, k ≤ (scn l).1.length ∧ Jx k B) := by
  have HIN : Hid (∀ A, Below n₀ w0 A → BytesIn A (.slice a0 l.length c0) l) := hin
  have HJ : Hid (∀ k A B, J k A → A.grownBy B none → J k B) := hJ
  have HX : Hid (∀ k A B, Jx k A → A.grownBy B none → Jx k B) := hJx
  have HY : Hid (∀ m k u A, k < (scn l).1.length → J k A → tells l k u A → YieldAt Fence.wide m Try.prog L (told l k u) A fun e B => (e = .returned (.bool true) ∧ J (k + 1) B ∧ Below n₀ A B) ∨ (e = .returned (.bool false) ∧ Jx (k + 1) B)) := hY
  clear hin hJ hJx hY
  refine callsIn_of_wp Try.func33 rfl trivial ?_ rfl
  simp only [Try.ntmps33, List.size_toArray, List.length_cons, List.length_nil, Nat.reduceAdd, Nat.reduceSub, Array.replicate_succ, Array.replicate_zero, List.push_toArray, List.append_toArray, List.nil_append, List.cons_append]
  rw [wpIn_wide]
  go_wp2_with (fail)
  go_step3
  go_wp2_with (fail)
  go_step3
  go_wp2_with (fail)
  rw [← wpIn_wide (n := n)]
  gi_loopw [4, 5] (fun i ev wr => ∃ (p : Nat) (rs : List (List UInt8)) (pre : List Nat), p ≤ l.length ∧ i = .int .i64 p ∧ ev = .int .i64 0 ∧ J rs.length wr ∧ Below n₀ w0 wr ∧ n₀ ≤ wr.heap.size ∧ Hid ((scn l).1 = rs ++ (scn (l.drop p)).1) ∧ Hid (plc 0 l = pre ++ plc p (l.drop p)) ∧ Hid (pre.length = rs.length)) (fun i _ _ => l.length - (intOf i).toNat)
  case atStart => exact ⟨0, [], [], Nat.zero_le _, rfl, rfl, h0, hb, hn0, by simp [Hid], by simp [Hid], rfl⟩
  case round =>
    obtain ⟨p, rs, pre, hp, rfl, rfl, hj, hw2, z2, HS, HP, HL⟩ := hrel
    clear h0 hb hn0
    by_cases hlt : p < l.length
    · have hin2 := HIN.out wr hw2
      have hin3 := hin2
      obtain ⟨⟨a', c', e', hf⟩, _⟩ := hin3
      simp only [Value.slice.injEq, true_and] at e'
      obtain ⟨rfl, rfl⟩ := e'
      obtain ⟨b, off, rfl, _⟩ := hf (by intro e; rw [e] at hlt; simp at hlt)
      clear hf
      have hdl : (l.drop p).length = l.length - p := List.length_drop
      have RD : Hid (∀ m c, m = l.length - p → c = c0 - p → Calls Try.prog 10 #[.slice (some ⟨b, off + p, none⟩) m c] wr fun e w' => ∃ ad cp, e = .returned (.tuple #[.slice ad (rdR (l.drop p)).length cp, .int .i64 ((rdN (l.drop p) : Nat) : Int), .int .i64 (rdE (l.drop p))]) ∧ Below n₀ w0 w' ∧ n₀ ≤ w'.heap.size ∧ J rs.length w' ∧ BytesIn w' (.slice ad (rdR (l.drop p)).length cp) (rdR (l.drop p))) := fun m c hm hc' => by
        subst hm hc'
        have hpart := hin2.part p (l.length - p) (by omega) (c0 - p)
        rw [List.take_of_length_le (by omega)] at hpart
        have := fread_any wr (some ⟨b, off + p, none⟩) (c0 - p) (l.drop p) (by rw [hdl]; exact hpart) (by omega)
        rw [hdl] at this
        refine this.mono ?_
        rintro e w' ⟨u, rfl, hx⟩
        have hrl : (rdR (l.drop p)).length ≤ 140737488355328 := by
          unfold rdR
          split
          · unfold opnL
            split
            · rw [List.length_take, List.length_take, List.length_drop, hdl]; omega
            · simp
          · simp
        have hbb := hx.below (Nat.le_refl _) (by simp [Value.ownBlock])
        obtain ⟨ad, cp, rfl⟩ := hx.shape
        exact ⟨ad, cp, rfl, hw2.trans (hbb.mono z2), Nat.le_trans z2 hbb.size, HJ.out _ _ _ hj hx.grown, bytes_of_own hx.own hrl⟩
      have k5 : ¬ (c0 = p) := by omega
      have k6 : (p : Int) ≤ (c0 : Int) := by omega
      by_cases he : rdE (l.drop p) = 0
      · have hN := rdN_pos he
        have hS := HS.out
        have hP := HP.out
        rw [scn_good _ he] at hS
        rw [plc_good _ _ he] at hP
        have hkN : rs.length < (scn l).1.length := by rw [hS, List.length_append, List.length_cons]; omega
        have eR : (scn l).1.getD rs.length [] = rdR (l.drop p) := by rw [hS]; exact getD_mid _ _ _ _
        have eP : (plc 0 l).getD rs.length 0 = p := by rw [hP, ← HL.out]; exact getD_mid _ _ _ _
        have YY : Hid (∀ A ad cp, J rs.length A → BytesIn A (.slice ad (rdR (l.drop p)).length cp) (rdR (l.drop p)) → YieldAt Fence.wide (n - 1) Try.prog L #[.int .i64 (p : Int), .slice ad (rdR (l.drop p)).length cp] A fun e B => (e = .returned (.bool true) ∧ J (rs.length + 1) B ∧ Below n₀ A B) ∨ (e = .returned (.bool false) ∧ Jx (rs.length + 1) B)) := fun A ad cp h1 h2 => by
          have := HY.out (n - 1) rs.length (.slice ad (rdR (l.drop p)).length cp) A hkN h1 ⟨ad, cp, by rw [eR], by rw [eR]; exact h2⟩
          unfold told at this
          rw [eP] at this
          exact this
        have HS2 : Hid ((scn l).1 = (rs ++ [rdR (l.drop p)]) ++ (scn (l.drop (p + rdN (l.drop p)))).1) := by
          show _ = _
          rw [hS, List.drop_drop, List.append_assoc]
          rfl
        have HP2 : Hid (plc 0 l = (pre ++ [p]) ++ plc (p + rdN (l.drop p)) (l.drop (p + rdN (l.drop p)))) := by
          show _ = _
          rw [hP, List.drop_drop, List.append_assoc]
          rfl
        have HL2 : Hid ((pre ++ [p]).length = (rs ++ [rdR (l.drop p)]).length) := by show _ = _; rw [List.length_append, List.length_append, HL.out]; rfl
        have HK : Hid (rs.length + 1 = (rs ++ [rdR (l.drop p)]).length) := by show _ = _; rw [List.length_append]; rfl
        obtain ⟨R, hRe⟩ : ∃ R, R = rdR (l.drop p) := ⟨_, rfl⟩
        obtain ⟨N, hNe⟩ : ∃ N, N = rdN (l.drop p) := ⟨_, rfl⟩
        rw [he] at RD
        rw [← hRe, ← hNe] at RD HS2
        rw [← hNe] at HP2
        rw [← hRe] at YY HL2 HK
        rw [← hNe, hdl] at hN
        clear he HS HP HL hRe hNe hin2 hS hP eR eP HIN HY hj
        gi_wp2_with (first
          | (refine ⟨trivial, (fun h => by cases h), ?_⟩; gi_at_call 10; refine (callsIn_wide.2 (RD.out _ _ (by omega) (by omega))).mono ?_; rintro e w1 ⟨ad, cp, rfl, b1, z1, j1, V1⟩; obtain ⟨yf, yt, ya, yb, hy, hR⟩ := YY.out _ _ _ j1 V1; clear RD YY))
        refine ⟨(fun h => by cases h), hR.mono ?_⟩
        rintro e W3 (⟨rfl, hJ3, hk3⟩ | ⟨rfl, hJx3⟩)
        · gi_wp2_with (fail)
          rw [HK.out] at hJ3
          exact ⟨⟨p + N, rs ++ [R], pre ++ [p], by omega, by go_num, rfl, hJ3, b1.trans hk3, Nat.le_trans z1 hk3.size, HS2, HP2, HL2⟩, by simp [intOf]; omega⟩
        · gi_wp2_with (fail)
          go_wp2_with (fail)
          rw [Exit.noGoto_ret]
          go_ret2
          exact ⟨⟨_, rfl⟩, .inr ⟨rs.length + 1, hkN, hJx3⟩⟩
      · have HE : Hid ((scn l).1 = rs) := by
          show _ = _
          rw [HS.out, scn_bad _ (by intro e; rw [e] at hdl; simp at hdl; omega) he, List.append_nil]
        obtain ⟨E, hEe⟩ : ∃ E, E = rdE (l.drop p) := ⟨_, rfl⟩
        rw [← hEe] at RD he
        clear HS HP hEe hin2 HIN HY hj
        have k7 : (E != 0) = true := by simp; exact he
        gi_wp2_with (first
          | (refine ⟨trivial, (fun h => by cases h), ?_⟩; gi_at_call 10; refine (callsIn_wide.2 (RD.out _ _ (by omega) (by omega))).mono ?_; rintro e w1 ⟨ad, cp, rfl, b1, z1, j1, V1⟩; clear RD))
        go_wp2_with (fail)
        rw [Exit.noGoto_ret]
        go_ret2
        rw [HE.out]
        exact ⟨⟨_, rfl⟩, .inl j1⟩
    · have e : p = l.length := by omega
      subst e
      have HE : Hid ((scn l).1 = rs) := by
        show _ = _
        rw [HS.out, List.drop_length, scn_nil, List.append_nil]
      clear HS HP HIN HY
      gi_wp2_with (fail)
      go_wp2_with (fail)
      rw [Exit.noGoto_ret]
      go_ret2
      rw [HE.out]
      exact ⟨⟨_, rfl⟩, .inl hj⟩

set_option maxRecDepth 100000 in
set_option maxHeartbeats 2000000 in
/-- THE ITERATOR's WORD: the records that Scan tells, one by one, each in new memory, each with the place of its frame; it stops where it is told to. -/
theorem each_hands (n n₀ B : Nat) (w0 : World) (ad : Option Addr) (c : Nat) (l : List UInt8) (hbox : Boxed w0 B 22 (.slice ad l.length c)) (hBn : B < n₀) (hn : n₀ ≤ w0.heap.size) (hin : ∀ A, Below n₀ w0 A → BytesIn A (.slice ad l.length c) l) (hc : l.length ≤ c) (hl : l.length ≤ 1000000000) :
    Hands Fence.wide n Try.prog 39 #[.pointer (some ⟨B, 0, none⟩)] (scn l).1.length n₀ (told l) (tells l) w0 := by
  intro L J Jx W hb hJ hJx hY h0
  have c1 : W.cell? ⟨B, 0, none⟩ = some (.slice ad l.length c) := (hb.cell (p := ⟨B, 0, none⟩) hBn).trans hbox.cell
  have WH := walk_hands (n - 1) L n₀ w0 W ad c l hb hin hc hl (Nat.le_trans hn hb.size) J Jx hJ hJx (fun m k u A hk hj ht => yield_deep (hY k u A hk hj ht)) h0
  have HW : Hid (CallsIn Fence.wide (n - 1) Try.prog 33 #[.slice ad l.length c, .func (.yield L) #[] #[]] W fun e B => (∃ v, e = .returned v) ∧ (J (scn l).1.length B ∨ ∃ k, k ≤ (scn l).1.length ∧ Jx k B)) := WH
  clear WH hY hJ hJx hin hbox h0
  refine callsIn_of_wp Try.func39 rfl trivial ?_ rfl
  simp only [Try.ntmps39, List.size_toArray, List.length_cons, List.length_nil, Nat.reduceAdd, Nat.reduceSub, Array.replicate_succ, Array.replicate_zero, List.push_toArray, List.append_toArray, List.nil_append, List.cons_append]
  gi_wp2_with (first
    | (refine ⟨trivial, (fun h => by cases h), ?_⟩; gi_at_call 33; refine HW.out.mono ?_; rintro e w1 ⟨⟨v1, rfl⟩, h1⟩; clear HW))
  go_end0
  exact ⟨⟨_, rfl⟩, h1⟩
end Go.Proofs.Ytmhehohiodggcaa
