/-
  Proved: for every two tuples a and b the call EncOrder(a, b) returns true and leaves its arguments as they were: the texts of tuples that may be stand in the order of the tuples, are equal just if the tuples are, and are read back as they were.
  Conditions: none beyond the form's own reach.
-/
import Derived.Test.YtbcbdaaaglkjhaaRows
import Derived.Test.YtbcbdaaaglkjhaaLives
import Derived.Test.YtbcbdaaaglkjhaaBack
import Derived.Test.YtbcbdaaaglkjhaaValsArg
import Derived.SizedLaws
import Derived.ProofKit
import Derived.OpenShut
import Derived.ChangeOld
namespace Go.Proofs.Ytbcbdaaaglkjhaa.encOrder
open Go.ChangeShapes Go.WideShapes Go.ChangeAt Go.RowKit
open Go.Proofs.Ytbcbdaaaglkjhaa

theorem own : ownKnob Try.prog.godebug = none := by kernel_rfl

set_option maxHeartbeats 1000000 in
theorem bad (w : World) (va vb : Value) (a b : List Val) (ha : ValsIn w va a) (hb : ValsIn w vb b) (h : (tupE a != 0) = true ∨ (tupE a = 0 ∧ (tupE b != 0) = true)) :
    Calls Try.prog 7 #[va, vb] w fun e w' => e = .returned (.bool true) ∧ Below w.heap.size w w' := by
  obtain ⟨E, hE⟩ : ∃ E, E = tupE a := ⟨_, rfl⟩
  obtain ⟨F, hF⟩ : ∃ F, F = tupE b := ⟨_, rfl⟩
  rw [← hE, ← hF] at h
  have T1 : Hid (∀ wx, Below w.heap.size w wx → Calls Try.prog 10 #[va] wx fun e w' => e = .returned (.tuple #[.string (tupS a), .int .i64 E]) ∧ Below wx.heap.size wx w') := fun wx hw => by rw [hE]; exact tuple_any wx va a (ha.later hw)
  have T2 : Hid (∀ wx, Below w.heap.size w wx → Calls Try.prog 10 #[vb] wx fun e w' => e = .returned (.tuple #[.string (tupS b), .int .i64 F]) ∧ Below wx.heap.size wx w') := fun wx hw => by rw [hF]; exact tuple_any wx vb b (hb.later hw)
  clear hE hF ha hb
  rcases h with h | ⟨rfl, h⟩
  all_goals
    go_enter Try.func7, Try.ntmps7
    go_wp2_with (first
      | (go_at_call 17; refine (lives_any _).mono ?_; rintro e w1 ⟨rfl, hb1⟩)
      | (go_at_call 10; refine (T1.out _ hb1).mono ?_; rintro e w2 ⟨rfl, hb2⟩; have B2 := hb1.trans (hb2.mono hb1.size); clear T1)
      | (go_at_call 10; refine (T2.out _ B2).mono ?_; rintro e w3 ⟨rfl, hb3⟩; have B3 := B2.trans (hb3.mono B2.size); clear T2))
    go_ret
    exact ⟨rfl, B3⟩

set_option maxHeartbeats 2000000 in
theorem good (w : World) (va vb : Value) (a b : List Val) (S T : ByteArray) (c : Int) (ha : ValsIn w va a) (hb : ValsIn w vb b)
    (hS : tupS a = S) (hT : tupS b = T) (hE : tupE a = 0) (hF : tupE b = 0) (hc : cmpL a b = c) (hc' : cmpL b a = -c) (hVS : valsL S.data.toList = a) (hVT : valsL T.data.toList = b) (hES : valsE S.data.toList = 0) (hET : valsE T.data.toList = 0)
    (hsS : S.size ≤ 100000) (hsT : T.size ≤ 100000)
    (h : (c = -1 ∧ Op.bytesLess S.toList T.toList = true ∧ (S.toList == T.toList) = false) ∨ (c = 0 ∧ Op.bytesLess S.toList T.toList = false ∧ (S.toList == T.toList) = true) ∨ (c = 1 ∧ Op.bytesLess S.toList T.toList = false ∧ (S.toList == T.toList) = false)) :
    Calls Try.prog 7 #[va, vb] w fun e w' => e = .returned (.bool true) ∧ Below w.heap.size w w' := by
  have T1 : Hid (∀ wx, Below w.heap.size w wx → Calls Try.prog 10 #[va] wx fun e w' => e = .returned (.tuple #[.string S, .int .i64 0]) ∧ Below wx.heap.size wx w') := fun wx hw => by rw [← hS, ← hE]; exact tuple_any wx va a (ha.later hw)
  have T2 : Hid (∀ wx, Below w.heap.size w wx → Calls Try.prog 10 #[vb] wx fun e w' => e = .returned (.tuple #[.string T, .int .i64 0]) ∧ Below wx.heap.size wx w') := fun wx hw => by rw [← hT, ← hF]; exact tuple_any wx vb b (hb.later hw)
  have C1 : Hid (∀ wx, Below w.heap.size w wx → Calls Try.prog 13 #[va, vb] wx fun e w' => e = .returned (.int .i64 c) ∧ Below wx.heap.size wx w') := fun wx hw => by rw [← hc]; exact compare_any wx va vb a b (ha.later hw) (hb.later hw)
  have C2 : Hid (∀ wx, Below w.heap.size w wx → Calls Try.prog 13 #[vb, va] wx fun e w' => e = .returned (.int .i64 (-c)) ∧ Below wx.heap.size wx w') := fun wx hw => by rw [← hc']; exact compare_any wx vb va b a (hb.later hw) (ha.later hw)
  have V1 : Hid (∀ wx : World, Calls Try.prog 9 #[.string S] wx fun e w' => ∃ v, e = .returned (.tuple #[v, .int .i64 0]) ∧ ValsIn w' v a ∧ Below wx.heap.size wx w') := fun wx => by
    have := encValues_any wx S (by omega)
    rw [hVS, hES] at this; exact this
  have V2 : Hid (∀ wx : World, Calls Try.prog 9 #[.string T] wx fun e w' => ∃ v, e = .returned (.tuple #[v, .int .i64 0]) ∧ ValsIn w' v b ∧ Below wx.heap.size wx w') := fun wx => by
    have := encValues_any wx T (by omega)
    rw [hVT, hET] at this; exact this
  have M1 : Hid (∀ (wx : World) (v : Value), Below w.heap.size w wx → ValsIn wx v a → Calls Try.prog 31 #[v, va] wx fun e w' => e = .returned (.bool true) ∧ Below wx.heap.size wx w') := fun wx v hw hv => by
    have := sameV_any wx v va a a hv (ha.later hw)
    rwa [(sameL_iff a a).mpr rfl] at this
  have M2 : Hid (∀ (wx : World) (v : Value), Below w.heap.size w wx → ValsIn wx v b → Calls Try.prog 31 #[v, vb] wx fun e w' => e = .returned (.bool true) ∧ Below wx.heap.size wx w') := fun wx v hw hv => by
    have := sameV_any wx v vb b b hv (hb.later hw)
    rwa [(sameL_iff b b).mpr rfl] at this
  clear hS hT hE hF hc hc' hVS hVT hES hET hsS hsT ha hb
  rcases h with ⟨rfl, h1, h2⟩ | ⟨rfl, h1, h2⟩ | ⟨rfl, h1, h2⟩
  all_goals
    go_enter Try.func7, Try.ntmps7
    go_wp2_with (first
      | (go_at_call 17; refine (lives_any _).mono ?_; rintro e w1 ⟨rfl, hb1⟩)
      | (go_at_call 10; refine (T1.out _ hb1).mono ?_; rintro e w2 ⟨rfl, hb2⟩; have B2 := hb1.trans (hb2.mono hb1.size); clear T1)
      | (go_at_call 10; refine (T2.out _ B2).mono ?_; rintro e w3 ⟨rfl, hb3⟩; have B3 := B2.trans (hb3.mono B2.size); clear T2)
      | (go_at_call 13; refine (C1.out _ B3).mono ?_; rintro e w4 ⟨rfl, hb4⟩; have B4 := B3.trans (hb4.mono B3.size); clear C1)
      | (go_at_call 13; refine (C2.out _ B4).mono ?_; rintro e w5 ⟨rfl, hb5⟩; have B5 := B4.trans (hb5.mono B4.size); clear C2)
      | (go_at_call 9; refine (V1.out _).mono ?_; rintro e w6 ⟨v6, rfl, hv6, hb6⟩; have B6 := B5.trans (hb6.mono B5.size); clear V1)
      | (go_at_call 9; refine (V2.out _).mono ?_; rintro e w7 ⟨v7, rfl, hv7, hb7⟩; have B7 := B6.trans (hb7.mono B6.size); have hv67 := hv6.later hb7; clear V2)
      | (go_at_call 31; refine (M1.out _ _ B7 hv67).mono ?_; rintro e w8 ⟨rfl, hb8⟩; have B8 := B7.trans (hb8.mono B7.size); have hv78 := hv7.later hb8; clear M1)
      | (go_at_call 31; refine (M2.out _ _ B8 hv78).mono ?_; rintro e w9 ⟨rfl, hb9⟩; have B9 := B8.trans (hb9.mono B8.size); clear M2))
    go_ret
    exact ⟨rfl, B9⟩

theorem walk (w : World) (va vb : Value) (a b : List Val) (ha : ValsIn w va a) (hb : ValsIn w vb b) :
    Calls Try.prog 7 #[va, vb] w fun e w' => e = .returned (.bool true) ∧ Below w.heap.size w w' := by
  rcases tupE_cases a with ⟨e1, l1, m1⟩ | h
  · rcases tupE_cases b with ⟨e2, l2, m2⟩ | h
    · have p1 : ∀ v ∈ a, v.may = true ∧ v.wf := fun v hv => ⟨m1 v hv, ha.wf v hv⟩
      have p2 : ∀ v ∈ b, v.may = true ∧ v.wf := fun v hv => ⟨m2 v hv, hb.wf v hv⟩
      have s1 : tupS a = ⟨(tupB a).toArray⟩ := by unfold tupS; rw [if_pos e1]
      have s2 : tupS b = ⟨(tupB b).toArray⟩ := by unfold tupS; rw [if_pos e2]
      have d1 : (tupS a).data.toList = tupB a := by rw [s1]
      have d2 : (tupS b).data.toList = tupB b := by rw [s2]
      have t1 : (tupS a).toList = tupB a := by rw [ByteArray.toList_eq, d1]
      have t2 : (tupS b).toList = tupB b := by rw [ByteArray.toList_eq, d2]
      have v1 := vals_tup a p1 l1
      have v2 := vals_tup b p2 l2
      have z1 : (tupS a).size ≤ 100000 := by
        rw [s1]; show (tupB a).toArray.size ≤ _
        have := tupB_length a (List.all_eq_true.mpr m1)
        rw [List.size_toArray]; omega
      have z2 : (tupS b).size ≤ 100000 := by
        rw [s2]; show (tupB b).toArray.size ≤ _
        have := tupB_length b (List.all_eq_true.mpr m2)
        rw [List.size_toArray]; omega
      refine good w va vb a b (tupS a) (tupS b) (cmpL a b) ha hb rfl rfl e1 e2 rfl (cmpL_neg a b) (by rw [d1]; unfold valsL; rw [v1]; rfl) (by rw [d2]; unfold valsL; rw [v2]; rfl) (by rw [d1]; unfold valsE; rw [v1]; rfl) (by rw [d2]; unfold valsE; rw [v2]; rfl) z1 z2 ?_
      have hl := tup_less a b p1 p2
      have hl' := tup_less b a p2 p1
      rw [t1, t2]
      rcases cmpL_cases a b with h | h | h
      · refine .inl ⟨h, by rw [hl, h]; rfl, ?_⟩
        rw [beq_eq_false_iff_ne]; intro e; rw [e, bytesLess_irrefl] at hl; rw [h] at hl; cases hl
      · have e := cmpL_zero a b h
        refine .inr (.inl ⟨h, by rw [hl, h]; rfl, by rw [e]; simp⟩)
      · refine .inr (.inr ⟨h, by rw [hl, h]; rfl, ?_⟩)
        rw [cmpL_neg a b, h] at hl'
        rw [beq_eq_false_iff_ne]; intro e; rw [e, bytesLess_irrefl] at hl'; cases hl'
    · exact bad w va vb a b ha hb (.inr ⟨e1, h⟩)
  · exact bad w va vb a b ha hb (.inl h)

theorem laidOut : laidOutB Try.prog = true := by kernel_rfl

set_option maxRecDepth 100000 in
theorem lifted (os : Os) (started : os.Started) (H : Type) (enc : TypeId × Value → H) :
    ReturnsInHanded {} Try.checked os 7 .any (Rows.encOrderSpec.pre6 enc Try.prog Try.f7 Rows.encOrderRow.domain false) (Rows.encOrderSpec.post enc Try.prog Try.f7 false true false false) := by
  refine returnsInHanded_of_change_sized (C := Try.checked) own started (by kernel_rfl) Try.func7
    (ChangeSpec.witness6 (enc := enc) (C := Try.checked) false ⟨#[], #[.slice none 0 0, .slice none 0 0], []⟩ 8 (by kernel_rfl) (by kernel_rfl) (by kernel_rfl) (by kernel_rfl)) ?_
  intro W base args ds gs before hval0 hW hcnd hsz0 _
  have hsz : (DataW.weightsEach Try.prog (Try.f7.params.toList ++ Rows.encOrderSpec.plain.varTypes Try.prog) (ds ++ gs)).all (· ≤ reachBytes) = true := hsz0
  have hval : ∀ (j : Nat) t v, Try.f7.params[j]? = some t → args[j]? = some v → Value.okWide Try.prog W .any base t v := hval0
  have hW' := hW
  obtain ⟨p, q, hA0, hV, rfl, hfz, hnd⟩ := hW
  have hA : DataW.TrodAll enc Try.prog W 0 (fun _ => true) true Try.f7.params.toList args.toList ds p := hA0
  rw [Try.params7] at hA hval hsz
  obtain ⟨v0, vs0, d0, ds0, p0, q0, hargs, rfl, rfl, h0, r0⟩ := trodAll_cons hA
  obtain ⟨v1, vs1, d1, ds1, p1, q1, rfl, rfl, rfl, h1, r1⟩ := trodAll_cons r0
  obtain ⟨rfl, rfl, rfl⟩ := trodAll_nil r1
  obtain rfl : args = #[v0, v1] := by cases args; simp_all
  obtain ⟨rfl, rfl⟩ := trodVars_none hV
  have k0 := h0
  have k1 := h1
  have lt0 : ∀ x ∈ p0, x.block < W.heap.size := by obtain ⟨m, hm⟩ := k0; exact DataW.trod_lt m _ _ _ hm
  have lt1 : ∀ x ∈ p1, x.block < W.heap.size := by obtain ⟨m, hm⟩ := k1; exact DataW.trod_lt m _ _ _ hm
  obtain ⟨a0, len0, cap0, rfl⟩ := okWide_slice Try.underlying24 (hval 0 24 v0 rfl rfl)
  obtain ⟨a1, len1, cap1, rfl⟩ := okWide_slice Try.underlying24 (hval 1 24 v1 rfl rfl)
  obtain ⟨a, _, ha⟩ := vals_in h0 (fun elems spr e => by
    have := sized_slice hsz (j := 0) (t := 24) (e := 32) (elems := elems) (spare := spr) rfl (by rw [e]; rfl) Try.underlying24
    rwa [bytesV] at this)
  obtain ⟨b, _, hb⟩ := vals_in h1 (fun elems spr e => by
    have := sized_slice hsz (j := 1) (t := 24) (e := 32) (elems := elems) (spare := spr) rfl (by rw [e]; rfl) Try.underlying24
    rwa [bytesV] at this)
  clear hA0 hval0
  refine (walk W _ _ a b ha hb).mono fun e W' ⟨he, bel⟩ => ?_
  subst he
  exact ⟨_, rfl, _, _, _, [], _, [], hW', trodAll_mk1 (shut_bool Try.underlying4 _), (trodAll_cons_mk (Below.trod laidOut (by kernel_rfl) (of_decide_eq_true (by kernel_rfl)) k0 bel lt0) (trodAll_cons_mk (Below.trod laidOut (by kernel_rfl) (of_decide_eq_true (by kernel_rfl)) k1 bel lt1) trodAll_mk0)), rfl, bel.frame _, fun h => by cases h⟩

theorem over : Rows.encOrderRow.holds Try.pinned (OpenSpec.ofChange Rows.encOrderSpec) :=
  OpenClaim.holds_of_wide 7 Try.f7 rfl rfl rfl rfl rfl rfl rfl ⟨rfl, rfl, rfl, rfl, rfl⟩ rfl rfl rfl rfl rfl (by kernel_rfl) Try.func7 (by kernel_rfl)
    (of_decide_eq_true (by kernel_rfl)) (by unfold Func.isWrapper; first | (rw [if_pos (by decide +kernel)]; kernel_rfl) | (rw [if_neg (by decide +kernel)]; exact ⟨rfl, rfl⟩))
    (fun os started H enc _ => lifted os started H enc)
end Go.Proofs.Ytbcbdaaaglkjhaa.encOrder

namespace Go.Proofs.Ytbcbdaaaglkjhaa
/-- THE STATEMENT. -/
theorem encOrder_holds : Rows.EncOrderSaid := encOrder.over
#print axioms encOrder_holds
end Go.Proofs.Ytbcbdaaaglkjhaa
