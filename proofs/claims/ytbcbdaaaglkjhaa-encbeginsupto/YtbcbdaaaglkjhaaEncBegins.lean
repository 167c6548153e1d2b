/-
  Proved: for every tuple a, values behind it, and another tuple b the call EncBegins(a, more, b) returns true and leaves its arguments as they were: the tuple's own text and that with the values behind are in its span, and b's text is just if b begins with a.
  Conditions: what comes in is together of bulk at most 1,048,576 (the Upto form's own bound).
-/
import Derived.Test.YtbcbdaaaglkjhaaRows
import Derived.Test.YtbcbdaaaglkjhaaLives
import Derived.Test.YtbcbdaaaglkjhaaBegins
import Derived.Test.YtbcbdaaaglkjhaaBulk
import Derived.ProofKit
import Derived.OpenShut
import Derived.ChangeOld
import Derived.JoinedCond
namespace Go.Proofs.Ytbcbdaaaglkjhaa.encBegins
open Go.ChangeShapes Go.WideShapes Go.ChangeAt Go.RowKit
open Go.Proofs.Ytbcbdaaaglkjhaa

theorem own : ownKnob Try.prog.godebug = none := by kernel_rfl

theorem extract_list (t : ByteArray) (n : Nat) : (t.extract 0 n).toList = t.data.toList.take n := by
  rw [ByteArray.toList_eq, Lib.extract_data]; simp

set_option maxHeartbeats 2000000 in
theorem walk_bad (w : World) (a0 a1 a2 : Option Addr) (c0 c1 c2 : Nat) (a m b : List Val) (ha : ValsIn w (.slice a0 a.length c0) a) (hm : ValsIn w (.slice a1 m.length c1) m) (hb : ValsIn w (.slice a2 b.length c2) b) (n0 : a0 = none → c0 = 0) (n1 : a1 = none → c1 = 0)
    (hl : a.length + m.length ≤ 1048576) (S A T U : ByteArray) (E G F : Int) (hE : E = tupE a) (hS : S = tupS a) (hA : A = begA a) (hT : T = tupS (a ++ m)) (hG : G = tupE (a ++ m)) (hU : U = tupS b) (hF : F = tupE b) (h : (E != 0) = true) :
    Calls Try.prog 8 #[.slice a0 a.length c0, .slice a1 m.length c1, .slice a2 b.length c2] w fun e w' => e = .returned (.bool true) ∧ Below w.heap.size w w' := by
  have P1 : Hid (∀ wx, Below w.heap.size w wx → Calls Try.prog 28 #[.slice a0 a.length c0] wx fun e w' => e = .returned (.tuple #[.agg #[.string S, .string A], .int .i64 E]) ∧ Below wx.heap.size wx w') := fun wx hw => by rw [hE, hS, hA]; exact begins_any wx _ a (ha.later hw)
  have T1 : Hid (∀ wx, Below w.heap.size w wx → Calls Try.prog 10 #[.slice a0 a.length c0] wx fun e w' => e = .returned (.tuple #[.string S, .int .i64 E]) ∧ Below wx.heap.size wx w') := fun wx hw => by rw [hE, hS]; exact tuple_any wx _ a (ha.later hw)
  have T2 : Hid (∀ wx v, ValsIn wx v (a ++ m) → Calls Try.prog 10 #[v] wx fun e w' => e = .returned (.tuple #[.string T, .int .i64 G]) ∧ Below wx.heap.size wx w') := fun wx v hv => by rw [hG, hT]; exact tuple_any wx _ _ hv
  have T3 : Hid (∀ wx, Below w.heap.size w wx → Calls Try.prog 10 #[.slice a2 b.length c2] wx fun e w' => e = .returned (.tuple #[.string U, .int .i64 F]) ∧ Below wx.heap.size wx w') := fun wx hw => by rw [hU, hF]; exact tuple_any wx _ b (hb.later hw)
  have LA : Hid (∀ wx, Below w.heap.size w wx → ValsIn wx (.slice a0 a.length c0) a) := fun wx hw => ha.later hw
  have LM : Hid (∀ wx, Below w.heap.size w wx → ValsIn wx (.slice a1 m.length c1) m) := fun wx hw => hm.later hw
  have WF : Hid (∀ x ∈ a ++ m, x.wf) := fun x hx => by
    rcases List.mem_append.mp hx with h | h
    · exact ha.wf x h
    · exact hm.wf x h
  clear hE hS hA hT hG hU hF ha hm hb
  go_enter Try.func8, Try.ntmps8
  go_wp2_with (first
    | (go_at_call 17; refine (lives_any _).mono ?_; rintro e w1 ⟨rfl, B1⟩)
    | (go_at_call 28; refine (P1.out _ B1).mono ?_; rintro e w2 ⟨rfl, hb2⟩; have B2 := B1.trans (hb2.mono B1.size); have B2' := fun o => B2.alloc B2.size o; clear P1)
    | (go_at_call 10; refine (T1.out _ (B2' _)).mono ?_; rintro e w3 ⟨rfl, hb3⟩; have B3 := (B2' _).trans (hb3.mono (by have := B2.size; simp; omega)); obtain ⟨q0, q1, _, _, q4⟩ := two_slot hb3; have O1 := World.ownsRow_lit (size := 3) (e := 32) (base := w.heap.size) w3 #[] 0 B3.size (by decide) rfl; have B3' := B3.alloc B3.size (.cells #[] 32); have K3 : Below w3.heap.size w3 (w3.alloc (.cells #[] 32)) := (Below.refl _ _).alloc (Nat.le_refl _) _; have Y3 : ([] : List Val).length + a.length ≤ 4398046511104 := (by rw [List.length_nil]; omega); have Y4 : (([] : List Val) ++ a).length + m.length ≤ 4398046511104 := (by rw [List.nil_append]; omega); have Y5 : (a ++ m).length ≤ 1099511627776000 := (by rw [List.length_append]; omega); clear T1 B2')
    | (at_builtin; refine wpList_append_vals _ rfl _ _ rfl w.heap.size w3.heap.size 0 [] a 0 a.length c0 rfl rfl rfl O1 a0 rfl (LA.out _ B3') n0 Y3 B3'.size ?_; intro g4 cap4 w4 L4 h4 o4 f4; obtain ⟨K4, X4⟩ := f4 w3.heap.size w3 K3 K3.size (Nat.le_refl _); have B4 := B3.trans (K4.mono B3.size); have H4 : Hid (L4 = (([] : List Val) ++ a).length) := h4; clear O1 LA h4)
    | (at_builtin; refine wpList_append_vals _ rfl _ _ rfl w.heap.size g4 cap4 ([] ++ a) m L4 m.length c1 H4.out rfl rfl o4 a1 rfl (LM.out _ B4) n1 Y4 B4.size ?_; intro g5 cap5 w5 L5 h5 o5 f5; have K5 := (f5 w3.heap.size w3 K4 K4.size X4).1; have V5 : ValsIn w5 (.slice (some ⟨g5, 0, none⟩) L5 cap5) (a ++ m) := (by rw [List.nil_append] at h5 o5; subst h5; exact vals_of_own o5 WF.out Y5); clear o4 o5 LM WF h5 f5)
    | (go_at_call 10; refine (T2.out _ _ V5).mono ?_; rintro e w6 ⟨rfl, hb6⟩; have K6 := K5.trans (hb6.mono K5.size); have B6 := B3.trans (K6.mono B3.size); clear T2 V5)
    | (go_at_call 10; refine (T3.out _ B6).mono ?_; rintro e w7 ⟨rfl, hb7⟩; have K7 := K6.trans (hb7.mono K6.size); have B7 := B3.trans (K7.mono B3.size); have p0 := (K7.cell (p := ⟨w2.heap.size, 0, none⟩) q4).trans q0; have p1 := (K7.cell (p := ⟨w2.heap.size, 1, none⟩) q4).trans q1; clear T3))
  go_ret
  exact ⟨rfl, B7⟩

set_option maxHeartbeats 8000000 in
theorem walk_good (w : World) (a0 a1 a2 : Option Addr) (c0 c1 c2 : Nat) (a m b : List Val) (ha : ValsIn w (.slice a0 a.length c0) a) (hm : ValsIn w (.slice a1 m.length c1) m) (hb : ValsIn w (.slice a2 b.length c2) b) (n0 : a0 = none → c0 = 0) (n1 : a1 = none → c1 = 0)
    (hl : a.length + m.length ≤ 1048576) (S A T U : ByteArray) (E G F : Int) (hE : E = tupE a) (hS : S = tupS a) (hA : A = begA a) (hT : T = tupS (a ++ m)) (hG : G = tupE (a ++ m)) (hU : U = tupS b) (hF : F = tupE b) (n2 : b.length ≤ c2) (_n3 : a2 = none → c2 = 0) (fst sm : Bool)
    (hfs : (U.size < S.size ∧ fst = false) ∨ (S.size ≤ U.size ∧ ((U.extract 0 S.size).toList == S.toList) = fst))
    (hsam : (b.length < a.length ∧ sm = false) ∨ (a.length ≤ b.length ∧ sameL (b.take a.length) a = sm))
    (h0 : E = 0) (hi : inB S.toList S.toList A.toList = true) (I2 : Hid (G = 0 → inB T.toList S.toList A.toList = true)) (I3 : Hid (F = 0 → inB U.toList S.toList A.toList = fst)) (I4 : Hid (F = 0 → fst = sm)) :
    Calls Try.prog 8 #[.slice a0 a.length c0, .slice a1 m.length c1, .slice a2 b.length c2] w fun e w' => e = .returned (.bool true) ∧ Below w.heap.size w w' := by
  have P1 : Hid (∀ wx, Below w.heap.size w wx → Calls Try.prog 28 #[.slice a0 a.length c0] wx fun e w' => e = .returned (.tuple #[.agg #[.string S, .string A], .int .i64 E]) ∧ Below wx.heap.size wx w') := fun wx hw => by rw [hE, hS, hA]; exact begins_any wx _ a (ha.later hw)
  have T1 : Hid (∀ wx, Below w.heap.size w wx → Calls Try.prog 10 #[.slice a0 a.length c0] wx fun e w' => e = .returned (.tuple #[.string S, .int .i64 E]) ∧ Below wx.heap.size wx w') := fun wx hw => by rw [hE, hS]; exact tuple_any wx _ a (ha.later hw)
  have T2 : Hid (∀ wx v, ValsIn wx v (a ++ m) → Calls Try.prog 10 #[v] wx fun e w' => e = .returned (.tuple #[.string T, .int .i64 G]) ∧ Below wx.heap.size wx w') := fun wx v hv => by rw [hG, hT]; exact tuple_any wx _ _ hv
  have T3 : Hid (∀ wx, Below w.heap.size w wx → Calls Try.prog 10 #[.slice a2 b.length c2] wx fun e w' => e = .returned (.tuple #[.string U, .int .i64 F]) ∧ Below wx.heap.size wx w') := fun wx hw => by rw [hU, hF]; exact tuple_any wx _ b (hb.later hw)
  have IN : Hid (∀ wx (k : ByteArray) (r : Bool), inB k.toList S.toList A.toList = r → Calls Try.prog 15 #[.string k, .agg #[.string S, .string A]] wx fun e w' => e = .returned (.bool r) ∧ Below wx.heap.size wx w') := fun wx k r hr => by
    refine (in_any wx k S A).mono ?_
    rintro e w' ⟨rfl, rfl⟩
    exact ⟨by rw [hr], (Below.refl _ _).alloc (Nat.le_refl _) _⟩
  have I1 : Hid (inB S.toList S.toList A.toList = true) := hi
  have SV : Hid (∀ wx, Below w.heap.size w wx → ∀ c, a.length ≤ b.length → Calls Try.prog 31 #[.slice a2 a.length c, .slice a0 a.length c0] wx fun e w' => e = .returned (.bool (sameL (b.take a.length) a)) ∧ Below wx.heap.size wx w') := fun wx hw c hle =>
    sameV_any wx _ _ _ _ (ValsIn.take (hb.later hw) c hle) (ha.later hw)
  have LA : Hid (∀ wx, Below w.heap.size w wx → ValsIn wx (.slice a0 a.length c0) a) := fun wx hw => ha.later hw
  have LM : Hid (∀ wx, Below w.heap.size w wx → ValsIn wx (.slice a1 m.length c1) m) := fun wx hw => hm.later hw
  have WF : Hid (∀ x ∈ a ++ m, x.wf) := fun x hx => by
    rcases List.mem_append.mp hx with h | h
    · exact ha.wf x h
    · exact hm.wf x h
  have zS : S.size ≤ 100000 := by rw [hS]; exact tupS_small a
  have zU : U.size ≤ 100000 := by rw [hU]; exact tupS_small b
  have zb := hb.len
  have hb0 : a2 = none → b.length = 0 := fun e => by
    obtain ⟨⟨a', cap', e', hf⟩, _, _⟩ := hb
    cases b with
    | nil => rfl
    | cons x r =>
      obtain ⟨_, _, h, _⟩ := hf (by simp)
      simp only [Value.slice.injEq] at e'
      rw [e'.1, h] at e; cases e
  clear hE hS hA hT hG hU hF ha hm hb hi
  subst h0
  rcases hfs with ⟨hf1, rfl⟩ | ⟨hf1, hf2⟩ <;> rcases hsam with ⟨hs1, rfl⟩ | ⟨hs1, hs2⟩
  all_goals
    go_enter Try.func8, Try.ntmps8
    go_wp2_with (first
      | (go_at_call 17; refine (lives_any _).mono ?_; rintro e w1 ⟨rfl, B1⟩)
      | (go_at_call 28; refine (P1.out _ B1).mono ?_; rintro e w2 ⟨rfl, hb2⟩; have B2 := B1.trans (hb2.mono B1.size); have B2' := fun o => B2.alloc B2.size o; clear P1)
      | (go_at_call 10; refine (T1.out _ (B2' _)).mono ?_; rintro e w3 ⟨rfl, hb3⟩; have B3 := (B2' _).trans (hb3.mono (by have := B2.size; simp; omega)); obtain ⟨q0, q1, _, _, q4⟩ := two_slot hb3; have O1 := World.ownsRow_lit (size := 3) (e := 32) (base := w.heap.size) w3 #[] 0 B3.size (by decide) rfl; have B3' := B3.alloc B3.size (.cells #[] 32); have K3 : Below w3.heap.size w3 (w3.alloc (.cells #[] 32)) := (Below.refl _ _).alloc (Nat.le_refl _) _; have Y3 : ([] : List Val).length + a.length ≤ 4398046511104 := (by rw [List.length_nil]; omega); have Y4 : (([] : List Val) ++ a).length + m.length ≤ 4398046511104 := (by rw [List.nil_append]; omega); have Y5 : (a ++ m).length ≤ 1099511627776000 := (by rw [List.length_append]; omega); clear T1 B2')
      | (at_builtin; refine wpList_append_vals _ rfl _ _ rfl w.heap.size w3.heap.size 0 [] a 0 a.length c0 rfl rfl rfl O1 a0 rfl (LA.out _ B3') n0 Y3 B3'.size ?_; intro g4 cap4 w4 L4 h4 o4 f4; obtain ⟨K4, X4⟩ := f4 w3.heap.size w3 K3 K3.size (Nat.le_refl _); have B4 := B3.trans (K4.mono B3.size); have H4 : Hid (L4 = (([] : List Val) ++ a).length) := h4; clear O1 LA h4)
      | (at_builtin; refine wpList_append_vals _ rfl _ _ rfl w.heap.size g4 cap4 ([] ++ a) m L4 m.length c1 H4.out rfl rfl o4 a1 rfl (LM.out _ B4) n1 Y4 B4.size ?_; intro g5 cap5 w5 L5 h5 o5 f5; have K5 := (f5 w3.heap.size w3 K4 K4.size X4).1; have V5 : ValsIn w5 (.slice (some ⟨g5, 0, none⟩) L5 cap5) (a ++ m) := (by rw [List.nil_append] at h5 o5; subst h5; exact vals_of_own o5 WF.out Y5); clear o4 o5 LM WF h5 f5)
      | (go_at_call 10; refine (T2.out _ _ V5).mono ?_; rintro e w6 ⟨rfl, hb6⟩; have K6 := K5.trans (hb6.mono K5.size); have B6 := B3.trans (K6.mono B3.size); clear T2 V5)
      | (go_at_call 10; refine (T3.out _ B6).mono ?_; rintro e w7 ⟨rfl, hbx⟩; have KL := K6; have KL := KL.trans (hbx.mono KL.size); have p0 := (KL.cell (p := ⟨w2.heap.size, 0, none⟩) q4).trans q0; have p1 := (KL.cell (p := ⟨w2.heap.size, 1, none⟩) q4).trans q1; clear T3)
      | (go_at_call 15; have J := I1.out; refine (IN.out _ _ _ J).mono ?_; rintro e w8 ⟨rfl, hbx⟩; have KL := KL.trans (hbx.mono KL.size); have p0 := (KL.cell (p := ⟨w2.heap.size, 0, none⟩) q4).trans q0; have p1 := (KL.cell (p := ⟨w2.heap.size, 1, none⟩) q4).trans q1; clear I1 J)
      | (go_at_call 15; have J := I2.out (by assumption); refine (IN.out _ _ _ J).mono ?_; rintro e w9 ⟨rfl, hbx⟩; have KL := KL.trans (hbx.mono KL.size); have p0 := (KL.cell (p := ⟨w2.heap.size, 0, none⟩) q4).trans q0; have p1 := (KL.cell (p := ⟨w2.heap.size, 1, none⟩) q4).trans q1; clear I2 J)
      | (go_at_call 15; have J := I3.out (by assumption); refine (IN.out _ _ _ J).mono ?_; rintro e w10 ⟨rfl, hbx⟩; have KL := KL.trans (hbx.mono KL.size); have p0 := (KL.cell (p := ⟨w2.heap.size, 0, none⟩) q4).trans q0; have p1 := (KL.cell (p := ⟨w2.heap.size, 1, none⟩) q4).trans q1; clear I3 J)
      | (go_at_call 31; refine (SV.out _ (B3.trans (KL.mono B3.size)) _ hs1).mono ?_; rintro e w11 ⟨rfl, hbx⟩; have KL := KL.trans (hbx.mono KL.size); have p0 := (KL.cell (p := ⟨w2.heap.size, 0, none⟩) q4).trans q0; have p1 := (KL.cell (p := ⟨w2.heap.size, 1, none⟩) q4).trans q1; clear SV))
    all_goals go_ret
    all_goals refine ⟨?_, B3.trans (KL.mono B3.size)⟩
    all_goals first | rfl | (have J4 := I4.out (by assumption); subst J4; first | rfl | (simp; done))

theorem prefix_of (s t : ByteArray) (h : s.size ≤ t.size) : s.data.toList.isPrefixOf t.data.toList = ((t.extract 0 s.size).toList == s.toList) := by
  rw [isPrefixOf_take, extract_list, ba_length, ba_length, ByteArray.toList_eq]
  simp [h]

theorem tupS_data (a : List Val) (h : tupE a = 0) : (tupS a).data.toList = tupB a := by unfold tupS; rw [if_pos h]

theorem walk (w : World) (a0 a1 a2 : Option Addr) (c0 c1 c2 : Nat) (a m b : List Val) (ha : ValsIn w (.slice a0 a.length c0) a) (hm : ValsIn w (.slice a1 m.length c1) m) (hb : ValsIn w (.slice a2 b.length c2) b) (n0 : a0 = none → c0 = 0) (n1 : a1 = none → c1 = 0)
    (hl : a.length + m.length ≤ 1048576) (n2 : b.length ≤ c2) (n3 : a2 = none → c2 = 0) :
    Calls Try.prog 8 #[.slice a0 a.length c0, .slice a1 m.length c1, .slice a2 b.length c2] w fun e w' => e = .returned (.bool true) ∧ Below w.heap.size w w' := by
  rcases tupE_cases a with ⟨e1, l1, m1⟩ | h
  · have hA : (begA a).toList = aft (tupS a).data.toList := by unfold begA; rw [ByteArray.toList_eq]
    have hin : ∀ k : ByteArray, inB k.toList (tupS a).toList (begA a).toList = (tupS a).data.toList.isPrefixOf k.data.toList := fun k => by
      rw [hA, ByteArray.toList_eq, ByteArray.toList_eq]; exact in_aft _ _
    have d1 := tupS_data a e1
    refine walk_good w a0 a1 a2 c0 c1 c2 a m b ha hm hb n0 n1 hl (tupS a) (begA a) (tupS (a ++ m)) (tupS b) (tupE a) (tupE (a ++ m)) (tupE b) rfl rfl rfl rfl rfl rfl rfl n2 n3 ((tupS a).data.toList.isPrefixOf (tupS b).data.toList) (decide (a.length ≤ b.length) && sameL (b.take a.length) a) ?_ ?_ e1 ?_ ?_ ?_ ?_
    · by_cases h : (tupS a).size ≤ (tupS b).size
      · exact .inr ⟨h, (prefix_of _ _ h).symm⟩
      · refine .inl ⟨by omega, ?_⟩
        rw [isPrefixOf_take, ba_length, ba_length]
        simp [h]
    · by_cases h : a.length ≤ b.length
      · exact .inr ⟨h, by simp [h]⟩
      · exact .inl ⟨by omega, by simp [h]⟩
    · rw [hin, List.isPrefixOf_iff_prefix]; exact List.prefix_refl _
    · intro h
      rw [hin, List.isPrefixOf_iff_prefix, d1, tupS_data _ h, tupB_append]
      exact List.prefix_append _ _
    · intro _; exact hin _
    · intro h
      rcases tupE_cases b with ⟨e2, l2, m2⟩ | h2
      · rw [Bool.eq_iff_iff, List.isPrefixOf_iff_prefix, d1, tupS_data b e2, tup_prefix a b (fun v hv => ⟨m1 v hv, ha.wf v hv⟩) (fun v hv => ⟨m2 v hv, hb.wf v hv⟩), Bool.and_eq_true, decide_eq_true_eq, same_prefix]
        exact ⟨fun h => ⟨h.length_le, h⟩, fun h => h.2⟩
      · simp [h] at h2
  · exact walk_bad w a0 a1 a2 c0 c1 c2 a m b ha hm hb n0 n1 hl (tupS a) (begA a) (tupS (a ++ m)) (tupS b) (tupE a) (tupE (a ++ m)) (tupE b) rfl rfl rfl rfl rfl rfl rfl h

theorem laidOut : laidOutB Try.prog = true := by kernel_rfl

theorem contract (H : Type) (enc : TypeId × Value → H) (W : World) (base : Nat) (args : Array Value) (ds gs : List (DataW H)) (before : List MemPlace)
    (hval : ∀ (j : Nat) t v, Try.f8.params[j]? = some t → args[j]? = some v → Value.okWide Try.prog W .any base t v)
    (hW : DataW.Whole enc Try.prog Try.f8.params.toList Rows.encBeginsSpec.vars false W args.toList ds gs before) (hk : Rows.uptoSmall H (ds ++ gs) = true) :
    Calls Try.prog 8 args W fun e W' => ∃ v, e = .returned v ∧ Rows.encBeginsSpec.post enc Try.prog Try.f8 false true false false W args v W' := by
  have hW' := hW
  obtain ⟨p, q, hA0, hV, rfl, hfz, hnd⟩ := hW
  have hA : DataW.TrodAll enc Try.prog W 0 (fun _ => true) true Try.f8.params.toList args.toList ds p := hA0
  rw [Try.params8] at hA hval
  obtain ⟨v0, vs0, d0, ds0, p0, q0, hargs, rfl, rfl, h0, r0⟩ := trodAll_cons hA
  obtain ⟨v1, vs1, d1, ds1, p1, q1, rfl, rfl, rfl, h1, r1⟩ := trodAll_cons r0
  obtain ⟨v2, vs2, d2, ds2, p2, q2, rfl, rfl, rfl, h2, r2⟩ := trodAll_cons r1
  obtain ⟨rfl, rfl, rfl⟩ := trodAll_nil r2
  obtain rfl : args = #[v0, v1, v2] := by cases args; simp_all
  obtain ⟨rfl, rfl⟩ := trodVars_none hV
  have k0 := h0
  have k1 := h1
  have k2 := h2
  have lt0 : ∀ x ∈ p0, x.block < W.heap.size := by obtain ⟨m, hm⟩ := k0; exact DataW.trod_lt m _ _ _ hm
  have lt1 : ∀ x ∈ p1, x.block < W.heap.size := by obtain ⟨m, hm⟩ := k1; exact DataW.trod_lt m _ _ _ hm
  have lt2 : ∀ x ∈ p2, x.block < W.heap.size := by obtain ⟨m, hm⟩ := k2; exact DataW.trod_lt m _ _ _ hm
  obtain ⟨a0, len0, cap0, rfl⟩ := okWide_slice Try.underlying24 (hval 0 24 v0 rfl rfl)
  obtain ⟨a1, len1, cap1, rfl⟩ := okWide_slice Try.underlying24 (hval 1 24 v1 rfl rfl)
  obtain ⟨a2, len2, cap2, rfl⟩ := okWide_slice Try.underlying24 (hval 2 24 v2 rfl rfl)
  have hb : Rows.uptoBulkAll ([d0, d1, d2] ++ []) ≤ 1048576 := of_decide_eq_true hk
  simp only [List.append_nil, Rows.uptoBulkAll] at hb
  obtain ⟨x0, y0, z0, _⟩ := slice_bulk Try.underlying24 h0
  obtain ⟨x1, y1, z1, _⟩ := slice_bulk Try.underlying24 h1
  obtain ⟨x2, y2, z2, u2⟩ := slice_bulk Try.underlying24 h2
  obtain ⟨a, rfl, ha⟩ := vals_in h0 (fun elems spr e => by have := y0 elems spr e; unfold reachBytes; omega)
  obtain ⟨m, rfl, hm⟩ := vals_in h1 (fun elems spr e => by have := y1 elems spr e; unfold reachBytes; omega)
  obtain ⟨b, rfl, hb'⟩ := vals_in h2 (fun elems spr e => by have := y2 elems spr e; unfold reachBytes; omega)
  clear hA0
  refine (walk W a0 a1 a2 cap0 cap1 cap2 a m b ha hm hb' z0 z1 (by omega) u2 z2).mono fun e W' ⟨he, bel⟩ => ?_
  subst he
  exact ⟨_, rfl, _, _, _, [], _, [], hW', trodAll_mk1 (shut_bool Try.underlying4 _), (trodAll_cons_mk (Below.trod laidOut (by kernel_rfl) (of_decide_eq_true (by kernel_rfl)) k0 bel lt0) (trodAll_cons_mk (Below.trod laidOut (by kernel_rfl) (of_decide_eq_true (by kernel_rfl)) k1 bel lt1) (trodAll_cons_mk (Below.trod laidOut (by kernel_rfl) (of_decide_eq_true (by kernel_rfl)) k2 bel lt2) trodAll_mk0))), rfl, bel.frame _, fun h => by cases h⟩

set_option maxRecDepth 100000 in
theorem lifted (os : Os) (started : os.Started) (H : Type) (enc : TypeId × Value → H) (F : Stop.Interp) :
    ReturnsInHanded {} Try.checked os 8 .any ((Rows.OpenSpec.upto Rows.encBeginsSpec).pre6 enc Try.prog Try.f8 Rows.encBeginsUptoRow.domain false) (((Rows.OpenSpec.upto Rows.encBeginsSpec).at F).post enc Try.prog Try.f8 false true false false) := by
  refine returnsInHanded_of_cond (C := Try.checked) (s := Rows.OpenSpec.upto Rows.encBeginsSpec) (k := Rows.uptoSmall) rfl own started (by kernel_rfl) Try.func8
    (OpenSpec.witness (enc := enc) (C := Try.checked) (s := Rows.OpenSpec.upto Rows.encBeginsSpec) (k := Rows.uptoSmall) rfl false ⟨#[], #[.slice none 0 0, .slice none 0 0, .slice none 0 0], []⟩ 8 (by kernel_rfl) (by kernel_rfl) (by kernel_rfl)
      (x := ([.nil, .nil, .nil], [], [])) (by kernel_rfl) rfl (by kernel_rfl)) ?_
  intro W base args ds gs before hval hW _ hk _
  exact contract H enc W base args ds gs before hval hW hk

theorem over : Rows.encBeginsUptoRow.holds Try.pinned (Rows.OpenSpec.upto Rows.encBeginsSpec) :=
  OpenClaim.holds_of_cond 8 Try.f8 rfl rfl rfl rfl rfl rfl rfl ⟨rfl, rfl, rfl, rfl, rfl⟩ rfl rfl rfl rfl rfl (by kernel_rfl) Try.func8 (by kernel_rfl)
    (of_decide_eq_true (by kernel_rfl)) (by unfold Func.isWrapper; first | (rw [if_pos (by decide +kernel)]; kernel_rfl) | (rw [if_neg (by decide +kernel)]; exact ⟨rfl, rfl⟩))
    (fun os started H enc _ F => lifted os started H enc F)
end Go.Proofs.Ytbcbdaaaglkjhaa.encBegins

namespace Go.Proofs.Ytbcbdaaaglkjhaa
/-- THE STATEMENT. -/
theorem encBeginsUpto_holds : Rows.EncBeginsUptoSaid := encBegins.over
#print axioms encBeginsUpto_holds
end Go.Proofs.Ytbcbdaaaglkjhaa
