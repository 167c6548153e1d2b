/-
  Proved: for every two tuples a and b and every text s the call EncTuples(a, b, s) returns true and leaves its arguments as they were: tuples become texts and spans, are read back and are put in order, as the document says, and what is handed in stays.
  Conditions: none beyond the form's own reach.
-/
import Derived.Test.YtbcbdaaaglkjhaaRows
import Derived.Test.YtbcbdaaaglkjhaaLives
import Derived.Test.YtbcbdaaaglkjhaaLent
import Derived.Test.YtbcbdaaaglkjhaaBulk
import Derived.Test.YtbcbdaaaglkjhaaRefBegins
import Derived.Test.YtbcbdaaaglkjhaaRefCompare
import Derived.Test.YtbcbdaaaglkjhaaRefValues
import Derived.SizedLaws
import Derived.ProofKit
import Derived.OpenShut
import Derived.ChangeOld
namespace Go.Proofs.Ytbcbdaaaglkjhaa.encTuples
open Go.ChangeShapes Go.WideShapes Go.ChangeAt Go.RowKit
open Go.ChangeMaps (open_string shut_string)
open Go.Proofs.Ytbcbdaaaglkjhaa

theorem own : ownKnob Try.prog.godebug = none := by kernel_rfl

theorem take_lent (a : List Val) : (lentL a).take a.length = a := by unfold lentL; rw [List.take_left']; rfl
theorem lent_length (a : List Val) : (lentL a).length = a.length + 3 := by unfold lentL; rw [List.length_append]; rfl

theorem keep1 {w w' : World} {p : Addr} {x : Value} (hb : Below w.heap.size w w') (h : w.cell? p = some x) : w'.cell? p = some x := (hb.cell (World.block_lt_of_cell? w _ h)).trans h

set_option maxHeartbeats 4000000 in
theorem walk_short (w : World) (a0 a1 : Option Addr) (c0 c1 : Nat) (a b : List Val) (s : ByteArray) (ha : ValsIn w (.slice a0 a.length c0) a) (hb : ValsIn w (.slice a1 b.length c1) b) (n0 : a0 = none → c0 = 0) (n1 : a1 = none → c1 = 0)
    (la : a.length ≤ 40) (lb : b.length ≤ 40) (hs : s.size ≤ 140737488355327) :
    Calls Try.prog 5 #[.slice a0 a.length c0, .slice a1 b.length c1, .string s] w fun e w' => e = .returned (.bool true) ∧ Below w.heap.size w w' := by
  obtain ⟨E, hE⟩ : ∃ E, E = tupE a := ⟨_, rfl⟩
  obtain ⟨S, hS⟩ : ∃ S, S = tupS a := ⟨_, rfl⟩
  obtain ⟨A, hA⟩ : ∃ A, A = begA a := ⟨_, rfl⟩
  obtain ⟨C, hC⟩ : ∃ C, C = cmpL a b := ⟨_, rfl⟩
  obtain ⟨VE, hVE⟩ : ∃ VE, VE = valsE s.data.toList := ⟨_, rfl⟩
  have LN1 : Hid (∀ wx, Below w.heap.size w wx → Calls Try.prog 26 #[.slice a0 a.length c0] wx fun e w' => ∃ g cap, e = .returned (.slice (some ⟨g, 0, none⟩) (a.length + 3) cap) ∧ a.length + 3 ≤ cap ∧ ValsIn w' (.slice (some ⟨g, 0, none⟩) (a.length + 3) cap) (lentL a) ∧ Below wx.heap.size wx w') := fun wx hw => lent_any wx a0 c0 a (ha.later hw) n0 (by omega)
  have LN2 : Hid (∀ wx, Below w.heap.size w wx → Calls Try.prog 26 #[.slice a1 b.length c1] wx fun e w' => ∃ g cap, e = .returned (.slice (some ⟨g, 0, none⟩) (b.length + 3) cap) ∧ b.length + 3 ≤ cap ∧ ValsIn w' (.slice (some ⟨g, 0, none⟩) (b.length + 3) cap) (lentL b) ∧ Below wx.heap.size wx w') := fun wx hw => lent_any wx a1 c1 b (hb.later hw) n1 (by omega)
  have T1 : Hid (∀ wx v, ValsIn wx v a → Calls Try.prog 10 #[v] wx fun e w' => e = .returned (.tuple #[.string S, .int .i64 E]) ∧ Below wx.heap.size wx w') := fun wx v hv => by rw [hE, hS]; exact tuple_any wx v a hv
  have T2 : Hid (∀ wx, Below w.heap.size w wx → Calls Try.prog 27 #[.slice a0 a.length c0] wx fun e w' => e = .returned (.tuple #[.string S, .int .i64 E]) ∧ Below wx.heap.size wx w') := fun wx hw => by rw [hE, hS]; exact refTuple_any wx _ a (ha.later hw)
  have G1 : Hid (∀ wx v, ValsIn wx v a → Calls Try.prog 28 #[v] wx fun e w' => e = .returned (.tuple #[.agg #[.string S, .string A], .int .i64 E]) ∧ Below wx.heap.size wx w') := fun wx v hv => by rw [hE, hS, hA]; exact begins_any wx v a hv
  have G2 : Hid (∀ wx, Below w.heap.size w wx → Calls Try.prog 29 #[.slice a0 a.length c0] wx fun e w' => e = .returned (.tuple #[.agg #[.string S, .string A], .int .i64 E]) ∧ Below wx.heap.size wx w') := fun wx hw => by rw [hE, hS, hA]; exact refBegins_any wx _ a (ha.later hw)
  have V1 : Hid (∀ wx : World, Calls Try.prog 9 #[.string s] wx fun e w' => ∃ v, e = .returned (.tuple #[v, .int .i64 VE]) ∧ ValsIn w' v (valsL s.data.toList) ∧ Below wx.heap.size wx w') := fun wx => by rw [hVE]; exact encValues_any wx s (by omega)
  have V2 : Hid (∀ wx : World, Calls Try.prog 30 #[.string s] wx fun e w' => ∃ v, e = .returned (.tuple #[v, .int .i64 VE]) ∧ ValsIn w' v (valsL s.data.toList) ∧ Below wx.heap.size wx w') := fun wx => by rw [hVE]; exact refValues_any wx s hs
  have SV : Hid (∀ wx v u, ValsIn wx v (valsL s.data.toList) → ValsIn wx u (valsL s.data.toList) → Calls Try.prog 31 #[v, u] wx fun e w' => e = .returned (.bool true) ∧ Below wx.heap.size wx w') := fun wx v u hv hu => by
    have := sameV_any wx v u _ _ hv hu
    rwa [(sameL_iff _ _).mpr rfl] at this
  have C1 : Hid (∀ wx v u, ValsIn wx v a → ValsIn wx u b → Calls Try.prog 13 #[v, u] wx fun e w' => e = .returned (.int .i64 C) ∧ Below wx.heap.size wx w') := fun wx v u hv hu => by rw [hC]; exact compare_any wx v u a b hv hu
  have C2 : Hid (∀ wx, Below w.heap.size w wx → Calls Try.prog 32 #[.slice a0 a.length c0, .slice a1 b.length c1] wx fun e w' => e = .returned (.int .i64 C) ∧ Below wx.heap.size wx w') := fun wx hw => by rw [hC]; exact refCompare_any wx _ _ a b (ha.later hw) (hb.later hw)
  have KP1 : Hid (∀ wx v, ValsIn wx v (lentL a) → Below w.heap.size w wx → Calls Try.prog 35 #[v, .slice a0 a.length c0] wx fun e w' => e = .returned (.bool true) ∧ Below wx.heap.size wx w') := fun wx v hv hw => kept_any wx v _ hv a0 c0 a (ha.later hw) n0 (by omega) rfl
  have KP2 : Hid (∀ wx v, ValsIn wx v (lentL b) → Below w.heap.size w wx → Calls Try.prog 35 #[v, .slice a1 b.length c1] wx fun e w' => e = .returned (.bool true) ∧ Below wx.heap.size wx w') := fun wx v hv hw => kept_any wx v _ hv a1 c1 b (hb.later hw) n1 (by omega) rfl
  have HA : Hid (ValsIn w (.slice a0 a.length c0) a) := ha
  have TA : Hid (∀ wx g cap, ValsIn wx (.slice (some ⟨g, 0, none⟩) (a.length + 3) cap) (lentL a) → ValsIn wx (.slice (some ⟨g, 0, none⟩) a.length cap) a) := fun wx g cap h => by
    have := ValsIn.take (n := a.length) (by rw [lent_length]; exact h) cap (by rw [lent_length]; omega)
    rwa [take_lent] at this
  have TB : Hid (∀ wx g cap, ValsIn wx (.slice (some ⟨g, 0, none⟩) (b.length + 3) cap) (lentL b) → ValsIn wx (.slice (some ⟨g, 0, none⟩) b.length cap) b) := fun wx g cap h => by
    have := ValsIn.take (n := b.length) (by rw [lent_length]; exact h) cap (by rw [lent_length]; omega)
    rwa [take_lent] at this
  have la' : ¬ (40 : Int) < (a.length : Int) := by omega
  have lb' : ¬ (40 : Int) < (b.length : Int) := by omega
  clear hE hS hA hC hVE ha hb
  go_enter Try.func5, Try.ntmps5
  go_wp2_with (first
    | (go_at_call 17; refine (lives_any _).mono ?_; rintro e w1 ⟨rfl, B1⟩)
    | (go_at_call 26; refine (LN1.out _ B1).mono ?_; rintro e w2 ⟨g2, cap2, rfl, hc2, hv2, hb2⟩; have B2 := B1.trans (hb2.mono B1.size); clear LN1)
    | (go_at_call 26; refine (LN2.out _ B2).mono ?_; rintro e w3 ⟨g3, cap3, rfl, hc3, hv3, hb3⟩; have B3 := B2.trans (hb3.mono B2.size); have FA : Hid (∀ wx, Below w3.heap.size w3 wx → ValsIn wx (.slice (some ⟨g2, 0, none⟩) (a.length + 3) cap2) (lentL a)) := (fun wx k => (hv2.later hb3).later k); have FB : Hid (∀ wx, Below w3.heap.size w3 wx → ValsIn wx (.slice (some ⟨g3, 0, none⟩) (b.length + 3) cap3) (lentL b)) := (fun wx k => hv3.later k); have KL := Below.refl w3.heap.size w3; have y1 : (a.length : Int) ≤ (cap2 : Int) := (by omega); have y2 : (b.length : Int) ≤ (cap3 : Int) := (by omega); clear LN2 hv2 hv3)
    | (go_at_call 10; refine (T1.out _ _ (TA.out _ _ _ (FA.out _ KL))).mono ?_; rintro e w4 ⟨rfl, hb4⟩; have KL := KL.trans (hb4.mono KL.size); clear T1)
    | (go_at_call 27; refine (T2.out _ (B3.trans (KL.mono B3.size))).mono ?_; rintro e w5 ⟨rfl, hb5⟩; have KL := KL.trans (hb5.mono KL.size); clear T2)
    | (go_at_call 28; refine (G1.out _ _ (TA.out _ _ _ (FA.out _ KL))).mono ?_; rintro e w6 ⟨rfl, hb6⟩; have KL := KL.trans (hb6.mono KL.size); clear G1)
    | (go_at_call 29; refine (G2.out _ (B3.trans ((KL.alloc KL.size _).mono B3.size))).mono ?_; rintro e w7 ⟨rfl, hb7⟩; have KL := (KL.alloc KL.size _).trans (hb7.mono (by have := KL.size; simp; omega)); obtain ⟨p0, p1, _, _, p4⟩ := two_slot hb7; clear G2)
    | (go_at_call 9; refine (V1.out _).mono ?_; rintro e w8 ⟨v8, rfl, hv8, hb8⟩; have M8 : Below w7.heap.size w7 w8 := ((Below.refl _ w7).alloc (Nat.le_refl _) _).trans (hb8.mono (by simp)); have KL := KL.trans (M8.mono KL.size); obtain ⟨r0, r1, _, _, r4⟩ := two_slot hb8; have p0 := (M8.cell (p := ⟨w6.heap.size, 0, none⟩) p4).trans p0; have p1 := (M8.cell (p := ⟨w6.heap.size, 1, none⟩) p4).trans p1; have p4 := Nat.lt_of_lt_of_le p4 M8.size; clear V1)
    | (go_at_call 30; refine (V2.out _).mono ?_; rintro e w9 ⟨v9, rfl, hv9, hb9⟩; have KL := KL.trans (hb9.mono KL.size); have hv89 := hv8.later hb9; have p0 := (hb9.cell (p := ⟨w6.heap.size, 0, none⟩) p4).trans p0; have p1 := (hb9.cell (p := ⟨w6.heap.size, 1, none⟩) p4).trans p1; have r0 := (hb9.cell (p := ⟨w7.heap.size, 0, none⟩) r4).trans r0; have r1 := (hb9.cell (p := ⟨w7.heap.size, 1, none⟩) r4).trans r1; have p4 := Nat.lt_of_lt_of_le p4 hb9.size; have r4 := Nat.lt_of_lt_of_le r4 hb9.size; clear V2 hv8))
  have Z9 : w3.heap.size ≤ w9.heap.size := KL.size
  have HKL : Hid (Below w3.heap.size w3 w9) := KL
  clear hb2 hb3 hb4 hb5 hb6 hb7 hb8 hb9 M8 KL
  go_region_held3 (fun w' => w'.cell? ⟨w6.heap.size, 0, none⟩ = some (.string S) ∧ w'.cell? ⟨w6.heap.size, 1, none⟩ = some (.string A) ∧ w'.cell? ⟨w7.heap.size, 0, none⟩ = some (.string S) ∧ w'.cell? ⟨w7.heap.size, 1, none⟩ = some (.string A))
    (first | (go_split_ands; refine ⟨?_, ?_, ?_, ?_⟩ <;> exact keep1 hb (by assumption)) | (go_keep; done))
    (first
      | (go_at_call 31; first | refine (SV.out _ _ _ hv89 hv9).mono ?_ | refine (SV.out _ _ _ (hv89.later (Below.refl _ _).drew) (hv9.later (Below.refl _ _).drew)).mono ?_; rintro e w10 ⟨rfl, hb⟩; have KX : Below w3.heap.size w3 w10 := (by first | exact HKL.out.trans (hb.mono Z9) | exact HKL.out.drew.trans (hb.mono Z9)); clear SV)
      | (go_at_call 13; refine (C1.out _ _ _ (TA.out _ _ _ (FA.out _ KX)) (TB.out _ _ _ (FB.out _ KX))).mono ?_; rintro e w11 ⟨rfl, hb⟩; have KY := KX.trans (hb.mono KX.size); have BY := B3.trans (KY.mono B3.size); clear C1)
      | (go_at_call 32; refine (C2.out _ BY).mono ?_; rintro e w12 ⟨rfl, hb⟩; have KZ := KY.trans (hb.mono KY.size); clear C2))
  have HKZ : Hid (Below w3.heap.size w3 w12) := KZ
  have HB3 : Hid (Below w.heap.size w w3) := B3
  clear KX KY KZ BY B1 B2 B3 HKL hv89 hv9 p0 p1 r0 r1 p4 r4 hb
  go_wp2
  go_loopw [21] (fun i wr => ∃ j : Nat, j ≤ a.length ∧ i = .int .i64 j ∧ Below w3.heap.size w3 wr) (fun i _ => a.length - (intOf i).toNat)
  case atStart => exact ⟨0, Nat.zero_le _, rfl, HKZ.out⟩
  case round =>
    obtain ⟨j, hj, rfl, hbel⟩ := hrel
    have BW : Below w.heap.size w wr := HB3.out.trans (hbel.mono HB3.out.size)
    by_cases hlt : j < a.length
    · have hne : a ≠ [] := by intro e; rw [e] at hlt; simp at hlt
      obtain ⟨⟨a', cap', e', hf⟩, hwf, _⟩ := HA.out
      simp only [Value.slice.injEq, true_and] at e'
      obtain ⟨rfl, rfl⟩ := e'
      obtain ⟨bb, off, rfl, hat⟩ := hf hne
      obtain ⟨d0, d1, d2⟩ := (hat.later BW) j hlt
      obtain ⟨v, hvj⟩ : ∃ v, v = a[j] := ⟨_, rfl⟩
      have hw := (hwf _ (List.getElem_mem hlt)).t1
      rw [← hvj] at d0 d1 d2 hw
      obtain ⟨Z, hZ⟩ : ∃ Z, Z = chk v.k v.n v.t := ⟨_, rfl⟩
      have CK1 : Hid (∀ wx : World, Calls Try.prog 33 #[.agg #[.int .u8 v.k, .int .i64 v.n, .string v.t]] wx fun e w' => e = .returned (.int .i64 Z) ∧ Below wx.heap.size wx w') := fun wx => by
        refine (check_any wx v.k v.n v.t hw).mono ?_
        rintro e w' ⟨rfl, rfl⟩
        exact ⟨by rw [hZ], (Below.refl _ _).alloc (Nat.le_refl _) _⟩
      have CK2 : Hid (∀ wx : World, Calls Try.prog 34 #[.agg #[.int .u8 v.k, .int .i64 v.n, .string v.t]] wx fun e w' => e = .returned (.int .i64 Z) ∧ Below wx.heap.size wx w') := fun wx => by
        refine (refCheck_any wx v.k v.n v.t hw).mono ?_
        rintro e w' ⟨rfl, rfl⟩
        exact ⟨by rw [hZ], (Below.refl _ _).alloc (Nat.le_refl _) _⟩
      have HBEL : Hid (Below w3.heap.size w3 wr) := hbel
      clear hvj hw hZ hat hwf hf hbel BW HA n0
      go_wp2
      go_region_held3 (fun w' => w'.cell? ⟨bb, off + j * 3, none⟩ = some (.int .u8 v.k) ∧ w'.cell? ⟨bb, off + j * 3 + 1, none⟩ = some (.int .i64 v.n) ∧ w'.cell? ⟨bb, off + j * 3 + 2, none⟩ = some (.string v.t))
        (first | (go_split_ands; refine ⟨?_, ?_, ?_⟩ <;> exact keep1 hb (by assumption)) | (go_keep; done))
        (first
          | (go_at_call 33; refine (CK1.out _).mono ?_; rintro e x1 ⟨rfl, hb⟩; have K1 := hb)
          | (go_at_call 34; refine (CK2.out _).mono ?_; rintro e x2 ⟨rfl, hb⟩; have K2 := hb))
      have L1 : Below w3.heap.size w3 x1 := by first | exact HBEL.out.trans (K1.mono HBEL.out.size) | exact HBEL.out.drew.trans (K1.mono HBEL.out.size)
      have L2 : Below w3.heap.size w3 x2 := by first | exact L1.trans (K2.mono L1.size) | exact L1.drew.trans (K2.mono L1.size)
      go_wp2
      go_roundw
      case rel => exact ⟨j + 1, by omega, by go_num, by first | exact L2 | exact L2.drew⟩
      case measure => simp [intOf]; omega
    · have HBEL : Hid (Below w3.heap.size w3 wr) := hbel
      have BWR : Hid (Below w.heap.size w wr) := BW
      have hfa := FA.out _ hbel
      have hfb := FB.out _ hbel
      clear hbel BW FA FB TA TB
      go_wp2_with (first
        | (go_at_call 35; refine (KP1.out _ _ hfa BWR.out).mono ?_; rintro e x1 ⟨rfl, hb1⟩; have B2 := BWR.out.trans (hb1.mono BWR.out.size); have hfb := hfb.later hb1; clear KP1)
        | (go_at_call 35; refine (KP2.out _ _ hfb B2).mono ?_; rintro e x2 ⟨rfl, hb2⟩; have B3 := B2.trans (hb2.mono B2.size); clear KP2))
      go_ret
      exact ⟨rfl, B3⟩

set_option maxHeartbeats 1000000 in
theorem walk_long (w : World) (a0 a1 : Option Addr) (c0 c1 n m : Nat) (s : ByteArray) (h : 40 < n ∨ (¬ 40 < n ∧ 40 < m)) :
    Calls Try.prog 5 #[.slice a0 n c0, .slice a1 m c1, .string s] w fun e w' => e = .returned (.bool true) ∧ Below w.heap.size w w' := by
  rcases h with h | ⟨h1, h⟩
  · have h' : (40 : Int) < (n : Int) := by omega
    go_enter Try.func5, Try.ntmps5
    go_wp2_with (go_at_call 17; refine (lives_any _).mono ?_; rintro e w1 ⟨rfl, B1⟩)
    go_ret
    exact ⟨rfl, B1⟩
  · have h' : (40 : Int) < (m : Int) := by omega
    have h1' : ¬ (40 : Int) < (n : Int) := by omega
    go_enter Try.func5, Try.ntmps5
    go_wp2_with (go_at_call 17; refine (lives_any _).mono ?_; rintro e w1 ⟨rfl, B1⟩)
    go_ret
    exact ⟨rfl, B1⟩

theorem walk (w : World) (a0 a1 : Option Addr) (c0 c1 : Nat) (a b : List Val) (s : ByteArray) (ha : ValsIn w (.slice a0 a.length c0) a) (hb : ValsIn w (.slice a1 b.length c1) b) (n0 : a0 = none → c0 = 0) (n1 : a1 = none → c1 = 0) (hs : s.size ≤ 140737488355327) :
    Calls Try.prog 5 #[.slice a0 a.length c0, .slice a1 b.length c1, .string s] w fun e w' => e = .returned (.bool true) ∧ Below w.heap.size w w' := by
  by_cases h : 40 < a.length
  · exact walk_long w a0 a1 c0 c1 _ _ s (.inl h)
  · by_cases h2 : 40 < b.length
    · exact walk_long w a0 a1 c0 c1 _ _ s (.inr ⟨h, h2⟩)
    · exact walk_short w a0 a1 c0 c1 a b s ha hb n0 n1 (by omega) (by omega) hs

theorem laidOut : laidOutB Try.prog = true := by kernel_rfl

set_option maxRecDepth 100000 in
theorem lifted (os : Os) (started : os.Started) (H : Type) (enc : TypeId × Value → H) :
    ReturnsInHanded {} Try.checked os 5 .any (Rows.encTuplesSpec.pre6 enc Try.prog Try.f5 Rows.encTuplesRow.domain false) (Rows.encTuplesSpec.post enc Try.prog Try.f5 false true false false) := by
  refine returnsInHanded_of_change_sized (C := Try.checked) own started (by kernel_rfl) Try.func5
    (ChangeSpec.witness6 (enc := enc) (C := Try.checked) false ⟨#[], #[.slice none 0 0, .slice none 0 0, .string .empty], []⟩ 8 (by kernel_rfl) (by kernel_rfl) (by kernel_rfl) (by kernel_rfl)) ?_
  intro W base args ds gs before hval0 hW hcnd hsz0 _
  have hsz : (DataW.weightsEach Try.prog (Try.f5.params.toList ++ Rows.encTuplesSpec.plain.varTypes Try.prog) (ds ++ gs)).all (· ≤ reachBytes) = true := hsz0
  have hval : ∀ (j : Nat) t v, Try.f5.params[j]? = some t → args[j]? = some v → Value.okWide Try.prog W .any base t v := hval0
  have hW' := hW
  obtain ⟨p, q, hA0, hV, rfl, hfz, hnd⟩ := hW
  have hA : DataW.TrodAll enc Try.prog W 0 (fun _ => true) true Try.f5.params.toList args.toList ds p := hA0
  rw [Try.params5] at hA hval hsz
  obtain ⟨v0, vs0, d0, ds0, p0, q0, hargs, rfl, rfl, h0, r0⟩ := trodAll_cons hA
  obtain ⟨v1, vs1, d1, ds1, p1, q1, rfl, rfl, rfl, h1, r1⟩ := trodAll_cons r0
  obtain ⟨v2, vs2, d2, ds2, p2, q2, rfl, rfl, rfl, h2, r2⟩ := trodAll_cons r1
  obtain ⟨rfl, rfl, rfl⟩ := trodAll_nil r2
  obtain rfl : args = #[v0, v1, v2] := by cases args; simp_all
  obtain ⟨rfl, rfl⟩ := trodVars_none hV
  have k0 := h0
  have k1 := h1
  have lt0 : ∀ x ∈ p0, x.block < W.heap.size := by obtain ⟨m, hm⟩ := k0; exact DataW.trod_lt m _ _ _ hm
  have lt1 : ∀ x ∈ p1, x.block < W.heap.size := by obtain ⟨m, hm⟩ := k1; exact DataW.trod_lt m _ _ _ hm
  obtain ⟨a0, len0, cap0, rfl⟩ := okWide_slice Try.underlying24 (hval 0 24 v0 rfl rfl)
  obtain ⟨a1, len1, cap1, rfl⟩ := okWide_slice Try.underlying24 (hval 1 24 v1 rfl rfl)
  obtain ⟨s, rfl, rfl, rfl, w2⟩ := open_string Try.underlying9 (hval 2 9 v2 rfl rfl) h2
  have hss : s.size ≤ 140737488355327 := by
    have := sized_string hsz (j := 2) (t := 9) (bytes := s.data.toList) rfl rfl
    rw [ba_length] at this
    unfold reachBytes at this
    omega
  obtain ⟨_, _, z0, _⟩ := slice_bulk Try.underlying24 h0
  obtain ⟨_, _, z1, _⟩ := slice_bulk Try.underlying24 h1
  obtain ⟨a, rfl, ha⟩ := vals_in h0 (fun elems spr e => by
    have := sized_slice hsz (j := 0) (t := 24) (e := 32) (elems := elems) (spare := spr) rfl (by rw [e]; rfl) Try.underlying24
    rwa [bytesV] at this)
  obtain ⟨b, rfl, hb⟩ := vals_in h1 (fun elems spr e => by
    have := sized_slice hsz (j := 1) (t := 24) (e := 32) (elems := elems) (spare := spr) rfl (by rw [e]; rfl) Try.underlying24
    rwa [bytesV] at this)
  clear hA0 hval0
  refine (walk W a0 a1 cap0 cap1 a b s ha hb z0 z1 hss).mono fun e W' ⟨he, bel⟩ => ?_
  subst he
  exact ⟨_, rfl, _, _, _, [], _, [], hW', trodAll_mk1 (shut_bool Try.underlying4 _), (trodAll_cons_mk (Below.trod laidOut (by kernel_rfl) (of_decide_eq_true (by kernel_rfl)) k0 bel lt0) (trodAll_cons_mk (Below.trod laidOut (by kernel_rfl) (of_decide_eq_true (by kernel_rfl)) k1 bel lt1) (trodAll_cons_mk (shut_string Try.underlying9 w2) trodAll_mk0))), rfl, bel.frame _, fun h => by cases h⟩

theorem over : Rows.encTuplesRow.holds Try.pinned (OpenSpec.ofChange Rows.encTuplesSpec) :=
  OpenClaim.holds_of_wide 5 Try.f5 rfl rfl rfl rfl rfl rfl rfl ⟨rfl, rfl, rfl, rfl, rfl⟩ rfl rfl rfl rfl rfl (by kernel_rfl) Try.func5 (by kernel_rfl)
    (of_decide_eq_true (by kernel_rfl)) (by unfold Func.isWrapper; first | (rw [if_pos (by decide +kernel)]; kernel_rfl) | (rw [if_neg (by decide +kernel)]; exact ⟨rfl, rfl⟩))
    (fun os started H enc _ => lifted os started H enc)
end Go.Proofs.Ytbcbdaaaglkjhaa.encTuples

namespace Go.Proofs.Ytbcbdaaaglkjhaa
/-- THE STATEMENT. -/
theorem encTuples_holds : Rows.EncTuplesSaid := encTuples.over
#print axioms encTuples_holds
end Go.Proofs.Ytbcbdaaaglkjhaa
