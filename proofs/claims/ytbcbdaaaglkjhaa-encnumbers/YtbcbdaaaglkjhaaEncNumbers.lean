/-
  Proved: for all bytes b, every number x and every most the call EncNumbers(b, x, most) returns true and leaves its arguments as they were: numbers are written and read as the document says, what is handed in stays, and what is told is new memory.
  Conditions: none beyond the form's own reach.
-/
import Derived.Test.YtbcbdaaaglkjhaaRows
import Derived.Test.YtbcbdaaaglkjhaaLives
import Derived.Test.YtbcbdaaaglkjhaaApart
import Derived.Test.YtbcbdaaaglkjhaaBulk
import Derived.SizedLaws
import Derived.ProofKit
import Derived.OpenShut
import Derived.ChangeOld
namespace Go.Proofs.Ytbcbdaaaglkjhaa.encNumbers
open Go.ChangeShapes Go.WideShapes Go.ChangeAt Go.RowKit
open Go.Proofs.Ytbcbdaaaglkjhaa

theorem own : ownKnob Try.prog.godebug = none := by kernel_rfl

theorem own_base {w : World} {base base' : Nat} {v : Value} {n : Nat} {xs : List Value} (h : w.ownsRow base 5 1 v n xs) (hb : base' ≤ base) : w.ownsRow base' 5 1 v n xs := by
  refine ⟨h.1, ?_⟩
  rcases h.2 with h' | ⟨g, cap, cur, e, h1, h2⟩
  · exact .inl h'
  · exact .inr ⟨g, cap, cur, e, Nat.le_trans hb h1, h2⟩

theorem own_cap {w : World} {base g n cap : Nat} {xs : List Value} (h : w.ownsRow base 5 1 (.slice (some ⟨g, 0, none⟩) n cap) n xs) : n ≤ cap ∧ g < w.heap.size ∧ base ≤ g := by
  have h1 := h.lt g rfl
  rcases h.2 with ⟨e, _⟩ | ⟨g', cap', cur, e, hb', _, hnc, _⟩
  · cases e
  · simp only [Value.slice.injEq, Option.some.injEq, Addr.mk.injEq, and_true, true_and] at e
    exact ⟨by omega, h1.2, h1.1⟩

theorem apart_three (w : World) (base g3 cap3 g4 cap4 g2 cap2 : Nat) (A F : List UInt8) (P3 : w.ownsRow base 5 1 (.slice (some ⟨g3, 0, none⟩) A.length cap3) A.length (bc A)) (P4 : w.ownsRow base 5 1 (.slice (some ⟨g4, 0, none⟩) A.length cap4) A.length (bc A))
    (P2 : w.ownsRow base 5 1 (.slice (some ⟨g2, 0, none⟩) F.length cap2) F.length (bc F)) (d1 : g2 < g3) (d2 : g3 < g4) (hA : A.length ≤ 140737488355328) (hF : F.length ≤ 140737488355328) (hbase : base ≤ w.heap.size) :
    Calls Try.prog 25 #[.slice (some ⟨w.heap.size, 0, none⟩) 3 3] (w.alloc (.cells #[.slice (some ⟨g3, 0, none⟩) A.length cap3, .slice (some ⟨g4, 0, none⟩) A.length cap4, .slice (some ⟨g2, 0, none⟩) F.length cap2] 22)) fun e w' => e = .returned (.bool true) ∧ Below base w w' := by
  have q3 := own_cap P3
  have q4 := own_cap P4
  have q2 := own_cap P2
  refine (apart_any _ base w.heap.size (fun k => if k = 0 then ⟨g3, cap3, A⟩ else if k = 1 then ⟨g4, cap4, A⟩ else ⟨g2, cap2, F⟩) ?_ ?_ ?_ ?_ ?_ (by simp; omega)).mono ?_
  · intro k hk
    rcases (by omega : k = 0 ∨ k = 1 ∨ k = 2) with rfl | rfl | rfl <;> simp [Row.val]
  · intro k hk
    rcases (by omega : k = 0 ∨ k = 1 ∨ k = 2) with rfl | rfl | rfl
    · exact P3.alloc _
    · exact P4.alloc _
    · exact P2.alloc _
  · intro k hk
    rcases (by omega : k = 0 ∨ k = 1 ∨ k = 2) with rfl | rfl | rfl
    · exact hA
    · exact hA
    · exact hF
  · intro i k hi hk hne
    rcases (by omega : i = 0 ∨ i = 1 ∨ i = 2) with rfl | rfl | rfl <;> rcases (by omega : k = 0 ∨ k = 1 ∨ k = 2) with rfl | rfl | rfl <;> simp at hne ⊢ <;> omega
  · intro k hk
    rcases (by omega : k = 0 ∨ k = 1 ∨ k = 2) with rfl | rfl | rfl <;> simp <;> omega
  · rintro e w' ⟨rfl, hb⟩
    exact ⟨rfl, ((Below.refl _ _).alloc hbase _).trans hb⟩

set_option maxHeartbeats 4000000 in
theorem walk (w : World) (a0 : Option Addr) (c0 : Nat) (l : List UInt8) (x : Nat) (most : Int) (hb : BytesIn w (.slice a0 l.length c0) l) (n0 : a0 = none → c0 = 0) (hl : l.length ≤ 140737488351232) (hx : x < 18446744073709551616) (hm1 : most ≤ 9223372036854775807) (hm0 : -9223372036854775808 ≤ most) :
    Calls Try.prog 4 #[.slice a0 l.length c0, .int .u64 (x : Int), .int .i64 most] w fun e w' => e = .returned (.bool true) ∧ Below w.heap.size w w' := by
  obtain ⟨F, hF⟩ : ∃ F, F = lentB l := ⟨_, rfl⟩
  obtain ⟨A, hA⟩ : ∃ A, A = l ++ leb x := ⟨_, rfl⟩
  have lF : F.length = l.length + 3 := by rw [hF]; exact lentB_length l
  have lA : A.length ≤ 140737488355328 := by have := leb_len64 x hx; rw [hA, List.length_append]; omega
  have neA : Hid (A ≠ []) := by show _ ≠ _; intro e; have := congrArg List.length e; have h1 := leb_pos x; rw [hA, List.length_append, List.length_nil] at this; omega
  have LN : Hid (∀ wx, Below w.heap.size w wx → Calls Try.prog 18 #[.slice a0 l.length c0] wx fun e w' => ∃ g cap, e = .returned (.slice (some ⟨g, 0, none⟩) F.length cap) ∧ Ext wx.heap.size wx (.slice none 0 0) w' (.slice (some ⟨g, 0, none⟩) F.length cap) F) := fun wx hw => by
    rw [lF, hF]; exact lentBytes_any wx a0 c0 l (hb.later hw) n0 hl
  have TK : Hid (∀ wx base g cap, wx.ownsRow base 5 1 (.slice (some ⟨g, 0, none⟩) F.length cap) F.length (bc F) → BytesIn wx (.slice (some ⟨g, 0, none⟩) l.length cap) l) := fun wx base g cap h => by
    rw [hF] at h
    exact bytes_of_own (own_shrink (xs := l) (ys := [201, 202, 203]) h rfl (by rw [lentB_length]; omega)) (by omega)
  have AP : Hid (∀ wx g cap, BytesIn wx (.slice (some ⟨g, 0, none⟩) l.length cap) l → Calls Try.prog 19 #[.slice (some ⟨g, 0, none⟩) l.length cap, .int .u64 (x : Int)] wx fun e w' => ∃ g' cap', e = .returned (.slice (some ⟨g', 0, none⟩) A.length cap') ∧ Ext wx.heap.size wx (.slice none 0 0) w' (.slice (some ⟨g', 0, none⟩) A.length cap') A) := fun wx g cap h => by
    refine (append_any wx _ l x h (fun len cap' e => by cases e) hx hl).mono ?_
    rintro e w' ⟨v', rfl, hx'⟩
    rw [← hA] at hx'
    obtain ⟨g', cap', rfl⟩ := hx'.some neA.out
    exact ⟨g', cap', rfl, hx'⟩
  have RA : Hid (∀ wx, Below w.heap.size w wx → Calls Try.prog 23 #[.slice a0 l.length c0, .int .u64 (x : Int)] wx fun e w' => ∃ v', e = .returned v' ∧ BytesIn w' v' A ∧ Below wx.heap.size wx w') := fun wx hw => by
    refine (refAppend_any wx a0 c0 l x (hb.later hw) n0 hx hl).mono ?_
    rintro e w' ⟨v', rfl, hx'⟩
    rw [← hA] at hx'
    exact ⟨v', rfl, bytes_of_own hx'.own lA, hx'.below (Nat.le_refl _) (by simp [Value.ownBlock])⟩
  obtain ⟨R1, h1⟩ : ∃ R : Int, R = ((rd l).1 : Int) := ⟨_, rfl⟩
  obtain ⟨R2, h2⟩ : ∃ R : Int, R = ((rd l).2.1 : Int) := ⟨_, rfl⟩
  obtain ⟨R3, h3⟩ : ∃ R : Int, R = ((rd l).2.2 : Int) := ⟨_, rfl⟩
  obtain ⟨S1, k1⟩ : ∃ R : Int, R = smX l most := ⟨_, rfl⟩
  obtain ⟨S2, k2⟩ : ∃ R : Int, R = smN l most := ⟨_, rfl⟩
  obtain ⟨S3, k3⟩ : ∃ R : Int, R = smE l most := ⟨_, rfl⟩
  have RD1 : Hid (∀ wx v, BytesIn wx v l → Calls Try.prog 12 #[v] wx fun e w' => e = .returned (.tuple #[.int .u64 R1, .int .i64 R2, .int .i64 R3]) ∧ w' = wx) := fun wx v h => by rw [h1, h2, h3]; exact read_any wx v l h
  have RD2 : Hid (∀ wx, Below w.heap.size w wx → Calls Try.prog 20 #[.slice a0 l.length c0] wx fun e w' => e = .returned (.tuple #[.int .u64 R1, .int .i64 R2, .int .i64 R3]) ∧ Below wx.heap.size wx w') := fun wx hw => by rw [h1, h2, h3]; exact refRead_any wx _ l (hb.later hw)
  have SM1 : Hid (∀ wx v, BytesIn wx v l → Calls Try.prog 21 #[v, .int .i64 most] wx fun e w' => e = .returned (.tuple #[.int .i64 S1, .int .i64 S2, .int .i64 S3]) ∧ w' = wx) := fun wx v h => by rw [k1, k2, k3]; exact small_any wx v l most hm1 hm0 h
  have SM2 : Hid (∀ wx, Below w.heap.size w wx → Calls Try.prog 22 #[.slice a0 l.length c0, .int .i64 most] wx fun e w' => e = .returned (.tuple #[.int .i64 S1, .int .i64 S2, .int .i64 S3]) ∧ Below wx.heap.size wx w') := fun wx hw => by rw [k1, k2, k3]; exact refSmall_any wx _ l most hm1 hm0 (hb.later hw)
  have SB : Hid (∀ wx v u, BytesIn wx v A → BytesIn wx u A → Calls Try.prog 16 #[v, u] wx fun e w' => e = .returned (.bool true) ∧ Below wx.heap.size wx w') := fun wx v u hv hu => by
    have := same_any wx v u _ _ hv hu
    rwa [decide_eq_true rfl] at this
  have KB : Hid (∀ wx v, BytesIn wx v F → Below w.heap.size w wx → Calls Try.prog 24 #[v, .slice a0 l.length c0] wx fun e w' => e = .returned (.bool true) ∧ Below wx.heap.size wx w') := fun wx v hv hw => keptBytes_any wx v l (by rw [← hF]; exact hv) a0 c0 (hb.later hw) n0 hl
  have LA : Hid (A.length ≤ 140737488355328) := lA
  have LF : Hid (F.length = l.length + 3) := lF
  have lf2 : l.length ≤ F.length := by omega
  have lf3 : F.length ≤ 140737488355328 := by omega
  clear hF hA lF lA hb n0 h1 h2 h3 k1 k2 k3 hx
  have B0 : Below w.heap.size w w := Below.refl _ _
  go_enter Try.func4, Try.ntmps4
  go_wp2_with (first
    | (go_at_call 18; refine (LN.out _ B0).mono ?_; rintro e w2 ⟨g2, cap2, rfl, x2⟩; have B2 : Below w.heap.size w w2 := x2.below (Nat.le_refl _) (by simp [Value.ownBlock]); have V2 := TK.out _ _ _ _ x2.own; have y2 : (l.length : Int) ≤ (cap2 : Int) := (by have := (own_cap x2.own).1; omega); clear LN)
    | (go_at_call 19; refine (AP.out _ _ _ V2).mono ?_; rintro e w3 ⟨g3, cap3, rfl, x3⟩; have b3 : Below w2.heap.size w2 w3 := x3.below (Nat.le_refl _) (by simp [Value.ownBlock]); have V3 := V2.later b3; have B3 := B2.trans (b3.mono B2.size); clear V2)
    | (go_at_call 19; refine (AP.out _ _ _ V3).mono ?_; rintro e w4 ⟨g4, cap4, rfl, x4⟩; have b4 : Below w3.heap.size w3 w4 := x4.below (Nat.le_refl _) (by simp [Value.ownBlock]); have V4 := V3.later b4; have B4 := B3.trans (b4.mono B3.size); have P2 : Hid (w4.ownsRow w.heap.size 5 1 (.slice (some ⟨g2, 0, none⟩) F.length cap2) F.length (bc F)) := own_later (own_later x2.own b3) b4; have P3 : Hid (w4.ownsRow w.heap.size 5 1 (.slice (some ⟨g3, 0, none⟩) A.length cap3) A.length (bc A)) := own_base (own_later x3.own b4) B2.size; have P4 : Hid (w4.ownsRow w.heap.size 5 1 (.slice (some ⟨g4, 0, none⟩) A.length cap4) A.length (bc A)) := own_base x4.own B3.size; have D : Hid (g2 < g3 ∧ g3 < g4 ∧ g4 < w4.heap.size) := (by have q2 := own_cap x2.own; have q3 := own_cap x3.own; have q4 := own_cap x4.own; exact ⟨by omega, by omega, q4.2.1⟩); have KL := Below.refl w4.heap.size w4; clear V3 AP)
    | (go_at_call 12; refine (RD1.out _ _ V4).mono ?_; rintro e w5 ⟨rfl, rfl⟩; clear RD1)
    | (go_at_call 20; refine (RD2.out _ B4).mono ?_; rintro e w6 ⟨rfl, b6⟩; have V6 := V4.later b6; have B6 := B4.trans (b6.mono B4.size); have KL := KL.trans (b6.mono KL.size); clear RD2)
    | (go_at_call 21; refine (SM1.out _ _ V6).mono ?_; rintro e w7 ⟨rfl, rfl⟩; clear SM1)
    | (go_at_call 22; refine (SM2.out _ B6).mono ?_; rintro e w8 ⟨rfl, b8⟩; have B8 := B6.trans (b8.mono B6.size); have KL := KL.trans (b8.mono KL.size); clear SM2)
    | (go_at_call 17; refine (lives_any _).mono ?_; rintro e w9 ⟨rfl, b9⟩; have B9 := B8.trans (b9.mono B8.size); have KL := KL.trans (b9.mono KL.size))
    | (go_at_call 23; refine (RA.out _ B9).mono ?_; rintro e w10 ⟨v10, rfl, V10, b10⟩; have B10 := B9.trans (b10.mono B9.size); have KL := KL.trans (b10.mono KL.size); clear RA)
    | (go_at_call 16; refine (SB.out _ _ _ (bytes_of_own (own_later P3.out KL) LA.out) V10).mono ?_; rintro e w11 ⟨rfl, b11⟩; have B11 := B10.trans (b11.mono B10.size); have KL := KL.trans (b11.mono KL.size); clear SB)
    | (go_at_call 24; refine (KB.out _ _ (bytes_of_own (own_later P2.out KL) lf3) B11).mono ?_; rintro e w12 ⟨rfl, b12⟩; have B12 := B11.trans (b12.mono B11.size); have KL := KL.trans (b12.mono KL.size); clear KB))
  refine (apart_three w12 w.heap.size g3 cap3 g4 cap4 g2 cap2 A F (own_later P3.out KL) (own_later P4.out KL) (own_later P2.out KL) D.out.1 D.out.2.1 LA.out lf3 B12.size).mono ?_
  rintro e w13 ⟨rfl, b13⟩
  have B13 := B12.trans b13
  clear P2 P3 P4 D KL
  go_wp2_with (fail)
  go_ret
  exact ⟨rfl, B13⟩

theorem laidOut : laidOutB Try.prog = true := by kernel_rfl
theorem bytesT8 : Try.prog.bytesOf 5 = 1 := by kernel_rfl

/-- A slice of bytes that came in. -/
theorem bytes_in {H : Type} {enc : TypeId × Value → H} {W : World} {spare : Nat → Bool} {held : Bool} {a : Option Addr} {len cap : Nat} {d : DataW H} {p : List MemPlace} (hk : DataW.Trod enc Try.prog W 0 spare held 22 (.slice a len cap) d p)
    (hw : ∀ elems spr, d = .slice elems spr → (elems.length + spr.length) * 1 ≤ reachBytes) (hnot : spare = fun _ => true) (hh : held = true) :
    ∃ l : List UInt8, len = l.length ∧ BytesIn W (.slice a len cap) l ∧ l.length ≤ 140737488351232 ∧ (a = none → cap = 0) := by
  subst hnot hh
  obtain ⟨fuel, hf⟩ := hk
  rcases open_ints Try.underlying22 Try.underlying5 (by kernel_rfl) hf with ⟨hcs, _⟩ | ⟨x, l', c', zs, hcs, _, hl, hm, hz, hx, hcell, hwz⟩
  · simp [Value.cells] at hcs
    obtain ⟨rfl, rfl, rfl⟩ := hcs
    exact ⟨[], rfl, ⟨⟨none, 0, rfl, fun h => absurd rfl h⟩, by decide⟩, by decide, fun _ => rfl⟩
  · simp [Value.cells] at hcs
    obtain ⟨rfl, rfl, rfl⟩ := hcs
    simp only [if_true] at hz
    simp only [Prod.mk.injEq] at hx
    have hreach := hw _ _ hx.1
    simp only [lits, List.length_map, List.length_take, List.length_drop, reachBytes] at hreach
    have hzl : zs.length = cap := by simpa using hz
    refine ⟨(zs.take len).map fun z => UInt8.ofNat z.toNat, by simp; omega, ⟨⟨some x, cap, by simp; omega, fun h0 => ?_⟩, by simp; omega⟩, by simp; omega, fun e => by cases e⟩
    have hlen0 : 0 < len := by
      rcases Nat.eq_zero_or_pos len with h | h
      · subst h; exact absurd (by simp) h0
      · exact h
    obtain ⟨b, off, spot⟩ := x
    have hc0 := hcell 0 (by omega)
    have hspot : spot = none := by simpa [Addr.add] using World.cell?_spot hc0
    subst hspot
    refine ⟨b, off, rfl, fun j hj => ?_⟩
    have hj' : j < zs.length := by simp at hj; omega
    have hcj := hcell j hj'
    have hadd : (⟨b, off, none⟩ : Addr).add j = ⟨b, off + j, none⟩ := by unfold Addr.add; split <;> simp_all
    rw [hadd] at hcj
    rw [hcj]
    have hzj : (Lit.int .u8 (zs[j])).wf = true := hwz _ (List.getElem_mem hj')
    have hb := bounds_u8 hzj
    simp only [List.getElem_map, List.getElem_take, List.getD_eq_getElem?_getD, List.getElem?_eq_getElem hj', Option.getD_some]
    rw [UInt8.toNat_ofNat']
    congr 2
    omega


set_option maxRecDepth 100000 in
theorem lifted (os : Os) (started : os.Started) (H : Type) (enc : TypeId × Value → H) :
    ReturnsInHanded {} Try.checked os 4 .any (Rows.encNumbersSpec.pre6 enc Try.prog Try.f4 Rows.encNumbersRow.domain false) (Rows.encNumbersSpec.post enc Try.prog Try.f4 false true false false) := by
  refine returnsInHanded_of_change_sized (C := Try.checked) own started (by kernel_rfl) Try.func4
    (ChangeSpec.witness6 (enc := enc) (C := Try.checked) false ⟨#[], #[.slice none 0 0, .int .u64 0, .int .i64 0], []⟩ 8 (by kernel_rfl) (by kernel_rfl) (by kernel_rfl) (by kernel_rfl)) ?_
  intro W base args ds gs before hval0 hW hcnd hsz0 _
  have hsz : (DataW.weightsEach Try.prog (Try.f4.params.toList ++ Rows.encNumbersSpec.plain.varTypes Try.prog) (ds ++ gs)).all (· ≤ reachBytes) = true := hsz0
  have hval : ∀ (j : Nat) t v, Try.f4.params[j]? = some t → args[j]? = some v → Value.okWide Try.prog W .any base t v := hval0
  have hW' := hW
  obtain ⟨p, q, hA0, hV, rfl, hfz, hnd⟩ := hW
  have hA : DataW.TrodAll enc Try.prog W 0 (fun _ => true) true Try.f4.params.toList args.toList ds p := hA0
  rw [Try.params4] at hA hval hsz
  obtain ⟨v0, vs0, d0, ds0, p0, q0, hargs, rfl, rfl, h0, r0⟩ := trodAll_cons hA
  obtain ⟨v1, vs1, d1, ds1, p1, q1, rfl, rfl, rfl, h1, r1⟩ := trodAll_cons r0
  obtain ⟨v2, vs2, d2, ds2, p2, q2, rfl, rfl, rfl, h2, r2⟩ := trodAll_cons r1
  obtain ⟨rfl, rfl, rfl⟩ := trodAll_nil r2
  obtain rfl : args = #[v0, v1, v2] := by cases args; simp_all
  obtain ⟨rfl, rfl⟩ := trodVars_none hV
  have k0 := h0
  have lt0 : ∀ x ∈ p0, x.block < W.heap.size := by obtain ⟨m, hm⟩ := k0; exact DataW.trod_lt m _ _ _ hm
  obtain ⟨a0, len0, cap0, rfl⟩ := okWide_slice Try.underlying22 (hval 0 22 v0 rfl rfl)
  obtain ⟨X, rfl, rfl, rfl, w1⟩ := open_int Try.underlying36 (hval 1 36 v1 rfl rfl) h1
  obtain ⟨most, rfl, rfl, rfl, w2⟩ := open_int Try.underlying3 (hval 2 3 v2 rfl rfl) h2
  have bX := bounds_u64 w1
  have bM := bounds_i64 w2
  obtain ⟨x, rfl⟩ : ∃ x : Nat, X = x := ⟨X.toNat, by omega⟩
  obtain ⟨l, rfl, hb, hl, n0⟩ := bytes_in h0 (fun elems spr e => by
    have := sized_slice hsz (j := 0) (t := 22) (e := 5) (elems := elems) (spare := spr) rfl (by rw [e]; rfl) Try.underlying22
    rwa [bytesT8] at this) rfl rfl
  clear hA0 hval0
  refine (walk W a0 cap0 l x most hb n0 hl (by omega) (by omega) (by omega)).mono fun e W' ⟨he, bel⟩ => ?_
  subst he
  exact ⟨_, rfl, _, _, _, [], _, [], hW', trodAll_mk1 (shut_bool Try.underlying4 _), (trodAll_cons_mk (Below.trod laidOut (by kernel_rfl) (of_decide_eq_true (by kernel_rfl)) k0 bel lt0) (trodAll_cons_mk (shut_int Try.underlying36 w1) (trodAll_cons_mk (shut_int Try.underlying3 w2) trodAll_mk0))), rfl, bel.frame _, fun h => by cases h⟩

theorem over : Rows.encNumbersRow.holds Try.pinned (OpenSpec.ofChange Rows.encNumbersSpec) :=
  OpenClaim.holds_of_wide 4 Try.f4 rfl rfl rfl rfl rfl rfl rfl ⟨rfl, rfl, rfl, rfl, rfl⟩ rfl rfl rfl rfl rfl (by kernel_rfl) Try.func4 (by kernel_rfl)
    (of_decide_eq_true (by kernel_rfl)) (by unfold Func.isWrapper; first | (rw [if_pos (by decide +kernel)]; kernel_rfl) | (rw [if_neg (by decide +kernel)]; exact ⟨rfl, rfl⟩))
    (fun os started H enc _ => lifted os started H enc)
end Go.Proofs.Ytbcbdaaaglkjhaa.encNumbers

namespace Go.Proofs.Ytbcbdaaaglkjhaa
/-- THE STATEMENT. -/
theorem encNumbers_holds : Rows.EncNumbersSaid := encNumbers.over
#print axioms encNumbers_holds
end Go.Proofs.Ytbcbdaaaglkjhaa
