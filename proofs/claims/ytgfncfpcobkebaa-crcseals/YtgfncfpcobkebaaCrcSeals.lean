/-
  Proved: for all bytes b, every place at and every byte by the call CrcSeals(b, at, by) returns true and leaves its arguments as they were: what was sealed is opened as it was, and one altered byte is told.
  Conditions: none beyond the form's own reach.
-/
import Derived.Test.YtgfncfpcobkebaaCFrame
import Derived.Test.YtgfncfpcobkebaaCPick
import Derived.Test.YtgfncfpcobkebaaROpened
namespace Go.Proofs.Ytgfncfpcobkebaa.crcSeals
open Go.ChangeShapes Go.WideShapes Go.ChangeAt Go.RowKit
open Go.Proofs.Ytgfncfpcobkebaa

/-- Sealed bytes with one byte altered open just if it is altered by nothing. -/
theorem altered (l : List UInt8) (k : Nat) (hk : k < (sealB l).length) (e : UInt8) : opnB ((sealB l).set k ((sealB l)[k] ^^^ e)) = decide (e.toNat = 0) := by
  have h4 : 4 ≤ ((sealB l).set k ((sealB l)[k] ^^^ e)).length := by rw [List.length_set, sealB_length]; omega
  by_cases h0 : e.toNat = 0
  · have : e = 0 := UInt8.toNat_inj.mp h0
    subst this
    rw [UInt8.xor_zero, List.set_getElem_self, opnB_seal]
    rfl
  · rw [decide_eq_false h0, Bool.eq_false_iff]
    intro ho
    have hs := (opnB_iff _ h4).mp ho
    have r1 : Crc.reg Crc.ones ((sealB l).set k ((sealB l)[k] ^^^ e)) = Crc.steps 32 Crc.ones := by
      rw [← hs]
      exact (Crc.sealed_iff _ _ (Crc.sum_lt _)).mp rfl
    rw [Crc.reg_set, show Crc.reg Crc.ones (sealB l) = Crc.steps 32 Crc.ones from (Crc.sealed_iff l _ (Crc.sum_lt l)).mp rfl] at r1
    have := congrArg (Crc.steps 32 Crc.ones ^^^ ·) r1
    simp only [← Nat.xor_assoc, Nat.xor_self, Nat.zero_xor] at this
    exact h0 (Crc.steps_ne _ _ (Crc.byte_lt32 e) this)

set_option maxHeartbeats 3200000 in
theorem walk_R (w : World) (a0 : Option Addr) (c0 : Nat) (l : List UInt8) (at' : Int) (y : UInt8) (h : BytesIn w (.slice a0 l.length c0) l) (hl : l.length ≤ 140737488351232) (h1 : -9223372036854775808 ≤ at') (h2 : at' ≤ 9223372036854775807) (R : Bool) (hR : R = decide (y.toNat = 0)) (B : Nat) (hB : B = y.toNat) (iR : ((B : Int) == 0) = R) :
    Calls Try.prog 5 #[.slice a0 l.length c0, .int .i64 at', .int .u8 (B : Int)] w fun e w' => e = .returned (.bool true) ∧ Below w.heap.size w w' := by
  obtain ⟨S, hS⟩ : ∃ S, S = sealB l := ⟨_, rfl⟩
  have lS : S.length = l.length + 4 := by rw [hS]; exact sealB_length l
  have SE : Hid (Calls Try.prog 15 #[.slice a0 l.length c0] w fun e w' => e = .returned (.slice (some ⟨w.heap.size, 0, none⟩) (l.length + 4) (l.length + 4)) ∧ Ext w.heap.size w (.slice none 0 0) w' (.slice (some ⟨w.heap.size, 0, none⟩) (l.length + 4) (l.length + 4)) S) := by rw [hS]; exact sealed_any w a0 c0 l h hl
  have OP : Hid (∀ wx g, BytesIn wx (.slice (some ⟨g, 0, none⟩) (l.length + 4) (l.length + 4)) S → Calls Try.prog 9 #[.slice (some ⟨g, 0, none⟩) (l.length + 4) (l.length + 4)] wx fun e w' => ∃ v, e = .returned (.tuple #[v, .bool true]) ∧ Below wx.heap.size wx w' ∧ BytesIn w' v l) := fun wx g hx => by
    have := opened_any wx (some ⟨g, 0, none⟩) (l.length + 4) S (by rw [lS]; exact hx) (by omega)
    rw [lS] at this
    refine this.mono ?_
    rintro e w' ⟨v, rfl, hx⟩
    rw [hS, opnL_seal] at hx
    rw [hS, opnB_seal]
    exact ⟨v, rfl, hx.below (Nat.le_refl _) (by simp [Value.ownBlock]), bytes_of_own hx.own (by omega)⟩
  have SB : Hid (∀ wx v, BytesIn wx v l → Below w.heap.size w wx → Calls Try.prog 14 #[v, .slice a0 l.length c0] wx fun e w' => e = .returned (.bool true) ∧ Below wx.heap.size wx w') := fun wx v hv hw => by
    have := same_any wx v _ l l hv (h.later hw)
    rwa [decide_eq_true rfl] at this
  have PK : Hid (∀ wx, Calls Try.prog 24 #[.int .i64 at', .int .i64 ((l.length : Int) + 4)] wx fun e w' => ∃ k : Nat, k < l.length + 4 ∧ e = .returned (.int .i64 (k : Int)) ∧ w' = wx) := fun wx => by
    have := pick_any wx at' (l.length + 4) (by omega) (by omega) h1 h2
    rwa [show ((l.length + 4 : Nat) : Int) = (l.length : Int) + 4 from by omega] at this
  have FX : Hid (∀ k, k < l.length + 4 → ∀ (wx : World) (g : Nat), wx.ownsRow g 5 1 (.slice (some ⟨g, 0, none⟩) (l.length + 4) (l.length + 4)) (l.length + 4) (bc S) → ∃ (c d : Nat) (S' : List UInt8), wx.cell? ⟨g, k, none⟩ = some (.int .u8 (c : Int)) ∧ wx.frozen? ⟨g, k, none⟩ = false ∧ bits .xor .u8 (c : Int) (B : Int) = (d : Int) ∧ S'.length = l.length + 4 ∧ opnB S' = R ∧
      (wx.setCell ⟨g, k, none⟩ (.int .u8 (d : Int))).ownsRow g 5 1 (.slice (some ⟨g, 0, none⟩) (l.length + 4) (l.length + 4)) (l.length + 4) (bc S')) := fun k hk wx g ho => by
    have hkS : k < S.length := by omega
    refine ⟨(S[k]).toNat, (S[k] ^^^ y).toNat, S.set k (S[k] ^^^ y), ?_, ho.frozenAt k, ?_, by rw [List.length_set]; exact lS, ?_, ?_⟩
    · rw [ho.cellAt k (by omega), bc_get S k hkS]
    · rw [hB, u8_xor_nat _ _ (UInt8.toNat_lt _) (UInt8.toNat_lt _), UInt8.toNat_xor]
    · subst hS
      rw [altered l k hkS y, hR]
    · have := (ho.stored k (.int .u8 ((S[k] ^^^ y).toNat : Int))).1
      rwa [bc_set] at this
  have O1 : Hid (∀ wx g S', S'.length = l.length + 4 → opnB S' = R → BytesIn wx (.slice (some ⟨g, 0, none⟩) (l.length + 4) (l.length + 4)) S' → Calls Try.prog 9 #[.slice (some ⟨g, 0, none⟩) (l.length + 4) (l.length + 4)] wx fun e w' => ∃ v, e = .returned (.tuple #[v, .bool R]) ∧ Below wx.heap.size wx w') := fun wx g S' l' o' hx => by
    have := opened_any wx (some ⟨g, 0, none⟩) (l.length + 4) S' (by rw [l']; exact hx) (by omega)
    rw [l', o'] at this
    refine this.mono ?_
    rintro e w' ⟨v, rfl, hx⟩
    exact ⟨v, rfl, hx.below (Nat.le_refl _) (by simp [Value.ownBlock])⟩
  have O2 : Hid (∀ wx g S', S'.length = l.length + 4 → opnB S' = R → BytesIn wx (.slice (some ⟨g, 0, none⟩) (l.length + 4) (l.length + 4)) S' → Calls Try.prog 17 #[.slice (some ⟨g, 0, none⟩) (l.length + 4) (l.length + 4)] wx fun e w' => ∃ v, e = .returned (.tuple #[v, .bool R]) ∧ Below wx.heap.size wx w') := fun wx g S' l' o' hx => by
    have := refOpened_any wx (some ⟨g, 0, none⟩) (l.length + 4) S' (by rw [l']; exact hx) (by omega) (by omega)
    rw [l', o'] at this
    refine this.mono ?_
    rintro e w' ⟨v, rfl, hx⟩
    exact ⟨v, rfl, hx.below (Nat.le_refl _) (by simp [Value.ownBlock])⟩
  have LS : Hid (S.length = l.length + 4) := lS
  have L7 : Hid (∀ S' : List UInt8, S'.length = l.length + 4 → S'.length ≤ 140737488355328) := fun S' h => by omega
  clear h hS lS hR hB
  cases R
  all_goals
    go_enter Try.func5, Try.ntmps5
    go_wp2_with (first
      | (go_at_call 15; refine SE.out.mono ?_; rintro e w2 ⟨rfl, x2⟩; have B2 := x2.below (Nat.le_refl _) (by simp [Value.ownBlock]); have V2 := bytes_of_own x2.own (L7.out _ LS.out); have Q2 : Hid (w2.ownsRow w.heap.size 5 1 (.slice (some ⟨w.heap.size, 0, none⟩) (l.length + 4) (l.length + 4)) (l.length + 4) (bc S)) := (by have := x2.own; rw [LS.out] at this; exact this); have z2 := x2.own.lt _ rfl; clear SE x2)
      | (go_at_call 13; refine (lives_any _).mono ?_; rintro e w3 ⟨rfl, b3⟩; have V3 := V2.later b3; have K3 := b3; clear V2 b3)
      | (go_at_call 9; have g := OP.out _ _ V3; refine g.mono ?_; rintro e w4 ⟨v4, rfl, b4, U4⟩; have K4 := K3.trans (b4.mono K3.size); clear OP V3 b4 g)
      | (go_at_call 14; refine (SB.out _ _ U4 (B2.trans (K4.mono B2.size))).mono ?_; rintro e w5 ⟨rfl, b5⟩; have K5 := K4.trans (b5.mono K4.size); have Q5 := own_later Q2.out K5; have B5 := B2.trans (K5.mono B2.size); clear SB U4 b5 K4 K3 Q2)
      | (go_at_call 24; refine (PK.out _).mono ?_; rintro e w6 ⟨k, hk, rfl, rfl⟩; obtain ⟨c, d, S', d0, f0, X0, l', o', Q6⟩ := FX.out k hk _ _ Q5; have M6 : Hid (S'.length = l.length + 4 ∧ opnB S' = _) := ⟨l', o'⟩; have V6 := bytes_of_own (by rw [l']; exact Q6) (L7.out _ l'); have B6 := B5.setCell (p := ⟨w.heap.size, k, none⟩) (Nat.le_refl _) (.int .u8 (d : Int)); have i6 : (k : Int) < (l.length : Int) + 4 := (by omega); clear PK FX Q5 Q6 l' o')
      | (go_at_call 9; have g := O1.out _ _ _ M6.out.1 M6.out.2 V6; refine g.mono ?_; rintro e w7 ⟨v7, rfl, b7⟩; have V7 := V6.later b7; have B7 := B6.trans (b7.mono B6.size); clear O1 V6 g b7)
      | (go_at_call 17; have g := O2.out _ _ _ M6.out.1 M6.out.2 V7; refine g.mono ?_; rintro e w8 ⟨v8, rfl, b8⟩; have B8 := B7.trans (b8.mono B7.size); clear O2 V7 g b8))
    all_goals go_ret
    all_goals exact ⟨rfl, B8⟩

theorem walk (w : World) (a0 : Option Addr) (c0 : Nat) (l : List UInt8) (at' : Int) (B : Nat) (h : BytesIn w (.slice a0 l.length c0) l) (hl : l.length ≤ 140737488351232) (h1 : -9223372036854775808 ≤ at') (h2 : at' ≤ 9223372036854775807) (hB : B < 256) :
    Calls Try.prog 5 #[.slice a0 l.length c0, .int .i64 at', .int .u8 (B : Int)] w fun e w' => e = .returned (.bool true) ∧ Below w.heap.size w w' := by
  have e : B = (UInt8.ofNat B).toNat := by rw [UInt8.toNat_ofNat']; omega
  refine walk_R w a0 c0 l at' (UInt8.ofNat B) h hl h1 h2 (decide (B = 0)) (by rw [← e]) B e ?_
  by_cases h0 : B = 0
  · subst h0; rfl
  · rw [decide_eq_false h0]; simp; omega

set_option maxRecDepth 100000 in
theorem lifted (os : Os) (started : os.Started) (H : Type) (enc : TypeId × Value → H) :
    ReturnsInHanded {} Try.checked os 5 .any (Rows.crcSealsSpec.pre6 enc Try.prog Try.f5 Rows.crcSealsRow.domain false) (Rows.crcSealsSpec.post enc Try.prog Try.f5 false true false false) := by
  refine returnsInHanded_of_change_sized (C := Try.checked) own started (by kernel_rfl) Try.func5
    (ChangeSpec.witness6 (enc := enc) (C := Try.checked) false ⟨#[], #[.slice none 0 0, .int .i64 0, .int .u8 0], []⟩ 8 (by kernel_rfl) (by kernel_rfl) (by kernel_rfl) (by kernel_rfl)) ?_
  intro W base args ds gs before hval0 hW hcnd hsz0 _
  have hsz : (DataW.weightsEach Try.prog (Try.f5.params.toList ++ Rows.crcSealsSpec.plain.varTypes Try.prog) (ds ++ gs)).all (· ≤ reachBytes) = true := hsz0
  have hval : ∀ (j : Nat) t v, Try.f5.params[j]? = some t → args[j]? = some v → Value.okWide Try.prog W .any base t v := hval0
  have hW' := hW
  obtain ⟨p, q, hA0, hV, rfl, hfz, hnd⟩ := hW
  have hA : DataW.TrodAll enc Try.prog W 0 (fun _ => true) true Try.f5.params.toList args.toList ds p := hA0
  rw [Try.params5] at hA hval hsz
  obtain ⟨v0, vs0, d0, ds0, p0, q0, hargs, rfl, rfl, h0, r0⟩ := trodAll_cons hA
  obtain ⟨v1, vs1, d1, ds1, p1, q1, rfl, rfl, rfl, h1, r1⟩ := trodAll_cons r0
  obtain ⟨v2, vs2, d2, ds2, p2, q2, rfl, rfl, rfl, h2, r2⟩ := trodAll_cons r1
  obtain ⟨rfl, rfl, rfl⟩ := trodAll_nil r2
  obtain rfl : args = #[v0, v1, v2] := by cases args; simp_all
  obtain ⟨rfl, rfl⟩ := trodVars_none hV
  have k0 := h0
  have lt0 : ∀ x ∈ p0, x.block < W.heap.size := by obtain ⟨m, hm⟩ := k0; exact DataW.trod_lt m _ _ _ hm
  obtain ⟨a0, len0, cap0, rfl⟩ := okWide_slice Try.underlying22 (hval 0 22 v0 rfl rfl)
  obtain ⟨at', rfl, rfl, rfl, w1⟩ := open_int Try.underlying3 (hval 1 3 v1 rfl rfl) h1
  obtain ⟨X, rfl, rfl, rfl, w2⟩ := open_int Try.underlying5 (hval 2 5 v2 rfl rfl) h2
  have bM := bounds_i64 w1
  have bX := bounds_u8 w2
  obtain ⟨b, rfl⟩ : ∃ x : Nat, X = x := ⟨X.toNat, by omega⟩
  obtain ⟨l, rfl, hb, hl, _, _⟩ := bytes_in h0 (fun elems spr e => by
    have := sized_slice hsz (j := 0) (t := 22) (e := 5) (elems := elems) (spare := spr) rfl (by rw [e]; rfl) Try.underlying22
    rwa [bytesT8] at this) rfl rfl
  clear hA0 hval0
  refine (walk W a0 cap0 l at' b hb hl (by omega) (by omega) (by omega)).mono fun e W' ⟨he, bel⟩ => ?_
  subst he
  exact ⟨_, rfl, _, _, _, [], _, [], hW', trodAll_mk1 (shut_bool Try.underlying4 _), (trodAll_cons_mk (Below.trod laidOut (by kernel_rfl) (of_decide_eq_true (by kernel_rfl)) k0 bel lt0) (trodAll_cons_mk (shut_int Try.underlying3 w1) (trodAll_cons_mk (shut_int Try.underlying5 w2) trodAll_mk0))), rfl, bel.frame _, fun h => by cases h⟩

theorem over : Rows.crcSealsRow.holds Try.pinned (OpenSpec.ofChange Rows.crcSealsSpec) :=
  OpenClaim.holds_of_wide 5 Try.f5 rfl rfl rfl rfl rfl rfl rfl ⟨rfl, rfl, rfl, rfl, rfl⟩ rfl rfl rfl rfl rfl (by kernel_rfl) Try.func5 (by kernel_rfl)
    (of_decide_eq_true (by kernel_rfl)) (by unfold Func.isWrapper; first | (rw [if_pos (by decide +kernel)]; kernel_rfl) | (rw [if_neg (by decide +kernel)]; exact ⟨rfl, rfl⟩))
    (fun os started H enc _ => lifted os started H enc)
end Go.Proofs.Ytgfncfpcobkebaa.crcSeals

namespace Go.Proofs.Ytgfncfpcobkebaa
/-- THE STATEMENT. -/
theorem crcSeals_holds : Rows.CrcSealsSaid := crcSeals.over
#print axioms crcSeals_holds
end Go.Proofs.Ytgfncfpcobkebaa
