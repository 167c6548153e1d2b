/-
  Proved: for all bytes b, every place at and all bits the call CrcBurst(b, at, bits) returns true and leaves its arguments as they were: each burst of at most 32 bits in sealed bytes is found, and the burst turned once more gives the bytes back.
  Conditions: none beyond the form's own reach.
-/
import Derived.Test.YtgfncfpcobkebaaCFrame
import Derived.Test.YtgfncfpcobkebaaCBurst
import Derived.Test.YtgfncfpcobkebaaROpened
namespace Go.Proofs.Ytgfncfpcobkebaa.crcBurst
open Go.ChangeShapes Go.WideShapes Go.ChangeAt Go.RowKit
open Go.Proofs.Ytgfncfpcobkebaa

/-- What a burst of one bit or more leaves of sealed bytes does not open. -/
theorem not_open (l : List UInt8) (p b : Nat) (hb : b < 4294967296) (h0 : b ≠ 0) (h : burB (sealB l) (p : Int) b = true) : opnB (Crc.burst (sealB l) p b 32) = false := by
  rw [Bool.eq_false_iff]
  intro e
  have h4 : 4 ≤ (Crc.burst (sealB l) p b 32).length := by rw [Crc.burst_length, sealB_length]; omega
  have hs := (opnB_iff _ h4).mp e
  refine Crc.burst_found l p b hb h0 ((burB_iff (sealB l) p b).mp h) ?_
  show Crc.reg Crc.ones (Crc.burst (sealB l) p b 32) = _
  rw [← hs]
  exact (Crc.sealed_iff _ _ (Crc.sum_lt _)).mp rfl

theorem ext_shape {base : Nat} {a b : World} {u v : Value} {l : List UInt8} (h : Ext base a u b v l) : ∃ ad cap, v = .slice ad l.length cap ∧ l.length ≤ cap := by
  rcases h.own.2 with ⟨rfl, h0⟩ | ⟨g, cap, cur, rfl, _, _, hnc, _⟩
  · exact ⟨none, 0, by rw [h0], by omega⟩
  · exact ⟨_, cap, rfl, hnc⟩

theorem str_of_own {w : World} {base n : Nat} {v : Value} {l : List UInt8} (h : w.ownsRow base 5 1 v n (bc l)) (hn : n = l.length) : (convert 22 9 v).run Try.prog w = .ok (.string ⟨l.toArray⟩) w := by
  subst hn
  exact (Ext.start h).str

set_option maxHeartbeats 1600000 in
theorem walk_bad (w : World) (a0 : Option Addr) (c0 : Nat) (l : List UInt8) (at' : Int) (b : Nat) (h : BytesIn w (.slice a0 l.length c0) l) (hl : l.length ≤ 140737488351232) (ha : at' ≤ 9223372036854775807) (hb : b < 4294967296) (hB : burB (sealB l) at' b = false) :
    Calls Try.prog 6 #[.slice a0 l.length c0, .int .i64 at', .int .u32 (b : Int)] w fun e w' => e = .returned (.bool true) ∧ Below w.heap.size w w' := by
  obtain ⟨S, hS⟩ : ∃ S, S = sealB l := ⟨_, rfl⟩
  have lS : S.length = l.length + 4 := by rw [hS]; exact sealB_length l
  have SE : Hid (∀ wx, Below w.heap.size w wx → Calls Try.prog 15 #[.slice a0 l.length c0] wx fun e w' => e = .returned (.slice (some ⟨wx.heap.size, 0, none⟩) (l.length + 4) (l.length + 4)) ∧ Ext wx.heap.size wx (.slice none 0 0) w' (.slice (some ⟨wx.heap.size, 0, none⟩) (l.length + 4) (l.length + 4)) S) := fun wx hw => by rw [hS]; exact sealed_any wx a0 c0 l (h.later hw) hl
  have BU : Hid (∀ wx ad cap, BytesIn wx (.slice ad (l.length + 4) cap) S → Calls Try.prog 10 #[.slice ad (l.length + 4) cap, .int .i64 at', .int .u32 (b : Int)] wx fun e w' => ∃ a c, e = .returned (.tuple #[.slice a 0 c, .int .i64 2]) ∧ Below wx.heap.size wx w') := fun wx ad cap hx => by
    have := burst_any wx ad cap S at' b (by rw [lS]; exact hx) ha hb
    rw [lS] at this
    refine this.mono ?_
    rintro e w' ⟨v, rfl, hx⟩
    have e1 : burE S at' b = 2 := by unfold burE; rw [hS, hB]; rfl
    have e2 : burL S at' b = [] := by unfold burL; rw [hS, hB]; rfl
    rw [e1]
    rw [e2] at hx
    obtain ⟨ad, cap, rfl, _⟩ := ext_shape hx
    exact ⟨ad, cap, rfl, hx.below (Nat.le_refl _) (by simp [Value.ownBlock])⟩
  have LS : Hid (S.length ≤ 140737488355328) := by show _ ≤ _; omega
  clear h hS lS hB
  go_enter Try.func6, Try.ntmps6
  go_wp2_with (first
    | (go_at_call 13; refine (lives_any _).mono ?_; rintro e w1 ⟨rfl, B1⟩)
    | (go_at_call 15; refine (SE.out _ B1).mono ?_; rintro e w2 ⟨rfl, x2⟩; have b2 := x2.below (Nat.le_refl _) (by simp [Value.ownBlock]); have B2 := B1.trans (b2.mono B1.size); have V2 := bytes_of_own x2.own LS.out; clear SE x2 b2)
    | (go_at_call 10; refine (BU.out _ _ _ V2).mono ?_; rintro e w3 ⟨a3, c3, rfl, b3⟩; have B3 := B2.trans (b3.mono B2.size); clear BU V2 b3))
  all_goals go_ret
  all_goals exact ⟨rfl, B3⟩

set_option maxHeartbeats 1600000 in
theorem walk_good (w : World) (a0 : Option Addr) (c0 : Nat) (l : List UInt8) (p b : Nat) (h : BytesIn w (.slice a0 l.length c0) l) (hl : l.length ≤ 140737488351232) (hp : p < 9223372036854775808) (hb : b < 4294967296) (hB : burB (sealB l) (p : Int) b = true) :
    Calls Try.prog 6 #[.slice a0 l.length c0, .int .i64 (p : Int), .int .u32 (b : Int)] w fun e w' => e = .returned (.bool true) ∧ Below w.heap.size w w' := by
  obtain ⟨S, hS⟩ : ∃ S, S = sealB l := ⟨_, rfl⟩
  obtain ⟨X, hX⟩ : ∃ X, X = Crc.burst S p b 32 := ⟨_, rfl⟩
  obtain ⟨T, hT⟩ : ∃ T : ByteArray, T = ⟨S.toArray⟩ := ⟨_, rfl⟩
  have lS : S.length = l.length + 4 := by rw [hS]; exact sealB_length l
  have lX : X.length = l.length + 4 := by rw [hX, Crc.burst_length, lS]
  have SE : Hid (∀ wx, Below w.heap.size w wx → Calls Try.prog 15 #[.slice a0 l.length c0] wx fun e w' => e = .returned (.slice (some ⟨wx.heap.size, 0, none⟩) (l.length + 4) (l.length + 4)) ∧ Ext wx.heap.size wx (.slice none 0 0) w' (.slice (some ⟨wx.heap.size, 0, none⟩) (l.length + 4) (l.length + 4)) S) := fun wx hw => by rw [hS]; exact sealed_any wx a0 c0 l (h.later hw) hl
  have e1 : burE S p b = 0 := by unfold burE; rw [hS, hB]; rfl
  have e2 : burL S p b = X := by unfold burL; rw [hX, hS, hB, Int.toNat_natCast]; rfl
  have hB2 : burB X p b = true := by
    rw [burB_iff]
    rw [hS.symm, burB_iff] at hB
    rw [lX, ← lS]
    exact hB
  have f1 : burE X p b = 0 := by unfold burE; rw [hB2]; rfl
  have f2 : burL X p b = S := by unfold burL; rw [hB2, Int.toNat_natCast, hX]; exact burst_burst S p b 32
  have BU : Hid (∀ wx ad cap, BytesIn wx (.slice ad (l.length + 4) cap) S → Calls Try.prog 10 #[.slice ad (l.length + 4) cap, .int .i64 (p : Int), .int .u32 (b : Int)] wx fun e w' => ∃ a c, e = .returned (.tuple #[.slice a (l.length + 4) c, .int .i64 0]) ∧ l.length + 4 ≤ c ∧ Below wx.heap.size wx w' ∧ BytesIn w' (.slice a (l.length + 4) c) X) := fun wx ad cap hx => by
    have := burst_any wx ad cap S p b (by rw [lS]; exact hx) (by omega) hb
    rw [lS] at this
    refine this.mono ?_
    rintro e w' ⟨v, rfl, hx⟩
    rw [e1]
    rw [e2] at hx
    obtain ⟨ad, cap, rfl, hc⟩ := ext_shape hx
    have hin := bytes_of_own hx.own (by omega)
    rw [lX] at hc hin ⊢
    exact ⟨ad, cap, rfl, hc, hx.below (Nat.le_refl _) (by simp [Value.ownBlock]), hin⟩
  have BV : Hid (∀ wx ad cap, BytesIn wx (.slice ad (l.length + 4) cap) X → Calls Try.prog 10 #[.slice ad (l.length + 4) cap, .int .i64 (p : Int), .int .u32 (b : Int)] wx fun e w' => ∃ v, e = .returned (.tuple #[v, .int .i64 0]) ∧ Below wx.heap.size wx w' ∧ (∀ wz, Below w'.heap.size w' wz → (convert 22 9 v).run Try.prog wz = .ok (.string T) wz)) := fun wx ad cap hx => by
    have := burst_any wx ad cap X p b (by rw [lX]; exact hx) (by omega) hb
    rw [lX] at this
    refine this.mono ?_
    rintro e w' ⟨v, rfl, hx⟩
    rw [f1]
    rw [f2] at hx
    refine ⟨v, rfl, hx.below (Nat.le_refl _) (by simp [Value.ownBlock]), fun wz hz => ?_⟩
    rw [hT]
    exact str_of_own (own_later hx.own hz) rfl
  have OP : Hid (b ≠ 0 → ∀ wx ad cap, BytesIn wx (.slice ad (l.length + 4) cap) X → l.length + 4 ≤ cap → Calls Try.prog 9 #[.slice ad (l.length + 4) cap] wx fun e w' => ∃ v, e = .returned (.tuple #[v, .bool false]) ∧ Below wx.heap.size wx w') := fun h0 wx ad cap hx hc => by
    have := opened_any wx ad cap X (by rw [lX]; exact hx) (by omega)
    rw [lX] at this
    refine this.mono ?_
    rintro e w' ⟨v, rfl, hx⟩
    have : opnB X = false := by rw [hX, hS]; exact not_open l p b hb h0 hB
    rw [this]
    exact ⟨v, rfl, hx.below (Nat.le_refl _) (by simp [Value.ownBlock])⟩
  have SS : Hid (∀ wx g, wx.ownsRow g 5 1 (.slice (some ⟨g, 0, none⟩) (l.length + 4) (l.length + 4)) S.length (bc S) → ∀ wz, Below wx.heap.size wx wz → (convert 22 9 (.slice (some ⟨g, 0, none⟩) (l.length + 4) (l.length + 4))).run Try.prog wz = .ok (.string T) wz) := fun wx g ho wz hz => by
    rw [hT]
    exact str_of_own (own_later ho hz) rfl
  have LS : Hid (S.length ≤ 140737488355328) := by show _ ≤ _; omega
  clear h hS lS hB hX lX hT e1 e2 f1 f2 hB2
  by_cases hb0 : b = 0
  · subst hb0
    go_enter Try.func6, Try.ntmps6
    go_wp2_with (first
      | (go_at_call 13; refine (lives_any _).mono ?_; rintro e w1 ⟨rfl, B1⟩)
      | (go_at_call 15; refine (SE.out _ B1).mono ?_; rintro e w2 ⟨rfl, x2⟩; have b2 := x2.below (Nat.le_refl _) (by simp [Value.ownBlock]); have B2 := B1.trans (b2.mono B1.size); have V2 := bytes_of_own x2.own LS.out; clear SE x2 b2)
      | (go_at_call 10; refine (BU.out _ _ _ V2).mono ?_; rintro e w3 ⟨a3, c3, rfl, hc3, b3, V3⟩; have B3 := B2.trans (b3.mono B2.size); clear BU V2 b3 V3))
    all_goals go_ret
    all_goals exact ⟨rfl, B3⟩
  · have OQ := OP.out hb0
    have OQ' : Hid (∀ wx ad cap, BytesIn wx (.slice ad (l.length + 4) cap) X → l.length + 4 ≤ cap → Calls Try.prog 9 #[.slice ad (l.length + 4) cap] wx fun e w' => ∃ v, e = .returned (.tuple #[v, .bool false]) ∧ Below wx.heap.size wx w') := OQ
    have i0 : ((b : Int) == 0) = false := by simp; omega
    clear OP OQ
    go_enter Try.func6, Try.ntmps6
    go_wp2_with (first
      | (go_at_call 13; refine (lives_any _).mono ?_; rintro e w1 ⟨rfl, B1⟩)
      | (go_at_call 15; refine (SE.out _ B1).mono ?_; rintro e w2 ⟨rfl, x2⟩; have b2 := x2.below (Nat.le_refl _) (by simp [Value.ownBlock]); have B2 := B1.trans (b2.mono B1.size); have V2 := bytes_of_own x2.own LS.out; have O2 : Hid (∀ wz, Below w2.heap.size w2 wz → (convert 22 9 (.slice (some ⟨w1.heap.size, 0, none⟩) (l.length + 4) (l.length + 4))).run Try.prog wz = .ok (.string T) wz) := SS.out _ _ x2.own; clear SE SS x2 b2)
      | (go_at_call 10; have g := BU.out _ _ _ V2; refine g.mono ?_; rintro e w3 ⟨a3, c3, rfl, hc3, b3, V3⟩; have K3 := b3; clear BU V2 b3 g)
      | (go_at_call 9; refine (OQ'.out _ _ _ V3 hc3).mono ?_; rintro e w4 ⟨v4, rfl, b4⟩; have V4 := V3.later b4; have K4 := K3.trans (b4.mono K3.size); clear OQ' V3 b4)
      | (go_at_call 10; have g := BV.out _ _ _ V4; refine g.mono ?_; rintro e w5 ⟨v5, rfl, b5, C5⟩; have K5 := K4.trans (b5.mono K4.size); have B5 := B2.trans (K5.mono B2.size); have S1 := C5 _ (Below.refl _ _); have S3 := O2.out _ K5; clear BV V4 b5 C5 g))
    all_goals go_ret
    all_goals exact ⟨rfl, B5⟩

theorem walk (w : World) (a0 : Option Addr) (c0 : Nat) (l : List UInt8) (at' : Int) (b : Nat) (h : BytesIn w (.slice a0 l.length c0) l) (hl : l.length ≤ 140737488351232) (ha : at' ≤ 9223372036854775807) (hb : b < 4294967296) :
    Calls Try.prog 6 #[.slice a0 l.length c0, .int .i64 at', .int .u32 (b : Int)] w fun e w' => e = .returned (.bool true) ∧ Below w.heap.size w w' := by
  cases hB : burB (sealB l) at' b
  · exact walk_bad w a0 c0 l at' b h hl ha hb hB
  · have h0 : 0 ≤ at' := by
      rcases Int.lt_or_le at' 0 with h | h
      · rw [burB_neg h] at hB; cases hB
      · exact h
    obtain ⟨p, rfl⟩ : ∃ p : Nat, at' = p := ⟨at'.toNat, by omega⟩
    exact walk_good w a0 c0 l p b h hl (by omega) hb hB

set_option maxRecDepth 100000 in
theorem lifted (os : Os) (started : os.Started) (H : Type) (enc : TypeId × Value → H) :
    ReturnsInHanded {} Try.checked os 6 .any (Rows.crcBurstSpec.pre6 enc Try.prog Try.f6 Rows.crcBurstRow.domain false) (Rows.crcBurstSpec.post enc Try.prog Try.f6 false true false false) := by
  refine returnsInHanded_of_change_sized (C := Try.checked) own started (by kernel_rfl) Try.func6
    (ChangeSpec.witness6 (enc := enc) (C := Try.checked) false ⟨#[], #[.slice none 0 0, .int .i64 0, .int .u32 0], []⟩ 8 (by kernel_rfl) (by kernel_rfl) (by kernel_rfl) (by kernel_rfl)) ?_
  intro W base args ds gs before hval0 hW hcnd hsz0 _
  have hsz : (DataW.weightsEach Try.prog (Try.f6.params.toList ++ Rows.crcBurstSpec.plain.varTypes Try.prog) (ds ++ gs)).all (· ≤ reachBytes) = true := hsz0
  have hval : ∀ (j : Nat) t v, Try.f6.params[j]? = some t → args[j]? = some v → Value.okWide Try.prog W .any base t v := hval0
  have hW' := hW
  obtain ⟨p, q, hA0, hV, rfl, hfz, hnd⟩ := hW
  have hA : DataW.TrodAll enc Try.prog W 0 (fun _ => true) true Try.f6.params.toList args.toList ds p := hA0
  rw [Try.params6] at hA hval hsz
  obtain ⟨v0, vs0, d0, ds0, p0, q0, hargs, rfl, rfl, h0, r0⟩ := trodAll_cons hA
  obtain ⟨v1, vs1, d1, ds1, p1, q1, rfl, rfl, rfl, h1, r1⟩ := trodAll_cons r0
  obtain ⟨v2, vs2, d2, ds2, p2, q2, rfl, rfl, rfl, h2, r2⟩ := trodAll_cons r1
  obtain ⟨rfl, rfl, rfl⟩ := trodAll_nil r2
  obtain rfl : args = #[v0, v1, v2] := by cases args; simp_all
  obtain ⟨rfl, rfl⟩ := trodVars_none hV
  have k0 := h0
  have lt0 : ∀ x ∈ p0, x.block < W.heap.size := by obtain ⟨m, hm⟩ := k0; exact DataW.trod_lt m _ _ _ hm
  obtain ⟨a0, len0, cap0, rfl⟩ := okWide_slice Try.underlying22 (hval 0 22 v0 rfl rfl)
  obtain ⟨at', rfl, rfl, rfl, w1⟩ := open_int Try.underlying3 (hval 1 3 v1 rfl rfl) h1
  obtain ⟨X, rfl, rfl, rfl, w2⟩ := open_int Try.underlying28 (hval 2 28 v2 rfl rfl) h2
  have bM := bounds_i64 w1
  have bX := bounds_u32 w2
  obtain ⟨b, rfl⟩ : ∃ x : Nat, X = x := ⟨X.toNat, by omega⟩
  obtain ⟨l, rfl, hb, hl, _, _⟩ := bytes_in h0 (fun elems spr e => by
    have := sized_slice hsz (j := 0) (t := 22) (e := 5) (elems := elems) (spare := spr) rfl (by rw [e]; rfl) Try.underlying22
    rwa [bytesT8] at this) rfl rfl
  clear hA0 hval0
  refine (walk W a0 cap0 l at' b hb hl (by omega) (by omega)).mono fun e W' ⟨he, bel⟩ => ?_
  subst he
  exact ⟨_, rfl, _, _, _, [], _, [], hW', trodAll_mk1 (shut_bool Try.underlying4 _), (trodAll_cons_mk (Below.trod laidOut (by kernel_rfl) (of_decide_eq_true (by kernel_rfl)) k0 bel lt0) (trodAll_cons_mk (shut_int Try.underlying3 w1) (trodAll_cons_mk (shut_int Try.underlying28 w2) trodAll_mk0))), rfl, bel.frame _, fun h => by cases h⟩

theorem over : Rows.crcBurstRow.holds Try.pinned (OpenSpec.ofChange Rows.crcBurstSpec) :=
  OpenClaim.holds_of_wide 6 Try.f6 rfl rfl rfl rfl rfl rfl rfl ⟨rfl, rfl, rfl, rfl, rfl⟩ rfl rfl rfl rfl rfl (by kernel_rfl) Try.func6 (by kernel_rfl)
    (of_decide_eq_true (by kernel_rfl)) (by unfold Func.isWrapper; first | (rw [if_pos (by decide +kernel)]; kernel_rfl) | (rw [if_neg (by decide +kernel)]; exact ⟨rfl, rfl⟩))
    (fun os started H enc _ => lifted os started H enc)
end Go.Proofs.Ytgfncfpcobkebaa.crcBurst

namespace Go.Proofs.Ytgfncfpcobkebaa
/-- THE STATEMENT. -/
theorem crcBurst_holds : Rows.CrcBurstSaid := crcBurst.over
#print axioms crcBurst_holds
end Go.Proofs.Ytgfncfpcobkebaa
