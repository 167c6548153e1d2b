/-
  Proved: for every record, all bytes behind, every place at and all bits the call FrameAltered(record, behind, at, bits) returns true and leaves its arguments as they were: every burst of at most 32 bits within one frame is found.
  Conditions: none beyond the form's own reach.
-/
import Derived.Test.YtmhehohiodggcaaKFrame
import Derived.Test.YtmhehohiodggcaaFLives
import Derived.Test.YtmhehohiodggcaaCBurst
namespace Go.Proofs.Ytmhehohiodggcaa.frameAltered
open Go.ChangeShapes Go.WideShapes Go.ChangeAt Go.RowKit
open Go.Proofs.Ytmhehohiodggcaa

set_option maxHeartbeats 1600000 in
theorem walk_off (w : World) (a0 a1 : Option Addr) (c0 c1 n m : Nat) (at' : Int) (b : Nat) (hoff : 4000 < n ∨ 4000 < m ∨ b = 0) :
    Calls Try.prog 7 #[.slice a0 n c0, .slice a1 m c1, .int .i64 at', .int .u32 (b : Int)] w fun e w' => e = .returned (.bool true) ∧ Below w.heap.size w w' := by
  by_cases h1 : 4000 < n
  · have i1 : (n : Int) > 4000 := by omega
    clear hoff
    go_enter Try.func7, Try.ntmps7
    go_wp2_with (go_at_call 13; refine (lives_any _).mono ?_; rintro e w1 ⟨rfl, B1⟩)
    go_ret
    exact ⟨rfl, B1⟩
  · have i1 : ¬ (n : Int) > 4000 := by omega
    by_cases h2 : 4000 < m
    · have i2 : (m : Int) > 4000 := by omega
      clear hoff
      go_enter Try.func7, Try.ntmps7
      go_wp2_with (go_at_call 13; refine (lives_any _).mono ?_; rintro e w1 ⟨rfl, B1⟩)
      go_ret
      exact ⟨rfl, B1⟩
    · have i2 : ¬ (m : Int) > 4000 := by omega
      have e0 : b = 0 := by omega
      subst e0
      go_enter Try.func7, Try.ntmps7
      go_wp2_with (go_at_call 13; refine (lives_any _).mono ?_; rintro e w1 ⟨rfl, B1⟩)
      go_ret
      exact ⟨rfl, B1⟩

set_option maxHeartbeats 1600000 in
theorem walk_on (w : World) (a0 a1 : Option Addr) (c0 c1 : Nat) (r t : List UInt8) (at' : Int) (b : Nat) (h : BytesIn w (.slice a0 r.length c0) r) (ht : BytesIn w (.slice a1 t.length c1) t) (n1 : a1 = none → c1 = 0) (hr : r.length ≤ 4000) (hl : t.length ≤ 4000) (ha : at' ≤ 9223372036854775807) (hb : b < 4294967296) (hb0 : b ≠ 0) :
    Calls Try.prog 7 #[.slice a0 r.length c0, .slice a1 t.length c1, .int .i64 at', .int .u32 (b : Int)] w fun e w' => e = .returned (.bool true) ∧ Below w.heap.size w w' := by
  obtain ⟨S, hS⟩ : ∃ S, S = frm r := ⟨_, rfl⟩
  have lS : S.length = r.length + 12 := by rw [hS]; exact frm_length r
  have AP : Hid (∀ wx, Below w.heap.size w wx → Calls Try.prog 11 #[.slice none 0 0, .slice a0 r.length c0] wx fun e w' => ∃ g cap, e = .returned (.tuple #[.slice (some ⟨g, 0, none⟩) (r.length + 12) cap, .int .i64 0]) ∧ Below wx.heap.size wx w' ∧ BytesIn w' (.slice (some ⟨g, 0, none⟩) (r.length + 12) cap) S) := fun wx hw => by
    refine (fappend_any wx none a0 0 c0 [] r (nil_bytes wx) (h.later hw) (fun _ => rfl) (by omega) (by simp; omega)).mono ?_
    rintro e w' ⟨g, cap, rfl, hx⟩
    rw [List.nil_append, ← hS, List.length_nil, Nat.zero_add] at *
    exact ⟨g, cap, rfl, hx.below (Nat.le_refl _) (by simp [Value.ownBlock]), bytes_of_own hx.own (by omega)⟩
  have i0 : ((b : Int) == 0) = false := by simp; omega
  have i1 : ¬ (r.length : Int) > 4000 := by omega
  have i2 : ¬ (t.length : Int) > 4000 := by omega
  cases hB : burB S at' b
  · have BU : Hid (∀ wx g cap, BytesIn wx (.slice (some ⟨g, 0, none⟩) (r.length + 12) cap) S → Calls Try.prog 27 #[.slice (some ⟨g, 0, none⟩) (r.length + 12) cap, .int .i64 at', .int .u32 (b : Int)] wx fun e w' => ∃ v, e = .returned (.tuple #[v, .int .i64 2]) ∧ Below wx.heap.size wx w') := fun wx g cap hx => by
      have := burst_any wx (some ⟨g, 0, none⟩) cap S at' b (by rw [lS]; exact hx) ha hb
      rw [lS] at this
      refine this.mono ?_
      rintro e w' ⟨v, rfl, hx⟩
      have e1 : burE S at' b = 2 := by unfold burE; rw [hB]; rfl
      rw [e1]
      exact ⟨v, rfl, hx.below (Nat.le_refl _) (by simp [Value.ownBlock])⟩
    clear h ht hS lS hB
    go_enter Try.func7, Try.ntmps7
    go_wp2_with (first
      | (go_at_call 13; refine (lives_any _).mono ?_; rintro e w1 ⟨rfl, B1⟩)
      | (go_at_call 11; refine (AP.out _ B1).mono ?_; rintro e w2 ⟨g2, cap2, rfl, b2, V2⟩; have B2 := B1.trans (b2.mono B1.size); clear AP b2)
      | (go_at_call 27; refine (BU.out _ _ _ V2).mono ?_; rintro e w3 ⟨v3, rfl, b3⟩; have B3 := B2.trans (b3.mono B2.size); clear BU V2 b3))
    go_ret
    exact ⟨rfl, B3⟩
  · have h0 : 0 ≤ at' := by
      rcases Int.lt_or_le at' 0 with h | h
      · rw [burB_neg h] at hB; cases hB
      · exact h
    obtain ⟨p, rfl⟩ : ∃ p : Nat, at' = p := ⟨at'.toNat, by omega⟩
    obtain ⟨X, hX⟩ : ∃ X, X = Crc.burst S p b 32 := ⟨_, rfl⟩
    have lX : X.length = r.length + 12 := by rw [hX, Crc.burst_length, lS]
    have e1 : burE S p b = 0 := by unfold burE; rw [hB]; rfl
    have e2 : burL S p b = X := by unfold burL; rw [hX, hB, Int.toNat_natCast]; rfl
    have EX : rdE (X ++ t) = 6 := by
      rw [hX, hS]
      exact read_altered r t p b (by omega) hb hb0 (by rw [← hS]; exact (burB_iff S p b).mp hB)
    have ER : rdR (X ++ t) = [] := by unfold rdR; rw [if_neg (by rw [EX]; decide)]
    have EN : rdN (X ++ t) = 0 := by unfold rdN; rw [if_neg (by rw [EX]; decide)]
    have BU : Hid (∀ wx g cap, BytesIn wx (.slice (some ⟨g, 0, none⟩) (r.length + 12) cap) S → Calls Try.prog 27 #[.slice (some ⟨g, 0, none⟩) (r.length + 12) cap, .int .i64 (p : Int), .int .u32 (b : Int)] wx fun e w' => ∃ g' c, e = .returned (.tuple #[.slice (some ⟨g', 0, none⟩) (r.length + 12) c, .int .i64 0]) ∧ Below wx.heap.size wx w' ∧ w'.ownsRow wx.heap.size 5 1 (.slice (some ⟨g', 0, none⟩) (r.length + 12) c) (r.length + 12) (bc X)) := fun wx g cap hx => by
      have := burst_any wx (some ⟨g, 0, none⟩) cap S p b (by rw [lS]; exact hx) ha hb
      rw [lS] at this
      refine this.mono ?_
      rintro e w' ⟨v, rfl, hx⟩
      rw [e1]
      rw [e2] at hx
      obtain ⟨g', c', rfl⟩ := hx.some (by intro e; rw [e] at lX; simp at lX)
      have ho := hx.own
      rw [lX] at ho ⊢
      exact ⟨g', c', rfl, hx.below (Nat.le_refl _) (by simp [Value.ownBlock]), ho⟩
    have RD : Hid (∀ wx base g L cap, Hid (L = (X ++ t).length) → wx.ownsRow base 5 1 (.slice (some ⟨g, 0, none⟩) L cap) (X ++ t).length (bc (X ++ t)) → Calls Try.prog 10 #[.slice (some ⟨g, 0, none⟩) L cap] wx fun e w' => ∃ a c, e = .returned (.tuple #[.slice a 0 c, .int .i64 0, .int .i64 6]) ∧ Below wx.heap.size wx w') := fun wx base g L cap hL ho => by
      have e := hL.out
      subst e
      refine (fread_any wx (some ⟨g, 0, none⟩) cap (X ++ t) (bytes_of_own ho (by rw [List.length_append]; omega)) (own_cap ho).1).mono ?_
      rintro e w' ⟨v, rfl, hx⟩
      rw [EX, EN]
      rw [ER] at hx
      obtain ⟨a, c, rfl⟩ := hx.shape
      exact ⟨a, c, rfl, hx.below (Nat.le_refl _) (by simp [Value.ownBlock])⟩
    have LT : Hid (∀ wx, Below w.heap.size w wx → BytesIn wx (.slice a1 t.length c1) t) := fun wx hw => ht.later hw
    have LX : Hid (r.length + 12 = X.length) := lX.symm
    have LY : Hid (X.length + t.length ≤ 140737488355328) := by show _ ≤ _; omega
    clear h ht hS lS hB hX lX e1 e2 EX ER EN
    go_enter Try.func7, Try.ntmps7
    go_wp2_with (first
      | (go_at_call 13; refine (lives_any _).mono ?_; rintro e w1 ⟨rfl, B1⟩)
      | (go_at_call 11; refine (AP.out _ B1).mono ?_; rintro e w2 ⟨g2, cap2, rfl, b2, V2⟩; have B2 := B1.trans (b2.mono B1.size); clear AP b2)
      | (go_at_call 27; refine (BU.out _ _ _ V2).mono ?_; rintro e w3 ⟨g3, c3, rfl, b3, O3⟩; have B3 := B2.trans (b3.mono B2.size); have T3 := LT.out _ B3; have Z3 := O3.lt _ rfl; have z3 : w2.heap.size ≤ w3.heap.size := b3.size; clear BU V2 b3 LT)
      | (at_builtin; refine wpList_app_bytes _ rfl _ _ rfl w2.heap.size g3 c3 X t (r.length + 12) t.length c1 LX.out rfl rfl O3 a1 rfl T3 n1 LY.out z3 ?_; intro g4 cap4 L4 w4 HL4 x4; have B4 := B3.trans ((x4.below z3 (by intro k hk; simp [Value.ownBlock] at hk; omega)).mono B2.size); have O4 := x4.own; clear O3 T3 x4)
      | (go_at_call 10; refine (RD.out _ _ _ _ _ HL4 O4).mono ?_; rintro e w5 ⟨a5, c5, rfl, b5⟩; have B5 := B4.trans (b5.mono B4.size); clear RD b5 O4))
    go_ret
    exact ⟨rfl, B5⟩

theorem walk (w : World) (a0 a1 : Option Addr) (c0 c1 : Nat) (r t : List UInt8) (at' : Int) (b : Nat) (h : BytesIn w (.slice a0 r.length c0) r) (ht : BytesIn w (.slice a1 t.length c1) t) (n1 : a1 = none → c1 = 0) (ha : at' ≤ 9223372036854775807) (hb : b < 4294967296) :
    Calls Try.prog 7 #[.slice a0 r.length c0, .slice a1 t.length c1, .int .i64 at', .int .u32 (b : Int)] w fun e w' => e = .returned (.bool true) ∧ Below w.heap.size w w' := by
  by_cases hoff : 4000 < r.length ∨ 4000 < t.length ∨ b = 0
  · exact walk_off w a0 a1 c0 c1 _ _ at' b hoff
  · exact walk_on w a0 a1 c0 c1 r t at' b h ht n1 (by omega) (by omega) ha hb (by omega)

set_option maxRecDepth 100000 in
theorem lifted (os : Os) (started : os.Started) (H : Type) (enc : TypeId × Value → H) :
    ReturnsInHanded {} Try.checked os 7 .any (Rows.frameAlteredSpec.pre6 enc Try.prog Try.f7 Rows.frameAlteredRow.domain false) (Rows.frameAlteredSpec.post enc Try.prog Try.f7 false true false false) := by
  refine returnsInHanded_of_change_sized (C := Try.checked) own started (by kernel_rfl) Try.func7
    (ChangeSpec.witness6 (enc := enc) (C := Try.checked) false ⟨#[], #[.slice none 0 0, .slice none 0 0, .int .i64 0, .int .u32 0], []⟩ 8 (by kernel_rfl) (by kernel_rfl) (by kernel_rfl) (by kernel_rfl)) ?_
  intro W base args ds gs before hval0 hW hcnd hsz0 _
  have hsz : (DataW.weightsEach Try.prog (Try.f7.params.toList ++ Rows.frameAlteredSpec.plain.varTypes Try.prog) (ds ++ gs)).all (· ≤ reachBytes) = true := hsz0
  have hval : ∀ (j : Nat) t v, Try.f7.params[j]? = some t → args[j]? = some v → Value.okWide Try.prog W .any base t v := hval0
  have hW' := hW
  obtain ⟨p, q, hA0, hV, rfl, hfz, hnd⟩ := hW
  have hA : DataW.TrodAll enc Try.prog W 0 (fun _ => true) true Try.f7.params.toList args.toList ds p := hA0
  rw [Try.params7] at hA hval hsz
  obtain ⟨v0, vs0, d0, ds0, p0, q0, hargs, rfl, rfl, h0, r0⟩ := trodAll_cons hA
  obtain ⟨v1, vs1, d1, ds1, p1, q1, rfl, rfl, rfl, h1, r1⟩ := trodAll_cons r0
  obtain ⟨v2, vs2, d2, ds2, p2, q2, rfl, rfl, rfl, h2, r2⟩ := trodAll_cons r1
  obtain ⟨v3, vs3, d3, ds3, p3, q3, rfl, rfl, rfl, h3, r3⟩ := trodAll_cons r2
  obtain ⟨rfl, rfl, rfl⟩ := trodAll_nil r3
  obtain rfl : args = #[v0, v1, v2, v3] := by cases args; simp_all
  obtain ⟨rfl, rfl⟩ := trodVars_none hV
  have k0 := h0
  have k1 := h1
  have lt0 : ∀ x ∈ p0, x.block < W.heap.size := by obtain ⟨m, hm⟩ := k0; exact DataW.trod_lt m _ _ _ hm
  have lt1 : ∀ x ∈ p1, x.block < W.heap.size := by obtain ⟨m, hm⟩ := k1; exact DataW.trod_lt m _ _ _ hm
  obtain ⟨a0, len0, cap0, rfl⟩ := okWide_slice Try.underlying22 (hval 0 22 v0 rfl rfl)
  obtain ⟨a1, len1, cap1, rfl⟩ := okWide_slice Try.underlying22 (hval 1 22 v1 rfl rfl)
  obtain ⟨at', rfl, rfl, rfl, w2⟩ := open_int Try.underlying3 (hval 2 3 v2 rfl rfl) h2
  obtain ⟨X, rfl, rfl, rfl, w3⟩ := open_int Try.underlying47 (hval 3 47 v3 rfl rfl) h3
  have bM := bounds_i64 w2
  have bX := bounds_u32 w3
  obtain ⟨b, rfl⟩ : ∃ x : Nat, X = x := ⟨X.toNat, by omega⟩
  obtain ⟨l, rfl, hb, _, _, _⟩ := bytes_in h0 (fun elems spr e => by
    have := sized_slice hsz (j := 0) (t := 22) (e := 5) (elems := elems) (spare := spr) rfl (by rw [e]; rfl) Try.underlying22
    rwa [bytesT8] at this) rfl rfl
  obtain ⟨t, rfl, ht, _, n1, _⟩ := bytes_in h1 (fun elems spr e => by
    have := sized_slice hsz (j := 1) (t := 22) (e := 5) (elems := elems) (spare := spr) rfl (by rw [e]; rfl) Try.underlying22
    rwa [bytesT8] at this) rfl rfl
  clear hA0 hval0
  refine (walk W a0 a1 cap0 cap1 l t at' b hb ht n1 (by omega) (by omega)).mono fun e W' ⟨he, bel⟩ => ?_
  subst he
  exact ⟨_, rfl, _, _, _, [], _, [], hW', trodAll_mk1 (shut_bool Try.underlying4 _), (trodAll_cons_mk (Below.trod laidOut (by kernel_rfl) (of_decide_eq_true (by kernel_rfl)) k0 bel lt0) (trodAll_cons_mk (Below.trod laidOut (by kernel_rfl) (of_decide_eq_true (by kernel_rfl)) k1 bel lt1) (trodAll_cons_mk (shut_int Try.underlying3 w2) (trodAll_cons_mk (shut_int Try.underlying47 w3) trodAll_mk0)))), rfl, bel.frame _, fun h => by cases h⟩

theorem over : Rows.frameAlteredRow.holds Try.pinned (OpenSpec.ofChange Rows.frameAlteredSpec) :=
  OpenClaim.holds_of_wide 7 Try.f7 rfl rfl rfl rfl rfl rfl rfl ⟨rfl, rfl, rfl, rfl, rfl⟩ rfl rfl rfl rfl rfl (by kernel_rfl) Try.func7 (by kernel_rfl)
    (of_decide_eq_true (by kernel_rfl)) (by unfold Func.isWrapper; first | (rw [if_pos (by decide +kernel)]; kernel_rfl) | (rw [if_neg (by decide +kernel)]; exact ⟨rfl, rfl⟩))
    (fun os started H enc _ => lifted os started H enc)
end Go.Proofs.Ytmhehohiodggcaa.frameAltered

namespace Go.Proofs.Ytmhehohiodggcaa
/-- THE STATEMENT. -/
theorem frameAltered_holds : Rows.FrameAlteredSaid := frameAltered.over
#print axioms frameAltered_holds
end Go.Proofs.Ytmhehohiodggcaa
