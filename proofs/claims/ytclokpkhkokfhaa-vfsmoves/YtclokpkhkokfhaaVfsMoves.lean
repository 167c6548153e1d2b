/-
  A file is put in the place of another one wholly or not at all: for any bytes, fuse, k and t. No condition.
-/
import Derived.Test.YtclokpkhkokfhaaVMoves
namespace Go.Proofs.Ytclokpkhkokfhaa.vfsMoves
open Go.ChangeShapes Go.WideShapes Go.ChangeAt Go.RowKit Go.Maps Go.Sort Go.Shelf

set_option maxRecDepth 100000 in
set_option maxHeartbeats 4000000 in
theorem walk_off (w : World) (a0 a1 : Option Addr) (c0 c1 n0 n1 : Nat) (fuse k t : Int) (h : n0 > 400 ∨ n1 > 400 ∨ k < 0 ∨ t < 0 ∨ fuse < 0) :
    Calls Try.prog 6 #[.slice a0 n0 c0, .slice a1 n1 c1, .int .i64 fuse, .int .i64 k, .int .i64 t] w fun e w' => e = .returned (.bool true) ∧ Below w.heap.size w w' := by
  have LV := lives_any
  by_cases h1 : (n0 : Int) > 400
  · clear h
    go_enter Try.func6, Try.ntmps6
    go_wp2_with (go_at_call 9; refine (LV _).mono ?_; rintro e w1 ⟨rfl, b1⟩)
    go_ret
    exact ⟨rfl, b1⟩
  by_cases h2 : (n1 : Int) > 400
  · clear h
    go_enter Try.func6, Try.ntmps6
    go_wp2_with (go_at_call 9; refine (LV _).mono ?_; rintro e w1 ⟨rfl, b1⟩)
    go_ret
    exact ⟨rfl, b1⟩
  by_cases h3 : k < 0
  · clear h
    go_enter Try.func6, Try.ntmps6
    go_wp2_with (go_at_call 9; refine (LV _).mono ?_; rintro e w1 ⟨rfl, b1⟩)
    go_ret
    exact ⟨rfl, b1⟩
  by_cases h4 : t < 0
  · clear h
    go_enter Try.func6, Try.ntmps6
    go_wp2_with (go_at_call 9; refine (LV _).mono ?_; rintro e w1 ⟨rfl, b1⟩)
    go_ret
    exact ⟨rfl, b1⟩
  · have h5 : fuse < 0 := by omega
    clear h
    go_enter Try.func6, Try.ntmps6
    go_wp2_with (go_at_call 9; refine (LV _).mono ?_; rintro e w1 ⟨rfl, b1⟩)
    go_ret
    exact ⟨rfl, b1⟩
theorem walk (w : World) (a0 a1 : Option Addr) (c0 c1 : Nat) (old now : Vf.Bs) (fuse k t : Int) (h0 : BytesIn w (.slice a0 old.length c0) old) (h1 : BytesIn w (.slice a1 now.length c1) now) (r0 : old.length ≤ c0) (r1 : now.length ≤ c1) (hf : fuse ≤ 9223372036854775807) :
    Calls Try.prog 6 #[.slice a0 old.length c0, .slice a1 now.length c1, .int .i64 fuse, .int .i64 k, .int .i64 t] w fun e w' => e = .returned (.bool true) ∧ Below w.heap.size w w' := by
  by_cases hb : old.length > 400 ∨ now.length > 400 ∨ k < 0 ∨ t < 0 ∨ fuse < 0
  · exact walk_off w a0 a1 c0 c1 _ _ fuse k t hb
  · obtain ⟨F, rfl⟩ : ∃ F : Nat, fuse = (F : Int) := ⟨fuse.toNat, by omega⟩
    obtain ⟨K, rfl⟩ : ∃ F : Nat, k = (F : Int) := ⟨k.toNat, by omega⟩
    obtain ⟨T, rfl⟩ : ∃ F : Nat, t = (F : Int) := ⟨t.toNat, by omega⟩
    have p : Pre w (.slice a0 old.length c0) (.slice a1 now.length c1) old now := ⟨h0, h1, fun a n c e => by cases e; exact r0, fun a n c e => by cases e; exact r1, by omega, by omega⟩
    have hF : F ≤ 9223372036854775807 := by omega
    by_cases g0 : Vf.createE (s5 old F) Vf.Mov.nw = 0
    · by_cases g1 : Vf.appendE (Vf.create (s5 old F) Vf.Mov.nw) Vf.Mov.nw now = 0
      · by_cases g2 : Vf.syncE (Vf.append (Vf.create (s5 old F) Vf.Mov.nw) Vf.Mov.nw now) Vf.Mov.nw = 0
        · by_cases g3 : Vf.renameE (Vf.sync (Vf.append (Vf.create (s5 old F) Vf.Mov.nw) Vf.Mov.nw now) Vf.Mov.nw) Vf.Mov.nw Vf.Mov.cur = 0
          · by_cases g4 : Vf.syncNamesE (Vf.rename (Vf.sync (Vf.append (Vf.create (s5 old F) Vf.Mov.nw) Vf.Mov.nw now) Vf.Mov.nw) Vf.Mov.nw Vf.Mov.cur) = 0
            · exact walk5 w _ _ old now p F K T hF g0 g1 g2 g3 g4
            · exact walk4 w _ _ old now p F K T hF g0 g1 g2 g3 g4
          · exact walk3 w _ _ old now p F K T hF g0 g1 g2 g3
        · exact walk2 w _ _ old now p F K T hF g0 g1 g2
      · exact walk1 w _ _ old now p F K T hF g0 g1
    · exact walk0 w _ _ old now p F K T hF g0

set_option maxRecDepth 100000 in
theorem lifted (os : Os) (started : os.Started) (H : Type) (enc : TypeId × Value → H) :
    ReturnsInHanded {} Try.checked os 6 .any (Rows.vfsMovesSpec.pre6 enc Try.prog Try.f6 Rows.vfsMovesRow.domain false) (Rows.vfsMovesSpec.post enc Try.prog Try.f6 false true false false) := by
  refine returnsInHanded_of_change_sized (C := Try.checked) own started (by kernel_rfl) Try.func6
    (ChangeSpec.witness6 (enc := enc) (C := Try.checked) false ⟨#[], #[.slice none 0 0, .slice none 0 0, .int .i64 0, .int .i64 0, .int .i64 0], []⟩ 8 (by kernel_rfl) (by kernel_rfl) (by kernel_rfl) (by kernel_rfl)) ?_
  intro W base args ds gs before hval0 hW hcnd hsz0 _
  have hsz : (DataW.weightsEach Try.prog (Try.f6.params.toList ++ Rows.vfsMovesSpec.plain.varTypes Try.prog) (ds ++ gs)).all (· ≤ reachBytes) = true := hsz0
  have hval : ∀ (j : Nat) t v, Try.f6.params[j]? = some t → args[j]? = some v → Value.okWide Try.prog W .any base t v := hval0
  have hW' := hW
  obtain ⟨p, q, hA0, hV, rfl, hfz, hnd⟩ := hW
  have hA : DataW.TrodAll enc Try.prog W 0 (fun _ => true) true Try.f6.params.toList args.toList ds p := hA0
  rw [Try.params6] at hA hval hsz
  obtain ⟨v0, vs0, d0, ds0, p0, q0, hargs, rfl, rfl, h0, r0⟩ := trodAll_cons hA
  obtain ⟨v1, vs1, d1, ds1, p1, q1, rfl, rfl, rfl, h1, r1⟩ := trodAll_cons r0
  obtain ⟨v2, vs2, d2, ds2, p2, q2, rfl, rfl, rfl, h2, r2⟩ := trodAll_cons r1
  obtain ⟨v3, vs3, d3, ds3, p3, q3, rfl, rfl, rfl, h3, r3⟩ := trodAll_cons r2
  obtain ⟨v4, vs4, d4, ds4, p4, q4, rfl, rfl, rfl, h4, r4⟩ := trodAll_cons r3
  obtain ⟨rfl, rfl, rfl⟩ := trodAll_nil r4
  obtain rfl : args = #[v0, v1, v2, v3, v4] := by cases args; simp_all
  obtain ⟨rfl, rfl⟩ := trodVars_none hV
  have k0 := h0
  have lt0 : ∀ x ∈ p0, x.block < W.heap.size := by obtain ⟨m, hm⟩ := k0; exact DataW.trod_lt m _ _ _ hm
  have k1 := h1
  have lt1 : ∀ x ∈ p1, x.block < W.heap.size := by obtain ⟨m, hm⟩ := k1; exact DataW.trod_lt m _ _ _ hm
  obtain ⟨a0, len0, cap0, rfl⟩ := okWide_slice Try.underlying29 (hval 0 29 v0 rfl rfl)
  obtain ⟨a1, len1, cap1, rfl⟩ := okWide_slice Try.underlying29 (hval 1 29 v1 rfl rfl)
  obtain ⟨x2, rfl, rfl, rfl, w2⟩ := open_int Try.underlying3 (hval 2 3 v2 rfl rfl) h2
  have bx2 := bounds_i64 w2
  obtain ⟨x3, rfl, rfl, rfl, w3⟩ := open_int Try.underlying3 (hval 3 3 v3 rfl rfl) h3
  have bx3 := bounds_i64 w3
  obtain ⟨x4, rfl, rfl, rfl, w4⟩ := open_int Try.underlying3 (hval 4 3 v4 rfl rfl) h4
  have bx4 := bounds_i64 w4
  obtain ⟨l0, rfl, hb0, hl0, nn0, hc0⟩ := bytes_in h0 (fun elems spr e => by
    have := sized_slice hsz (j := 0) (t := 29) (e := 5) (elems := elems) (spare := spr) rfl (by rw [e]; rfl) Try.underlying29
    rwa [bytesT8] at this) rfl rfl
  obtain ⟨l1, rfl, hb1, hl1, nn1, hc1⟩ := bytes_in h1 (fun elems spr e => by
    have := sized_slice hsz (j := 1) (t := 29) (e := 5) (elems := elems) (spare := spr) rfl (by rw [e]; rfl) Try.underlying29
    rwa [bytesT8] at this) rfl rfl
  clear hA0 hval0
  refine (walk W a0 a1 cap0 cap1 l0 l1 x2 x3 x4 hb0 hb1 hc0 hc1 (by omega)).mono fun e W' ⟨he, bel⟩ => ?_
  subst he
  exact ⟨_, rfl, _, _, _, [], _, [], hW', trodAll_mk1 (shut_bool Try.underlying4 _), (trodAll_cons_mk (Below.trod laidOut (by kernel_rfl) (of_decide_eq_true (by kernel_rfl)) k0 bel lt0) (trodAll_cons_mk (Below.trod laidOut (by kernel_rfl) (of_decide_eq_true (by kernel_rfl)) k1 bel lt1) (trodAll_cons_mk (shut_int Try.underlying3 w2) (trodAll_cons_mk (shut_int Try.underlying3 w3) (trodAll_cons_mk (shut_int Try.underlying3 w4) trodAll_mk0))))), rfl, bel.frame _, fun h => by cases h⟩

theorem over : Rows.vfsMovesRow.holds Try.pinned (OpenSpec.ofChange Rows.vfsMovesSpec) :=
  OpenClaim.holds_of_wide 6 Try.f6 rfl rfl rfl rfl rfl rfl rfl ⟨rfl, rfl, rfl, rfl, rfl⟩ rfl rfl rfl rfl rfl (by kernel_rfl) Try.func6 (by kernel_rfl)
    (of_decide_eq_true (by kernel_rfl)) (by unfold Func.isWrapper; first | (rw [if_pos (by decide +kernel)]; kernel_rfl) | (rw [if_neg (by decide +kernel)]; exact ⟨rfl, rfl⟩))
    (fun os started H enc _ => lifted os started H enc)
end Go.Proofs.Ytclokpkhkokfhaa.vfsMoves

namespace Go.Proofs.Ytclokpkhkokfhaa
/-- THE STATEMENT. -/
theorem vfsMoves_holds : Rows.VfsMovesSaid := vfsMoves.over
#print axioms vfsMoves_holds
end Go.Proofs.Ytclokpkhkokfhaa
