/-
  A manifest with altered bytes is refused: for every list of keys, for both files, every frame, every place and all bits. No condition but the row's own on the library's tables and errors.
-/
import Derived.Test.YtlhnjloimhcpfabGreatDoorYAltY
import Derived.Test.YtlhnjloimhcpfabGreatDoorYAB
import Derived.Test.YtlhnjloimhcpfabGreatDoorYS
import Derived.Test.YtlhnjloimhcpfabGreatDoorTie
import Derived.Test.YtlhnjloimhcpfabGreatDoorCards
import Derived.Lay
import Derived.SevenTiedAt
namespace Go.Proofs.YtlhnjloimhcpfabGreatDoor.manifestAltered
open Go.ChangeShapes Go.WideShapes Go.ChangeAt Go.RowKit Go.Shelf

theorem walk (w : World) (a : Option Addr) (n c : Nat) (nd : Bool) (wh at' : Int) (bits : Nat) (L : List ByteArray) (h : KeysAt w (.slice a n c) L) (hn : n = L.length) (hL : ∀ s ∈ L, s.size ≤ maxLen) (hb' : bits < 4294967296) (ha : at' ≤ 9223372036854775807) (hw1 : -9223372036854775808 ≤ wh) (hw2 : wh ≤ 9223372036854775807) (hev : ErrVar w) :
    Calls Tryz.prog 3 #[.slice a n c, .bool nd, .int .i64 wh, .int .i64 at', .int .u32 (bits : Int)] w fun e w' => e = .returned (.bool true) ∧ Below w.heap.size w w' := by
  by_cases h0 : 30 < n ∨ bits = 0
  · exact walk_off w a n c nd wh at' bits h0
  · obtain ⟨a', cap, e, hf⟩ := h
    cases e
    have hn30 : L.length ≤ 30 := by omega
    have eg : ∀ j (hj : j < L.length), (L.map fun s => s.data.toList).getD j [] = L[j].data.toList := fun j hj => by
      rw [List.getD_eq_getElem?_getD, List.getElem?_map, List.getElem?_eq_getElem hj]
      rfl
    have harg : ∀ j, j < L.length → ∃ b0 off0, a = some ⟨b0, off0, none⟩ ∧ w.cell? ⟨b0, off0 + j, none⟩ = some (str ((L.map fun s => s.data.toList).getD j [])) := fun j hj => by
      obtain ⟨b0, off0, e, hc⟩ := hf (fun h1 => by rw [h1] at hj; cases hj)
      refine ⟨b0, off0, e, ?_⟩
      rw [hc j hj, eg j hj]
    have hlen : ∀ j, j < L.length → ((L.map fun s => s.data.toList).getD j []).length ≤ maxLen := fun j hj => by
      rw [eg j hj]
      have := hL _ (List.getElem_mem hj)
      simpa using this
    cases nd with
    | false => exact walk_no w a _ c wh at' bits _ hn30 hb' (by omega) ha hw1 hw2 hev harg hlen
    | true => exact walk_yes w a _ c wh at' bits _ hn30 hb' (by omega) ha hw1 hw2 hev harg hlen

set_option maxRecDepth 100000 in
theorem lifted (os : Os) (started : os.Started) (H : Type) (enc : TypeId × Value → H) :
    ReturnsInHanded {} Tryz.checked os 3 .any (fun w args => (Rows.manifestAlteredSpec.pre enc Tryz.prog Tryz.f3 Rows.manifestAlteredRow.domain false w args ∧ laidMetH Tryz.prog Rows.manifestAlteredRow.laid w) ∧ sizedMet enc Tryz.prog Tryz.f3 (OpenSpec.ofChange Rows.manifestAlteredSpec) false w args)
      (Rows.manifestAlteredSpec.post enc Tryz.prog Tryz.f3 false true false false) := by
  refine returnsInHanded_of_change_and (C := Tryz.checked) (X := fun w _ => laidMetH Tryz.prog Rows.manifestAlteredRow.laid w) (fun _ _ _ hh h => h.of_heap hh) own started (by kernel_rfl) Tryz.func3
    (ChangeSpec.witness_shaped (enc := enc) (C := Tryz.checked) (os := os) (X := fun w _ => laidMetH Tryz.prog Rows.manifestAlteredRow.laid w) false (World.laidAll Tryz.prog os Rows.manifestAlteredRow.laid) #[.slice none 0 0, .bool false, .int .i64 0, .int .i64 0, .int .u32 0] 8 (World.laidAll_os _ _ _)
      (World.shaped_of_ZipB (by kernel_rfl) (by kernel_rfl)) (by kernel_rfl) (by kernel_rfl) (by kernel_rfl)
      (by rw [MakeChecks.laidMetH_plain _ _ _ (by kernel_rfl)]; exact laidMet_laidAll _ (by kernel_rfl) (by kernel_rfl))) ?_
  intro W base args ds gs before hval0 hW _ _ hX0 _
  have hX : laidMetH Tryz.prog Rows.manifestAlteredRow.laid W := hX0
  have hval : ∀ (j : Nat) t v, Tryz.f3.params[j]? = some t → args[j]? = some v → Value.okWide Tryz.prog W .any base t v := hval0
  have hW' := hW
  obtain ⟨p, q, hA0, hV, rfl, hfz, hnd⟩ := hW
  have hA : DataW.TrodAll enc Tryz.prog W 0 (fun _ => true) true Tryz.f3.params.toList args.toList ds p := hA0
  rw [Tryz.params3] at hA hval
  obtain ⟨v0, vs0, d0, ds0, p0, q0, hargs, rfl, rfl, h0, r0⟩ := trodAll_cons hA
  obtain ⟨v1, vs1, d1, ds1, p1, q1, rfl, rfl, rfl, h1, r1⟩ := trodAll_cons r0
  obtain ⟨v2, vs2, d2, ds2, p2, q2, rfl, rfl, rfl, h2, r2⟩ := trodAll_cons r1
  obtain ⟨v3, vs3, d3, ds3, p3, q3, rfl, rfl, rfl, h3, r3⟩ := trodAll_cons r2
  obtain ⟨v4, vs4, d4, ds4, p4, q4, rfl, rfl, rfl, h4, r4⟩ := trodAll_cons r3
  obtain ⟨rfl, rfl, rfl⟩ := trodAll_nil r4
  obtain rfl : args = #[v0, v1, v2, v3, v4] := by cases args; simp_all
  obtain ⟨rfl, rfl⟩ := trodVars_none hV
  have k0 := h0
  have lt0 : ∀ x ∈ p0, x.block < W.heap.size := by obtain ⟨m, hm⟩ := k0; exact DataW.trod_lt m _ _ _ hm
  obtain ⟨a0, len0, cap0, rfl⟩ := okWide_slice Tryz.underlying22 (hval 0 22 v0 rfl rfl)
  obtain ⟨nd, rfl, rfl, rfl⟩ := open_bool Tryz.underlying4 (hval 1 4 v1 rfl rfl) h1
  obtain ⟨wh, rfl, rfl, rfl, w2⟩ := open_int Tryz.underlying3 (hval 2 3 v2 rfl rfl) h2
  obtain ⟨at', rfl, rfl, rfl, w3⟩ := open_int Tryz.underlying3 (hval 3 3 v3 rfl rfl) h3
  obtain ⟨Z, rfl, rfl, rfl, w4⟩ := open_int Tryz.underlying23 (hval 4 23 v4 rfl rfl) h4
  have b2 := bounds_i64 w2
  have b3 := bounds_i64 w3
  have b4 := bounds_u32 w4
  obtain ⟨z, rfl⟩ : ∃ x : Nat, Z = x := ⟨Z.toNat, by omega⟩
  obtain ⟨L, hl, hb0, hL⟩ := keys_in h0
  clear hA0 hval0
  refine (walk W a0 len0 cap0 nd wh at' z L hb0 hl hL (by omega) (by omega) (by omega) (by omega) (errVar_of hX)).mono fun e W' ⟨he, bel⟩ => ?_
  subst he
  exact ⟨_, rfl, _, _, _, [], _, [], hW', trodAll_mk1 (shut_bool Tryz.underlying4 _), (trodAll_cons_mk (Below.trod laidOut (by kernel_rfl) (of_decide_eq_true (by kernel_rfl)) k0 bel lt0) (trodAll_cons_mk (shut_bool Tryz.underlying4 _) (trodAll_cons_mk (shut_int Tryz.underlying3 w2) (trodAll_cons_mk (shut_int Tryz.underlying3 w3) (trodAll_cons_mk (shut_int Tryz.underlying23 w4) trodAll_mk0))))), rfl, bel.frame _, fun h => by cases h⟩

theorem over : Rows.manifestAlteredRow.holds Tryz.pinned (OpenSpec.ofChange Rows.manifestAlteredSpec) :=
  OpenClaim.holds_of_wide 3 Tryz.f3 rfl rfl rfl rfl rfl rfl rfl ⟨rfl, rfl, rfl, rfl, rfl⟩ rfl rfl rfl rfl rfl (by kernel_rfl) Tryz.func3 (by kernel_rfl)
    (of_decide_eq_true (by kernel_rfl)) (by unfold Func.isWrapper; first | (rw [if_pos (by decide +kernel)]; kernel_rfl) | (rw [if_neg (by decide +kernel)]; exact ⟨rfl, rfl⟩))
    (fun os started H enc _ => lifted os started H enc)

theorem carded : Claim7.holds Tryz.pinned (.plain (OpenSpec.ofChange Rows.manifestAlteredSpec)) Rows.manifestAlteredCard :=
  Claim7.holds_tied_plain_at .later [] [.data, .data, .data, .sentinel, .sentinel] true Rows.manifestAlteredCard.stood.harness true
    over (fun _ h => by cases h) (by kernel_rfl) (fun _ h => by cases h) manifestAltered_row_tie rfl ⟨rfl, rfl⟩ (by kernel_rfl) rfl
    (fun f fn hf hfn => by
      obtain rfl : f = 3 := Option.some.inj ((show Tryz.prog.funcNamed "stagepost/stagepostlaw10.ManifestAltered" = some 3 by kernel_rfl).symm.trans hf) |>.symm
      obtain rfl : fn = Tryz.f3 := (Option.some.inj (Tryz.func3.symm.trans hfn)).symm
      exact ⟨by kernel_rfl, fun j t ht => by
        rw [Tryz.params3] at ht
        rcases j with _ | _ | _ | _ | _ | j
        · obtain rfl : t = 22 := by simpa using ht.symm
          exact (show Tryz.prog.wantsStandIn 22 = false by kernel_rfl)
        · obtain rfl : t = 4 := by simpa using ht.symm
          exact (show Tryz.prog.wantsStandIn 4 = false by kernel_rfl)
        · obtain rfl : t = 3 := by simpa using ht.symm
          exact (show Tryz.prog.wantsStandIn 3 = false by kernel_rfl)
        · obtain rfl : t = 3 := by simpa using ht.symm
          exact (show Tryz.prog.wantsStandIn 3 = false by kernel_rfl)
        · obtain rfl : t = 23 := by simpa using ht.symm
          exact (show Tryz.prog.wantsStandIn 23 = false by kernel_rfl)
        · simp at ht⟩)
    (by kernel_rfl)
end Go.Proofs.YtlhnjloimhcpfabGreatDoor.manifestAltered

namespace Go.Proofs.YtlhnjloimhcpfabGreatDoor
/-- THE STATEMENT. -/
theorem manifestAltered_holds : Rows.ManifestAlteredCardSaid := manifestAltered.carded
#print axioms manifestAltered_holds
end Go.Proofs.YtlhnjloimhcpfabGreatDoor
