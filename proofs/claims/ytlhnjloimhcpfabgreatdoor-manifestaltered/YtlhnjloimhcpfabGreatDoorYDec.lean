/-
  Decode: what the bytes of an edit tell. (Written by wip/gen/dec10.py.)
-/
import Derived.Test.YtlhnjloimhcpfabGreatDoorYI
namespace Go.Proofs.YtlhnjloimhcpfabGreatDoor
open Go.RowKit

set_option maxRecDepth 100000 in
set_option maxHeartbeats 8000000 in
theorem ydecode_any (w : World) (a : Option Addr) (c : Nat) (b : List UInt8) (h : BytesIn w (.slice a b.length c) b) (hc : b.length ≤ c) (hl : b.length ≤ 1000000000) (hno : (a = none ∧ c = 0) ∨ ∃ B off, a = some ⟨B, off, none⟩) :
    Calls Tryz.prog 71 #[.slice a b.length c] w fun e w' => Hid ((Mf.decOk b = true ∧ ∃ da dc aa ac, e = .returned (.tuple #[ev (.slice da (Mf.decX b).drops.length dc) (.slice aa (Mf.decX b).adds.length ac) (Mf.decX b).log (Mf.decX b).seq (Mf.decX b).next, .int .i64 0]) ∧ w'.ownsRow (w.heap.size + 3) 3 1 (.slice da (Mf.decX b).drops.length dc) (Mf.decX b).drops.length (zcs (Mf.decX b).drops) ∧ w'.ownsRow (w.heap.size + 3) 43 5 (.slice aa (Mf.decX b).adds.length ac) (Mf.decX b).adds.length (mcs (Mf.decX b).adds)) ∨ (Mf.decOk b = false ∧ e = .returned (.tuple #[ev (.slice none 0 0) (.slice none 0 0) 0 0 0, .int .i64 5]))) ∧ Below w.heap.size w w' := by
  obtain ⟨L, hL⟩ : ∃ L, L = b.length := ⟨_, rfl⟩
  obtain ⟨W0, hW0⟩ : ∃ W0, W0 = ((w.alloc (eO (.slice none 0 0) (.slice none 0 0) 0 0 0)).alloc (.cells #[.slice a L c, .bool false] 155)).alloc (eO (.slice none 0 0) (.slice none 0 0) 0 0 0) := ⟨_, rfl⟩
  have B0 : Below w.heap.size w W0 := by rw [hW0]; exact (((Below.refl _ _).alloc (Nat.le_refl _) _).alloc (by simp) _).alloc (by simp; omega) _
  have R0 : YRd W0 (w.heap.size + 1) w.heap.size ⟨b, false⟩ := by
    refine ⟨⟨a, c, ?_, hc, hno, fun h0 => ?_⟩, hl, by omega⟩
    · rw [hW0, ← hL]
      refine (Below.heap_alloc _ _ _ (by simp)).trans ?_
      have := World.alloc_heap_new (w.alloc (eO (.slice none 0 0) (.slice none 0 0) 0 0 0)) (.cells #[.slice a L c, .bool false] 155)
      rw [World.size_alloc] at this
      exact this
    · obtain ⟨⟨a', c', e, hf⟩, _⟩ := h
      obtain ⟨B, off, ha, hat⟩ := hf h0
      cases e
      have hlt : B < w.heap.size := World.block_lt_of_cell? w _ (hat 0 (by rcases b with _ | ⟨x, t⟩; exact absurd rfl h0; simp))
      exact ⟨B, off, ha, hlt, hat.later B0⟩
  have E0 : W0.heap[w.heap.size + 2]? = some (eO (.slice none 0 0) (.slice none 0 0) 0 0 0) := by
    rw [hW0]
    have := World.alloc_heap_new ((w.alloc (eO (.slice none 0 0) (.slice none 0 0) 0 0 0)).alloc (.cells #[.slice a L c, .bool false] 155)) (eO (.slice none 0 0) (.slice none 0 0) 0 0 0)
    rw [World.size_alloc, World.size_alloc] at this
    exact this
  have Z0 : W0.heap[w.heap.size]? = some (eO (.slice none 0 0) (.slice none 0 0) 0 0 0) := by
    rw [hW0]
    exact (Below.heap_alloc _ _ _ (by simp; omega)).trans ((Below.heap_alloc _ _ _ (by simp)).trans (World.alloc_heap_new w _))
  have D0 : Hid (Dc w W0 ⟨b, false⟩ none 0 0 [] none 0 0 []) := ⟨R0, E0, World.ownsRow_nil _ _ _ _, World.ownsRow_nil _ _ _ _, Z0, B0⟩
  have m1 : Mf.dN b ≤ 1024 := Wl.rnumX_le _ _
  have N1 : Hid (∀ wx, YRd wx (w.heap.size + 1) w.heap.size ⟨b, false⟩ → Calls Tryz.prog 104 #[.pointer (some ⟨w.heap.size + 1, 0, none⟩), .int .i64 1024] wx fun e w' => e = .returned (.int .i64 (Mf.dN b : Int)) ∧ YRd w' (w.heap.size + 1) w.heap.size (Mf.d1 b) ∧ wx.grownBy w' (some (w.heap.size + 1)) ∧ w'.heap.size = wx.heap.size) := fun wx hx => ynumber_any wx _ _ _ 1024 hx (by decide)
  have N2 : Hid (∀ wx, YRd wx (w.heap.size + 1) w.heap.size (Mf.d2 b) → Calls Tryz.prog 104 #[.pointer (some ⟨w.heap.size + 1, 0, none⟩), .int .i64 1024] wx fun e w' => e = .returned (.int .i64 (Mf.dM b : Int)) ∧ YRd w' (w.heap.size + 1) w.heap.size (Mf.d3 b) ∧ wx.grownBy w' (some (w.heap.size + 1)) ∧ w'.heap.size = wx.heap.size) := fun wx hx => ynumber_any wx _ _ _ 1024 hx (by decide)
  have HW0 := hide hW0
  rw [← hL]
  clear R0 E0 Z0 B0 h hc hno hL hl
  obtain ⟨s1, hs1⟩ : ∃ s1, s1 = Mf.d1 b := ⟨_, rfl⟩
  obtain ⟨m, hm⟩ : ∃ m, m = Mf.dN b := ⟨_, rfl⟩
  rw [← hs1, ← hm] at N1
  rw [← hm] at m1
  have HS1 := hide hs1
  have HM := hide hm
  clear hs1 hm hW0
  go_enter Tryz.func71, Tryz.ntmps71
  go_wp2_with (go_at_call 104; have tok := N1; refine (N1.out _ (by rw [← HW0.out]; exact D0.out.rd)).mono ?_; rintro e w1 ⟨rfl, r1, g1, z1⟩; rw [← HW0.out] at g1; have D1 := hide (D0.out.call r1 g1); clear N1 tok r1 g1 z1)
  clear D0 HW0
  go_loopw [9] (fun i wr => ∃ (j : Nat) (va : Option Addr) (vc : Nat), j ≤ m ∧ i = .int .i64 j ∧ Dc w wr (Mf.dropsR j s1) va j vc (Mf.dropsX j s1) none 0 0 []) (fun i _ => m - (intOf i).toNat)
  case atStart => exact ⟨0, none, 0, Nat.zero_le _, rfl, D1.out⟩
  case round =>
    obtain ⟨j, va, vc, hj, rfl, D⟩ := hrel
    clear D1
    by_cases hlt : j < m
    · have NM : Hid (∀ wx, YRd wx (w.heap.size + 1) w.heap.size (Mf.dropsR j s1) → Calls Tryz.prog 104 #[.pointer (some ⟨w.heap.size + 1, 0, none⟩), .int .i64 999999] wx fun e w' => e = .returned (.int .i64 (Wl.rnumX (Mf.dropsR j s1) 999999 : Int)) ∧ YRd w' (w.heap.size + 1) w.heap.size (Wl.rnum (Mf.dropsR j s1) 999999) ∧ wx.grownBy w' (some (w.heap.size + 1)) ∧ w'.heap.size = wx.heap.size) := fun wx hx => ynumber_any wx _ _ _ 999999 hx (by decide)
      have HX := hide (Mf.dropsX_succ j s1)
      have HR := hide (Mf.dropsR_succ j s1)
      generalize (Wl.rnumX (Mf.dropsR j s1) 999999 : Int) = x at NM HX
      generalize Wl.rnum (Mf.dropsR j s1) 999999 = sN at NM HR
      have i3 : (j : Int) < (m : Int) := by omega
      have DD := D.later (Below.refl _ wr).drew
      clear N2 HS1 HM D
      go_wp2_with (fail)
      refine wp_region_held_drew (S := fun _ => True) (by kernel_rfl) trivial (fun hHeld => ?_)
      refine takeH (oi := ?oid01) 0 11 (.pointer (some ⟨w.heap.size + 2, 0, none⟩)) ?hid01 ?hdd01 ?hwd01 ?hyd01 (by kernel_rfl) (by kernel_rfl) (by kernel_rfl) ?hQd01 (by assumption) ?_
      case hid01 => simp only [List.getElem?_toArray, List.getElem?_cons_zero]; rfl
      case hdd01 => rfl
      case hwd01 => rfl
      case hyd01 => (intro w hSw; (try dsimp only at hSw); go_simp)
      case hQd01 => exact fun _ _ _ h => h
      simp only [Act.put, List.setIfInBounds_toArray, List.set_cons_zero, List.set_cons_succ]
      refine wpAnyH_ready (rs := [1, 2]) (by kernel_rfl) (by simp) ?_
      refine AllReadyH.cons rfl (fun KK hK => ?_) (AllReadyH.cons rfl (fun KK hK => ?_) AllReadyH.nil)
      · have cl := (slot5 DD.ed).1
        go_simp
        go_wp2_with (fail)
        refine hK.out _ _ trivial (fun hHeld => ?_)
        clear hK KK
        clear cl
        refine wpAnyH_ready (rs := [2]) (by kernel_rfl) (by simp) ?_
        refine AllReadyH.cons rfl (fun KK hK => ?_) AllReadyH.nil
        go_simp
        refine (NM.out _ DD.rd).mono ?_
        rintro e w3 ⟨rfl, r3, g3, z3⟩
        have D3 := DD.call r3 g3
        clear r3 g3 NM z3
        go_wp2_with (fail)
        refine hK.out _ _ trivial (fun hHeld => ?_)
        clear hK KK
        refine wpAnyH_ready (rs := [3]) (by kernel_rfl) (by simp) ?_
        refine AllReadyH.cons rfl (fun KK hK => ?_) AllReadyH.nil
        go_simp
        go_wp2_with (fail)
        refine hK.out _ _ trivial (fun hHeld => ?_)
        clear hK KK
        refine wpAnyH_ready (rs := [4]) (by kernel_rfl) (by simp) ?_
        refine AllReadyH.cons rfl (fun KK hK => ?_) AllReadyH.nil
        have D4 := D3.later ((Below.refl _ w3).alloc (Nat.le_refl _) (.cells #[.int .i64 x] 3))
        refine step_app_z _ (by rfl) _ _ (by rfl) (w.heap.size + 3) va j vc w3.heap.size _ x (by rfl) D4.dr (by rfl) (World.alloc_heap_new w3 _) (by omega) D4.low ?_
        intro g4 cap4 w4 o4 h4
        refine hK.out _ _ trivial (fun hHeld => ?_)
        clear hK KK
        obtain ⟨_, e4, _, _⟩ := D4.rest h4 (fun r hr => (D4.dr.lt r hr).1)
        obtain ⟨k0, k1, k2, k3, k4, f0, f1, f2, f3, f4, lt4⟩ := slot5 e4
        have D5 := hide (D3.put1 o4 h4)
        clear e4 D4 o4 h4 D3
        refine takeH (oi := ?oid02) 5 16 (.pointer (some ⟨w.heap.size + 2, 0, none⟩)) ?hid02 ?hdd02 ?hwd02 ?hyd02 (by kernel_rfl) (by kernel_rfl) (by kernel_rfl) ?hQd02 (by assumption) ?_
        case hid02 => simp only [List.getElem?_toArray, List.getElem?_cons_zero, List.getElem?_cons_succ]; rfl
        case hdd02 => rfl
        case hwd02 => rfl
        case hyd02 => (intro w hSw; (try dsimp only at hSw); go_simp)
        case hQd02 => exact fun _ _ _ h => h
        simp only [Act.put, List.setIfInBounds_toArray]
        refine wpAnyH_ready (rs := [6]) (by kernel_rfl) (by simp) ?_
        refine AllReadyH.cons rfl (fun KK hK => ?_) AllReadyH.nil
        go_simp
        go_wp2_with (fail)
        refine hK.out _ _ trivial (fun hHeld => ?_)
        clear hK KK
        clear k0 k1 k2 k3 k4 f0 f1 f2 f3 f4
        refine wpAnyH_done (by kernel_rfl) ?_ _
        go_wp2_with (fail)
        rw [← HX.out, ← HR.out] at D5
        exact ⟨⟨j + 1, _, _, by omega, by go_num, D5.out⟩, by simp [intOf]; omega⟩
      · go_simp
        refine (NM.out _ DD.rd).mono ?_
        rintro e w3 ⟨rfl, r3, g3, z3⟩
        have D3 := DD.call r3 g3
        clear r3 g3 NM z3
        go_wp2_with (fail)
        refine hK.out _ _ trivial (fun hHeld => ?_)
        clear hK KK
        refine wpAnyH_ready (rs := [1, 3]) (by kernel_rfl) (by simp) ?_
        refine AllReadyH.cons rfl (fun KK hK => ?_) (AllReadyH.cons rfl (fun KK hK => ?_) AllReadyH.nil)
        · have cl := (slot5 D3.ed).1
          go_simp
          go_wp2_with (fail)
          refine hK.out _ _ trivial (fun hHeld => ?_)
          clear hK KK
          clear cl
          refine wpAnyH_ready (rs := [3]) (by kernel_rfl) (by simp) ?_
          refine AllReadyH.cons rfl (fun KK hK => ?_) AllReadyH.nil
          go_simp
          go_wp2_with (fail)
          refine hK.out _ _ trivial (fun hHeld => ?_)
          clear hK KK
          refine wpAnyH_ready (rs := [4]) (by kernel_rfl) (by simp) ?_
          refine AllReadyH.cons rfl (fun KK hK => ?_) AllReadyH.nil
          have D4 := D3.later ((Below.refl _ w3).alloc (Nat.le_refl _) (.cells #[.int .i64 x] 3))
          refine step_app_z _ (by rfl) _ _ (by rfl) (w.heap.size + 3) va j vc w3.heap.size _ x (by rfl) D4.dr (by rfl) (World.alloc_heap_new w3 _) (by omega) D4.low ?_
          intro g4 cap4 w4 o4 h4
          refine hK.out _ _ trivial (fun hHeld => ?_)
          clear hK KK
          obtain ⟨_, e4, _, _⟩ := D4.rest h4 (fun r hr => (D4.dr.lt r hr).1)
          obtain ⟨k0, k1, k2, k3, k4, f0, f1, f2, f3, f4, lt4⟩ := slot5 e4
          have D5 := hide (D3.put1 o4 h4)
          clear e4 D4 o4 h4 D3
          refine takeH (oi := ?oid03) 5 16 (.pointer (some ⟨w.heap.size + 2, 0, none⟩)) ?hid03 ?hdd03 ?hwd03 ?hyd03 (by kernel_rfl) (by kernel_rfl) (by kernel_rfl) ?hQd03 (by assumption) ?_
          case hid03 => simp only [List.getElem?_toArray, List.getElem?_cons_zero, List.getElem?_cons_succ]; rfl
          case hdd03 => rfl
          case hwd03 => rfl
          case hyd03 => (intro w hSw; (try dsimp only at hSw); go_simp)
          case hQd03 => exact fun _ _ _ h => h
          simp only [Act.put, List.setIfInBounds_toArray]
          refine wpAnyH_ready (rs := [6]) (by kernel_rfl) (by simp) ?_
          refine AllReadyH.cons rfl (fun KK hK => ?_) AllReadyH.nil
          go_simp
          go_wp2_with (fail)
          refine hK.out _ _ trivial (fun hHeld => ?_)
          clear hK KK
          clear k0 k1 k2 k3 k4 f0 f1 f2 f3 f4
          refine wpAnyH_done (by kernel_rfl) ?_ _
          go_wp2_with (fail)
          rw [← HX.out, ← HR.out] at D5
          exact ⟨⟨j + 1, _, _, by omega, by go_num, D5.out⟩, by simp [intOf]; omega⟩
        · go_simp
          go_wp2_with (fail)
          refine hK.out _ _ trivial (fun hHeld => ?_)
          clear hK KK
          refine wpAnyH_ready (rs := [1]) (by kernel_rfl) (by simp) ?_
          refine AllReadyH.cons rfl (fun KK hK => ?_) AllReadyH.nil
          have D4a := D3.later ((Below.refl _ w3).alloc (Nat.le_refl _) (.cells #[.int .i64 x] 3))
          have cl := (slot5 D4a.ed).1
          go_simp
          go_wp2_with (fail)
          refine hK.out _ _ trivial (fun hHeld => ?_)
          clear hK KK
          clear cl
          clear D4a
          refine wpAnyH_ready (rs := [4]) (by kernel_rfl) (by simp) ?_
          refine AllReadyH.cons rfl (fun KK hK => ?_) AllReadyH.nil
          have D4 := D3.later ((Below.refl _ w3).alloc (Nat.le_refl _) (.cells #[.int .i64 x] 3))
          refine step_app_z _ (by rfl) _ _ (by rfl) (w.heap.size + 3) va j vc w3.heap.size _ x (by rfl) D4.dr (by rfl) (World.alloc_heap_new w3 _) (by omega) D4.low ?_
          intro g4 cap4 w4 o4 h4
          refine hK.out _ _ trivial (fun hHeld => ?_)
          clear hK KK
          obtain ⟨_, e4, _, _⟩ := D4.rest h4 (fun r hr => (D4.dr.lt r hr).1)
          obtain ⟨k0, k1, k2, k3, k4, f0, f1, f2, f3, f4, lt4⟩ := slot5 e4
          have D5 := hide (D3.put1 o4 h4)
          clear e4 D4 o4 h4 D3
          refine takeH (oi := ?oid04) 5 16 (.pointer (some ⟨w.heap.size + 2, 0, none⟩)) ?hid04 ?hdd04 ?hwd04 ?hyd04 (by kernel_rfl) (by kernel_rfl) (by kernel_rfl) ?hQd04 (by assumption) ?_
          case hid04 => simp only [List.getElem?_toArray, List.getElem?_cons_zero, List.getElem?_cons_succ]; rfl
          case hdd04 => rfl
          case hwd04 => rfl
          case hyd04 => (intro w hSw; (try dsimp only at hSw); go_simp)
          case hQd04 => exact fun _ _ _ h => h
          simp only [Act.put, List.setIfInBounds_toArray]
          refine wpAnyH_ready (rs := [6]) (by kernel_rfl) (by simp) ?_
          refine AllReadyH.cons rfl (fun KK hK => ?_) AllReadyH.nil
          go_simp
          go_wp2_with (fail)
          refine hK.out _ _ trivial (fun hHeld => ?_)
          clear hK KK
          clear k0 k1 k2 k3 k4 f0 f1 f2 f3 f4
          refine wpAnyH_done (by kernel_rfl) ?_ _
          go_wp2_with (fail)
          rw [← HX.out, ← HR.out] at D5
          exact ⟨⟨j + 1, _, _, by omega, by go_num, D5.out⟩, by simp [intOf]; omega⟩
    · have e : j = m := by omega
      subst e
      have i3 : ¬ (j : Int) < (j : Int) := by omega
      have e2 : Mf.dropsR j s1 = Mf.d2 b := by rw [HS1.out, HM.out]; rfl
      have e3 : Mf.dropsX j s1 = (Mf.decX b).drops := by rw [HS1.out, HM.out]; rfl
      rw [e2, e3] at D
      have D1 := hide D
      have m2 : Mf.dM b ≤ 1024 := Wl.rnumX_le _ _
      have WR := hide (fun wx s hx => ywords_any wx (w.heap.size + 1) w.heap.size s hx)
      obtain ⟨ds, hds⟩ : ∃ ds, ds = (Mf.decX b).drops := ⟨_, rfl⟩
      obtain ⟨s3, hs3⟩ : ∃ s3, s3 = Mf.d3 b := ⟨_, rfl⟩
      obtain ⟨m, hm⟩ : ∃ m, m = Mf.dM b := ⟨_, rfl⟩
      rw [← hs3, ← hm] at N2
      rw [← hm] at m2
      rw [← hds] at D1
      have HD := hide hds
      have HS3 := hide hs3
      have HM2 := hide hm
      clear e2 e3 D hds hs3 hm hlt hj HS1
      go_wp2_with (go_at_call 104; refine (N2.out _ D1.out.rd).mono ?_; rintro e w1 ⟨rfl, r1, g1, z1⟩; have D2 := hide (D1.out.call r1 g1); clear N2 r1 g1 z1 D1)
      clear i3
      go_loopw [19] (fun i wr => ∃ (q : Nat) (aa : Option Addr) (ac : Nat), q ≤ m ∧ i = .int .i64 q ∧ Dc w wr (Mf.addsR q s3) va j vc ds aa q ac (Mf.addsX q s3)) (fun i _ => m - (intOf i).toNat)
      case atStart => exact ⟨0, none, 0, Nat.zero_le _, rfl, D2.out⟩
      case round =>
        obtain ⟨q, aa, ac, hq, rfl, D⟩ := hrel
        clear D2
        by_cases hlt : q < m
        · have NM : Hid (∀ wx, YRd wx (w.heap.size + 1) w.heap.size (Mf.addsR q s3) → Calls Tryz.prog 105 #[.pointer (some ⟨w.heap.size + 1, 0, none⟩)] wx fun e w' => e = .returned (mv (Mf.wordsX (Mf.addsR q s3))) ∧ YRd w' (w.heap.size + 1) w.heap.size (Mf.wordsR (Mf.addsR q s3)) ∧ wx.grownBy w' (some (w.heap.size + 1))) := fun wx hx => WR.out wx _ hx
          have HX := hide (Mf.addsX_succ q s3)
          have HR := hide (Mf.addsR_succ q s3)
          generalize Mf.wordsX (Mf.addsR q s3) = x at NM HX
          generalize Mf.wordsR (Mf.addsR q s3) = sN at NM HR
          have i3 : (q : Int) < (m : Int) := by omega
          have DD := D.later (Below.refl _ wr).drew
          clear HS3 HM2 HM HD D WR
          go_wp2_with (fail)
          refine wp_region_held_drew (S := fun _ => True) (by kernel_rfl) trivial (fun hHeld => ?_)
          refine takeH (oi := ?oid11) 0 21 (.pointer (some ⟨w.heap.size + 2, 1, none⟩)) ?hid11 ?hdd11 ?hwd11 ?hyd11 (by kernel_rfl) (by kernel_rfl) (by kernel_rfl) ?hQd11 (by assumption) ?_
          case hid11 => simp only [List.getElem?_toArray, List.getElem?_cons_zero]; rfl
          case hdd11 => rfl
          case hwd11 => rfl
          case hyd11 => (intro w hSw; (try dsimp only at hSw); go_simp)
          case hQd11 => exact fun _ _ _ h => h
          simp only [Act.put, List.setIfInBounds_toArray, List.set_cons_zero, List.set_cons_succ]
          refine wpAnyH_ready (rs := [1, 2]) (by kernel_rfl) (by simp) ?_
          refine AllReadyH.cons rfl (fun KK hK => ?_) (AllReadyH.cons rfl (fun KK hK => ?_) AllReadyH.nil)
          · have cl := (slot5 DD.ed).2.1
            go_simp
            go_wp2_with (fail)
            refine hK.out _ _ trivial (fun hHeld => ?_)
            clear hK KK
            clear cl
            refine wpAnyH_ready (rs := [2]) (by kernel_rfl) (by simp) ?_
            refine AllReadyH.cons rfl (fun KK hK => ?_) AllReadyH.nil
            go_simp
            refine (NM.out _ DD.rd).mono ?_
            rintro e w3 ⟨rfl, r3, g3⟩
            have D3 := DD.call r3 g3
            clear r3 g3 NM
            go_wp2_with (fail)
            refine hK.out _ _ trivial (fun hHeld => ?_)
            clear hK KK
            refine wpAnyH_ready (rs := [3]) (by kernel_rfl) (by simp) ?_
            refine AllReadyH.cons rfl (fun KK hK => ?_) AllReadyH.nil
            go_simp
            go_wp2_with (fail)
            refine hK.out _ _ trivial (fun hHeld => ?_)
            clear hK KK
            refine wpAnyH_ready (rs := [4]) (by kernel_rfl) (by simp) ?_
            refine AllReadyH.cons rfl (fun KK hK => ?_) AllReadyH.nil
            have D4 := D3.later ((Below.refl _ w3).alloc (Nat.le_refl _) (mO x))
            refine step_app_m _ (by rfl) _ _ (by rfl) (w.heap.size + 3) aa q ac w3.heap.size _ x (by rfl) D4.ad (by rfl) (World.alloc_heap_new w3 _) (by omega) D4.low ?_
            intro g4 cap4 w4 o4 h4
            refine hK.out _ _ trivial (fun hHeld => ?_)
            clear hK KK
            obtain ⟨_, e4, _, _⟩ := D4.rest h4 (fun r hr => (D4.ad.lt r hr).1)
            obtain ⟨k0, k1, k2, k3, k4, f0, f1, f2, f3, f4, lt4⟩ := slot5 e4
            have D5 := hide (D3.put2 o4 h4)
            clear e4 D4 o4 h4 D3
            refine takeH (oi := ?oid12) 5 26 (.pointer (some ⟨w.heap.size + 2, 1, none⟩)) ?hid12 ?hdd12 ?hwd12 ?hyd12 (by kernel_rfl) (by kernel_rfl) (by kernel_rfl) ?hQd12 (by assumption) ?_
            case hid12 => simp only [List.getElem?_toArray, List.getElem?_cons_zero, List.getElem?_cons_succ]; rfl
            case hdd12 => rfl
            case hwd12 => rfl
            case hyd12 => (intro w hSw; (try dsimp only at hSw); go_simp)
            case hQd12 => exact fun _ _ _ h => h
            simp only [Act.put, List.setIfInBounds_toArray]
            refine wpAnyH_ready (rs := [6]) (by kernel_rfl) (by simp) ?_
            refine AllReadyH.cons rfl (fun KK hK => ?_) AllReadyH.nil
            go_simp
            go_wp2_with (fail)
            refine hK.out _ _ trivial (fun hHeld => ?_)
            clear hK KK
            clear k0 k1 k2 k3 k4 f0 f1 f2 f3 f4
            refine wpAnyH_done (by kernel_rfl) ?_ _
            go_wp2_with (fail)
            rw [← HX.out, ← HR.out] at D5
            exact ⟨⟨q + 1, _, _, by omega, by go_num, D5.out⟩, by simp [intOf]; omega⟩
          · go_simp
            refine (NM.out _ DD.rd).mono ?_
            rintro e w3 ⟨rfl, r3, g3⟩
            have D3 := DD.call r3 g3
            clear r3 g3 NM
            go_wp2_with (fail)
            refine hK.out _ _ trivial (fun hHeld => ?_)
            clear hK KK
            refine wpAnyH_ready (rs := [1, 3]) (by kernel_rfl) (by simp) ?_
            refine AllReadyH.cons rfl (fun KK hK => ?_) (AllReadyH.cons rfl (fun KK hK => ?_) AllReadyH.nil)
            · have cl := (slot5 D3.ed).2.1
              go_simp
              go_wp2_with (fail)
              refine hK.out _ _ trivial (fun hHeld => ?_)
              clear hK KK
              clear cl
              refine wpAnyH_ready (rs := [3]) (by kernel_rfl) (by simp) ?_
              refine AllReadyH.cons rfl (fun KK hK => ?_) AllReadyH.nil
              go_simp
              go_wp2_with (fail)
              refine hK.out _ _ trivial (fun hHeld => ?_)
              clear hK KK
              refine wpAnyH_ready (rs := [4]) (by kernel_rfl) (by simp) ?_
              refine AllReadyH.cons rfl (fun KK hK => ?_) AllReadyH.nil
              have D4 := D3.later ((Below.refl _ w3).alloc (Nat.le_refl _) (mO x))
              refine step_app_m _ (by rfl) _ _ (by rfl) (w.heap.size + 3) aa q ac w3.heap.size _ x (by rfl) D4.ad (by rfl) (World.alloc_heap_new w3 _) (by omega) D4.low ?_
              intro g4 cap4 w4 o4 h4
              refine hK.out _ _ trivial (fun hHeld => ?_)
              clear hK KK
              obtain ⟨_, e4, _, _⟩ := D4.rest h4 (fun r hr => (D4.ad.lt r hr).1)
              obtain ⟨k0, k1, k2, k3, k4, f0, f1, f2, f3, f4, lt4⟩ := slot5 e4
              have D5 := hide (D3.put2 o4 h4)
              clear e4 D4 o4 h4 D3
              refine takeH (oi := ?oid13) 5 26 (.pointer (some ⟨w.heap.size + 2, 1, none⟩)) ?hid13 ?hdd13 ?hwd13 ?hyd13 (by kernel_rfl) (by kernel_rfl) (by kernel_rfl) ?hQd13 (by assumption) ?_
              case hid13 => simp only [List.getElem?_toArray, List.getElem?_cons_zero, List.getElem?_cons_succ]; rfl
              case hdd13 => rfl
              case hwd13 => rfl
              case hyd13 => (intro w hSw; (try dsimp only at hSw); go_simp)
              case hQd13 => exact fun _ _ _ h => h
              simp only [Act.put, List.setIfInBounds_toArray]
              refine wpAnyH_ready (rs := [6]) (by kernel_rfl) (by simp) ?_
              refine AllReadyH.cons rfl (fun KK hK => ?_) AllReadyH.nil
              go_simp
              go_wp2_with (fail)
              refine hK.out _ _ trivial (fun hHeld => ?_)
              clear hK KK
              clear k0 k1 k2 k3 k4 f0 f1 f2 f3 f4
              refine wpAnyH_done (by kernel_rfl) ?_ _
              go_wp2_with (fail)
              rw [← HX.out, ← HR.out] at D5
              exact ⟨⟨q + 1, _, _, by omega, by go_num, D5.out⟩, by simp [intOf]; omega⟩
            · go_simp
              go_wp2_with (fail)
              refine hK.out _ _ trivial (fun hHeld => ?_)
              clear hK KK
              refine wpAnyH_ready (rs := [1]) (by kernel_rfl) (by simp) ?_
              refine AllReadyH.cons rfl (fun KK hK => ?_) AllReadyH.nil
              have D4a := D3.later ((Below.refl _ w3).alloc (Nat.le_refl _) (mO x))
              have cl := (slot5 D4a.ed).2.1
              go_simp
              go_wp2_with (fail)
              refine hK.out _ _ trivial (fun hHeld => ?_)
              clear hK KK
              clear cl
              clear D4a
              refine wpAnyH_ready (rs := [4]) (by kernel_rfl) (by simp) ?_
              refine AllReadyH.cons rfl (fun KK hK => ?_) AllReadyH.nil
              have D4 := D3.later ((Below.refl _ w3).alloc (Nat.le_refl _) (mO x))
              refine step_app_m _ (by rfl) _ _ (by rfl) (w.heap.size + 3) aa q ac w3.heap.size _ x (by rfl) D4.ad (by rfl) (World.alloc_heap_new w3 _) (by omega) D4.low ?_
              intro g4 cap4 w4 o4 h4
              refine hK.out _ _ trivial (fun hHeld => ?_)
              clear hK KK
              obtain ⟨_, e4, _, _⟩ := D4.rest h4 (fun r hr => (D4.ad.lt r hr).1)
              obtain ⟨k0, k1, k2, k3, k4, f0, f1, f2, f3, f4, lt4⟩ := slot5 e4
              have D5 := hide (D3.put2 o4 h4)
              clear e4 D4 o4 h4 D3
              refine takeH (oi := ?oid14) 5 26 (.pointer (some ⟨w.heap.size + 2, 1, none⟩)) ?hid14 ?hdd14 ?hwd14 ?hyd14 (by kernel_rfl) (by kernel_rfl) (by kernel_rfl) ?hQd14 (by assumption) ?_
              case hid14 => simp only [List.getElem?_toArray, List.getElem?_cons_zero, List.getElem?_cons_succ]; rfl
              case hdd14 => rfl
              case hwd14 => rfl
              case hyd14 => (intro w hSw; (try dsimp only at hSw); go_simp)
              case hQd14 => exact fun _ _ _ h => h
              simp only [Act.put, List.setIfInBounds_toArray]
              refine wpAnyH_ready (rs := [6]) (by kernel_rfl) (by simp) ?_
              refine AllReadyH.cons rfl (fun KK hK => ?_) AllReadyH.nil
              go_simp
              go_wp2_with (fail)
              refine hK.out _ _ trivial (fun hHeld => ?_)
              clear hK KK
              clear k0 k1 k2 k3 k4 f0 f1 f2 f3 f4
              refine wpAnyH_done (by kernel_rfl) ?_ _
              go_wp2_with (fail)
              rw [← HX.out, ← HR.out] at D5
              exact ⟨⟨q + 1, _, _, by omega, by go_num, D5.out⟩, by simp [intOf]; omega⟩
        · have e : q = m := by omega
          subst e
          have i3 : ¬ (q : Int) < (q : Int) := by omega
          have e4 : Mf.addsR q s3 = Mf.d4 b := by rw [HS3.out, HM2.out]; rfl
          have e5 : Mf.addsX q s3 = (Mf.decX b).adds := by rw [HS3.out, HM2.out]; rfl
          have hJ : (Mf.decX b).drops.length = j := by rw [HM.out]; exact Mf.dropsX_length _ _
          have hQ : (Mf.decX b).adds.length = q := by rw [HM2.out]; exact Mf.addsX_length _ _
          have hF : ∀ x ∈ (Mf.decX b).adds, MtFit x := addsX_fit _ _
          have hj9 : j ≤ 1024 := m1
          have N3 : Hid (∀ wx, YRd wx (w.heap.size + 1) w.heap.size (Mf.d4 b) → Calls Tryz.prog 104 #[.pointer (some ⟨w.heap.size + 1, 0, none⟩), .int .i64 999999] wx fun e w' => e = .returned (.int .i64 (Mf.decX b).log) ∧ YRd w' (w.heap.size + 1) w.heap.size (Mf.d5 b) ∧ wx.grownBy w' (some (w.heap.size + 1)) ∧ w'.heap.size = wx.heap.size) := fun wx hx => ynumber_any wx _ _ _ 999999 hx (by decide)
          have N4 : Hid (∀ wx, YRd wx (w.heap.size + 1) w.heap.size (Mf.d5 b) → Calls Tryz.prog 104 #[.pointer (some ⟨w.heap.size + 1, 0, none⟩), .int .i64 1073741824] wx fun e w' => e = .returned (.int .i64 (Mf.decX b).seq) ∧ YRd w' (w.heap.size + 1) w.heap.size (Mf.d6 b) ∧ wx.grownBy w' (some (w.heap.size + 1)) ∧ w'.heap.size = wx.heap.size) := fun wx hx => ynumber_any wx _ _ _ 1073741824 hx (by decide)
          have N5 : Hid (∀ wx, YRd wx (w.heap.size + 1) w.heap.size (Mf.d6 b) → Calls Tryz.prog 104 #[.pointer (some ⟨w.heap.size + 1, 0, none⟩), .int .i64 999999] wx fun e w' => e = .returned (.int .i64 (Mf.decX b).next) ∧ YRd w' (w.heap.size + 1) w.heap.size (Mf.d7 b) ∧ wx.grownBy w' (some (w.heap.size + 1)) ∧ w'.heap.size = wx.heap.size) := fun wx hx => ynumber_any wx _ _ _ 999999 hx (by decide)
          have HOK : Hid (Mf.decOk b = (!(Mf.d7 b).bad && (Mf.d7 b).rest.isEmpty && Mf.bounds (Mf.decX b))) := rfl
          rw [e4, e5, HD.out] at D
          obtain ⟨s4, hs4⟩ : ∃ s4, s4 = Mf.d4 b := ⟨_, rfl⟩
          obtain ⟨s5, hs5⟩ : ∃ s5, s5 = Mf.d5 b := ⟨_, rfl⟩
          obtain ⟨s6, hs6⟩ : ∃ s6, s6 = Mf.d6 b := ⟨_, rfl⟩
          obtain ⟨s7, hs7⟩ : ∃ s7, s7 = Mf.d7 b := ⟨_, rfl⟩
          obtain ⟨ed, hed⟩ : ∃ ed, ed = Mf.decX b := ⟨_, rfl⟩
          rw [← hs4, ← hs5, ← hed] at N3
          rw [← hs5, ← hs6, ← hed] at N4
          rw [← hs6, ← hs7, ← hed] at N5
          rw [← hs7, ← hed] at HOK
          rw [← hed] at hJ hQ hF
          rw [← hs4, ← hed] at D
          have HED := hide hed
          have BD : Hid (∀ wx, De w wx s7 (.slice va j vc) j ed.drops (.slice aa q ac) q ed.adds ed.log ed.seq ed.next → Calls Tryz.prog 53 #[ev (.slice va j vc) (.slice aa q ac) ed.log ed.seq ed.next] wx fun r w' => r = .returned (.bool (Mf.bounds ed)) ∧ Below wx.heap.size wx w') := fun wx h => by
            have hd := h.dr
            have ha := h.ad
            rw [← hJ] at hd
            rw [← hQ] at ha
            have := bounds_any wx va aa vc ac ed (IzAt.own hd) (MtsAt.own ha) (by omega) (by omega) hF
            rw [hJ, hQ] at this
            exact this
          have E0 := hide D.de
          have HJ := hide hJ
          have HQ := hide hQ
          clear e4 e5 hJ hQ hF hs4 hs5 hs6 hs7 hed D HD HS3 HM HM2 hlt hq WR
          cases hbad : s7.bad with
          | true =>
            have HB : Hid (Mf.decOk b = false) := by show _ = _; rw [HOK.out, hbad]; rfl
            have HC : Hid (∀ wx dv dn ds av an as' lo se ne, De w wx s7 dv dn ds av an as' lo se ne → wx.cell? ⟨w.heap.size + 1, 1, none⟩ = some (.bool true)) := fun wx _ _ _ _ _ _ _ _ _ h => by obtain ⟨_, _, _, k⟩ := h.cells; rw [hbad] at k; exact k
            clear HOK hbad BD
            go_wp2_with (first
              | (go_at_call 104; have tok := N3; refine (N3.out _ E0.out.rd).mono ?_; rintro e u1 ⟨rfl, r1, g1, z1⟩; have C1 := E0.out.call r1 g1; obtain ⟨_, _, c12, _, _, _, _, f12, _, _, l1⟩ := slot5 C1.ed; have E1 := hide (C1.put2 ed.log); clear N3 tok r1 g1 z1 C1 E0)
              | (go_at_call 104; have tok := N4; refine (N4.out _ E1.out.rd).mono ?_; rintro e u2 ⟨rfl, r1, g1, z1⟩; have C1 := E1.out.call r1 g1; obtain ⟨_, _, _, c23, _, _, _, _, f23, _, l2⟩ := slot5 C1.ed; have E2 := hide (C1.put3 ed.seq); clear N4 tok r1 g1 z1 C1 E1)
              | (go_at_call 104; have tok := N5; refine (N5.out _ E2.out.rd).mono ?_; rintro e u3 ⟨rfl, r1, g1, z1⟩; have C1 := E2.out.call r1 g1; obtain ⟨_, _, _, _, c34, _, _, _, _, f34, l3⟩ := slot5 C1.ed; have E9 := hide (C1.put4 ed.next); clear N5 tok r1 g1 z1 C1 E2; have cb := HC.out _ _ _ _ _ _ _ _ _ _ E9.out; obtain ⟨y0, y1, y2, y3, y4, w0, w1, w2, w3, w4, yl⟩ := slot5 E9.out.res))
            obtain ⟨WE, hWE, P9, _, _, B9⟩ := E9.out.end' (.slice none 0 0) (.slice none 0 0) 0 0 0
            rw [← hWE]
            obtain ⟨q0, q1, q2, q3, q4, _⟩ := slot5 P9
            refine bodyPost_ret (v := .tuple #[ev (.slice none 0 0) (.slice none 0 0) 0 0 0, .int .i64 5]) (by simp [results, Tryz.results71, go_sem, q0, q1, q2, q3, q4]) rfl ?_
            exact ⟨.inr ⟨HB.out, rfl⟩, B9⟩
          | false =>
            by_cases hr : s7.rest = []
            case neg =>
              have HB : Hid (Mf.decOk b = false) := by show _ = _; rw [HOK.out, hbad]; simp [hr]
              obtain ⟨n7, hn7⟩ : ∃ n7, n7 = s7.rest.length := ⟨_, rfl⟩
              have n9 : 0 < n7 := by rw [hn7]; exact List.length_pos_iff.mpr hr
              have i9 : (n7 : Int) > 0 := by omega
              have HC : Hid (∀ wx dv dn ds av an as' lo se ne, De w wx s7 dv dn ds av an as' lo se ne → ∃ ra rc, wx.cell? ⟨w.heap.size + 1, 0, none⟩ = some (.slice ra n7 rc) ∧ wx.cell? ⟨w.heap.size + 1, 1, none⟩ = some (.bool false)) := fun wx _ _ _ _ _ _ _ _ _ h => by obtain ⟨ra, rc, k0, k⟩ := h.cells; rw [hbad] at k; rw [← hn7] at k0; exact ⟨ra, rc, k0, k⟩
              clear HOK hbad hr hn7 BD
              go_wp2_with (first
                | (go_at_call 104; have tok := N3; refine (N3.out _ E0.out.rd).mono ?_; rintro e u1 ⟨rfl, r1, g1, z1⟩; have C1 := E0.out.call r1 g1; obtain ⟨_, _, c12, _, _, _, _, f12, _, _, l1⟩ := slot5 C1.ed; have E1 := hide (C1.put2 ed.log); clear N3 tok r1 g1 z1 C1 E0)
                | (go_at_call 104; have tok := N4; refine (N4.out _ E1.out.rd).mono ?_; rintro e u2 ⟨rfl, r1, g1, z1⟩; have C1 := E1.out.call r1 g1; obtain ⟨_, _, _, c23, _, _, _, _, f23, _, l2⟩ := slot5 C1.ed; have E2 := hide (C1.put3 ed.seq); clear N4 tok r1 g1 z1 C1 E1)
                | (go_at_call 104; have tok := N5; refine (N5.out _ E2.out.rd).mono ?_; rintro e u3 ⟨rfl, r1, g1, z1⟩; have C1 := E2.out.call r1 g1; obtain ⟨_, _, _, _, c34, _, _, _, _, f34, l3⟩ := slot5 C1.ed; have E9 := hide (C1.put4 ed.next); clear N5 tok r1 g1 z1 C1 E2; obtain ⟨ra, rc, ca, cb⟩ := HC.out _ _ _ _ _ _ _ _ _ _ E9.out; obtain ⟨y0, y1, y2, y3, y4, w0, w1, w2, w3, w4, yl⟩ := slot5 E9.out.res))
              obtain ⟨WE, hWE, P9, _, _, B9⟩ := E9.out.end' (.slice none 0 0) (.slice none 0 0) 0 0 0
              rw [← hWE]
              obtain ⟨q0, q1, q2, q3, q4, _⟩ := slot5 P9
              refine bodyPost_ret (v := .tuple #[ev (.slice none 0 0) (.slice none 0 0) 0 0 0, .int .i64 5]) (by simp [results, Tryz.results71, go_sem, q0, q1, q2, q3, q4]) rfl ?_
              exact ⟨.inr ⟨HB.out, rfl⟩, B9⟩
            case pos =>
              have HC : Hid (∀ wx dv dn ds av an as' lo se ne, De w wx s7 dv dn ds av an as' lo se ne → ∃ ra rc, wx.cell? ⟨w.heap.size + 1, 0, none⟩ = some (.slice ra 0 rc) ∧ wx.cell? ⟨w.heap.size + 1, 1, none⟩ = some (.bool false)) := fun wx _ _ _ _ _ _ _ _ _ h => by obtain ⟨ra, rc, k0, k⟩ := h.cells; rw [hbad] at k; rw [hr] at k0; exact ⟨ra, rc, k0, k⟩
              have HB : Hid (Mf.decOk b = Mf.bounds ed) := by show _ = _; rw [HOK.out, hbad, hr]; simp
              clear HOK hbad hr
              cases hbo : Mf.bounds ed with
              | false =>
                rw [hbo] at BD HB
                clear hbo
                go_wp2_with (first
                  | (go_at_call 104; have tok := N3; refine (N3.out _ E0.out.rd).mono ?_; rintro e u1 ⟨rfl, r1, g1, z1⟩; have C1 := E0.out.call r1 g1; obtain ⟨_, _, c12, _, _, _, _, f12, _, _, l1⟩ := slot5 C1.ed; have E1 := hide (C1.put2 ed.log); clear N3 tok r1 g1 z1 C1 E0)
                  | (go_at_call 104; have tok := N4; refine (N4.out _ E1.out.rd).mono ?_; rintro e u2 ⟨rfl, r1, g1, z1⟩; have C1 := E1.out.call r1 g1; obtain ⟨_, _, _, c23, _, _, _, _, f23, _, l2⟩ := slot5 C1.ed; have E2 := hide (C1.put3 ed.seq); clear N4 tok r1 g1 z1 C1 E1)
                  | (go_at_call 104; have tok := N5; refine (N5.out _ E2.out.rd).mono ?_; rintro e u3 ⟨rfl, r1, g1, z1⟩; have C1 := E2.out.call r1 g1; obtain ⟨_, _, _, _, c34, _, _, _, _, f34, l3⟩ := slot5 C1.ed; have E9 := hide (C1.put4 ed.next); clear N5 tok r1 g1 z1 C1 E2; obtain ⟨ra, rc, ca, cb⟩ := HC.out _ _ _ _ _ _ _ _ _ _ E9.out; obtain ⟨x0, x1, x2, x3, x4, _⟩ := slot5 E9.out.ed)
                  | (go_at_call 53; refine (BD.out _ E9.out).mono ?_; rintro e u4 ⟨rfl, b4⟩; have EX := E9.out.later b4; clear E9 BD b4 ca cb x0 x1 x2 x3 x4; have E9 := hide EX; clear EX; obtain ⟨x0, x1, x2, x3, x4, _⟩ := slot5 E9.out.ed; obtain ⟨y0, y1, y2, y3, y4, w0, w1, w2, w3, w4, yl⟩ := slot5 E9.out.res))
                obtain ⟨WE, hWE, P9, _, _, B9⟩ := E9.out.end' (.slice none 0 0) (.slice none 0 0) 0 0 0
                rw [← hWE]
                obtain ⟨q0, q1, q2, q3, q4, _⟩ := slot5 P9
                refine bodyPost_ret (v := .tuple #[ev (.slice none 0 0) (.slice none 0 0) 0 0 0, .int .i64 5]) (by simp [results, Tryz.results71, go_sem, q0, q1, q2, q3, q4]) rfl ?_
                exact ⟨.inr ⟨HB.out, rfl⟩, B9⟩
              | true =>
                rw [hbo] at BD HB
                clear hbo
                go_wp2_with (first
                  | (go_at_call 104; have tok := N3; refine (N3.out _ E0.out.rd).mono ?_; rintro e u1 ⟨rfl, r1, g1, z1⟩; have C1 := E0.out.call r1 g1; obtain ⟨_, _, c12, _, _, _, _, f12, _, _, l1⟩ := slot5 C1.ed; have E1 := hide (C1.put2 ed.log); clear N3 tok r1 g1 z1 C1 E0)
                  | (go_at_call 104; have tok := N4; refine (N4.out _ E1.out.rd).mono ?_; rintro e u2 ⟨rfl, r1, g1, z1⟩; have C1 := E1.out.call r1 g1; obtain ⟨_, _, _, c23, _, _, _, _, f23, _, l2⟩ := slot5 C1.ed; have E2 := hide (C1.put3 ed.seq); clear N4 tok r1 g1 z1 C1 E1)
                  | (go_at_call 104; have tok := N5; refine (N5.out _ E2.out.rd).mono ?_; rintro e u3 ⟨rfl, r1, g1, z1⟩; have C1 := E2.out.call r1 g1; obtain ⟨_, _, _, _, c34, _, _, _, _, f34, l3⟩ := slot5 C1.ed; have E9 := hide (C1.put4 ed.next); clear N5 tok r1 g1 z1 C1 E2; obtain ⟨ra, rc, ca, cb⟩ := HC.out _ _ _ _ _ _ _ _ _ _ E9.out; obtain ⟨x0, x1, x2, x3, x4, _⟩ := slot5 E9.out.ed)
                  | (go_at_call 53; refine (BD.out _ E9.out).mono ?_; rintro e u4 ⟨rfl, b4⟩; have EX := E9.out.later b4; clear E9 BD b4 ca cb x0 x1 x2 x3 x4; have E9 := hide EX; clear EX; obtain ⟨x0, x1, x2, x3, x4, _⟩ := slot5 E9.out.ed; obtain ⟨y0, y1, y2, y3, y4, w0, w1, w2, w3, w4, yl⟩ := slot5 E9.out.res))
                obtain ⟨WE, hWE, P9, o9, a9, B9⟩ := E9.out.end' (.slice va j vc) (.slice aa q ac) ed.log ed.seq ed.next
                rw [← hWE]
                obtain ⟨q0, q1, q2, q3, q4, _⟩ := slot5 P9
                refine bodyPost_ret (v := .tuple #[ev (.slice va j vc) (.slice aa q ac) ed.log ed.seq ed.next, .int .i64 0]) (by simp [results, Tryz.results71, go_sem, q0, q1, q2, q3, q4]) rfl ?_
                refine ⟨.inl ⟨HB.out, va, vc, aa, ac, ?_, ?_, ?_⟩, B9⟩
                · rw [← HED.out, HJ.out, HQ.out]
                · rw [← HED.out, HJ.out]; exact o9
                · rw [← HED.out, HQ.out]; exact a9
end Go.Proofs.YtlhnjloimhcpfabGreatDoor
