/-
  Tokens lie one behind the other, and nothing lies between them but blanks: the law's walk.
-/
import Derived.Test.YtfkfljpajeeclaaDoorLxBl
import Derived.Deep.RegionHeld3
namespace Go.Proofs.YtfkfljpajeeclaaDoor
open Go.RowKit
attribute [local go_sem ↓] Go.wp_at_zero Go.wp_at_succ

theorem blankI_any (w : World) (r : Int) : Calls Tryd.prog 18 #[.int .u8 r] w fun e w' => e = .returned (.bool (Lx.blR r)) ∧ w' = w := by
  by_cases h1 : r = 9 <;> by_cases h2 : r = 10 <;> by_cases h3 : r = 13 <;> by_cases h4 : r = 32
  all_goals
    go_enter Tryd.func18, Tryd.ntmps18
    go_wp2
    go_ret
    exact ⟨by simp [Lx.blR, *], rfl⟩
theorem blank_any (w : World) (c : UInt8) : Calls Tryd.prog 18 #[.int .u8 c.toNat] w fun e w' => e = .returned (.bool (Lx.bl c)) ∧ w' = w := by
  have := blankI_any w c.toNat
  rw [Lx.blR_c] at this
  exact this

theorem sl_under : Tryd.prog.underlying 22 = some (.slice (Tryd.prog.elem 22)) := by simp [Program.elem, Tryd.underlying22]
theorem one_slice (W : World) (b o n c m : Nat) (h : (m : Int) + 1 ≤ c) : (Instr.slice 22 (.slice (some ⟨b, o, none⟩) n c) (some (.int .i64 (m : Int))) (some (.int .i64 ((m : Int) + 1))) none).run Tryd.prog W = .ok (.slice (some ⟨b, o + m * 4, none⟩) 1 (c - m)) W := by
  have hc : ¬ c = m := by omega
  have e : ((m : Int) + 1).toNat = m + 1 := by omega
  have h0 : (0 : Int) ≤ m := by omega
  have h1 : (m : Int) ≤ (m : Int) + 1 := by omega
  have h2 : (0 : Int) ≤ (m : Int) + 1 := by omega
  have u := sl_under
  rw [run_slice_lh (P := Tryd.prog) W 22 (some ⟨b, o, none⟩) n c u .i64 .i64 _ _ h0 h1 h]
  simp [go_sem, sliced, hc, e, Program.elem, Tryd.underlying22, Tryd.sizeOf31]
theorem one_sliceAt (W : World) (b o n c m : Nat) (h : (m : Int) + 1 ≤ c) : (Instr.sliceAt 22 (.slice (some ⟨b, o, none⟩) n c) (some (.int .i64 (m : Int))) (some (.int .i64 ((m : Int) + 1))) none).run Tryd.prog W = .ok (.slice (some ⟨b, o + m * 4, none⟩) 1 (c - m)) W := by
  rw [run_sliceAt_slice (P := Tryd.prog) W _ _ _ _ _ sl_under]
  exact one_slice W b o n c m h
theorem bcat {w0 wc wx : World} (h : Below w0.heap.size w0 wc) (hu : Below wc.heap.size wc wx) : Below w0.heap.size w0 wx := h.trans (hu.mono h.size)
theorem gaps_bad (w : World) (s : ByteArray) (X : Int) (P : Nat) (hT : Tab2 w) (hs : s.size ≤ 4000) (h1 : Lx.lexA s.data.toList 0 = .error (X, P)) : Calls Tryd.prog 6 #[.string s] w fun e w' => e = .returned (.bool true) ∧ Below w.heap.size w w' := by
  have LV := hide (fun wx (hb : Below w.heap.size w wx) => lives_any wx (hT.later hb))
  have L1 := hide (fun wx (hb : Below w.heap.size w wx) => lex_bad wx s X P (by omega) (hT.later hb) h1)
  obtain ⟨hX, hP⟩ := Lx.lexA_no h1
  rw [l_size] at hP
  have hPi : (P : Int) < s.size := by omega
  have hsi : ¬ (s.size : Int) > 4000 := by omega
  clear hT h1 hs hP
  go_enter Tryd.func6, Tryd.ntmps6
  go_wp2_with (first
    | (go_at_call 12; refine (LV.out _ (Below.refl _ _)).mono ?_; rintro e w0 ⟨rfl, hz⟩; have B0 := hide hz; clear hz)
    | (go_at_call 8; refine (L1.out _ B0.out).mono ?_; rintro e w1 ⟨rfl, hz⟩; have B1 := hide (B0.out.trans (hz.mono B0.out.size)); clear hz))
  go_ret
  exact ⟨rfl, by first | exact B1.out | exact B1.out.alloc B1.out.size _⟩

set_option maxRecDepth 100000 in
set_option maxHeartbeats 16000000 in
theorem gaps_ok (w : World) (s : ByteArray) (q : List Lx.Tk) (hT : Tab2 w) (hs : s.size ≤ 4000) (h1 : Lx.lexA s.data.toList 0 = .ok q) : Calls Tryd.prog 6 #[.string s] w fun e w' => e = .returned (.bool true) ∧ Below w.heap.size w w' := by
  have LV := hide (fun wx (hb : Below w.heap.size w wx) => lives_any wx (hT.later hb))
  have L1 := hide (fun wx (hb : Below w.heap.size w wx) => lex_room wx s q (by omega) (hT.later hb) h1)
  have HG := hide (lex_gs h1)
  have TT := hide hT
  have hsi : ¬ (s.size : Int) > 4000 := by omega
  have HL := hide (l_size s)
  have hql : q.length ≤ s.size := by have := (unp_may (s := s.data.toList) (by rw [l_size]; omega) h1).2; rw [l_size] at this; exact this
  have HU := hide (unp_may (s := s.data.toList) (by rw [l_size]; omega) h1)
  clear hT h1
  have K0 : Hid True := trivial
  go_enter Tryd.func6, Tryd.ntmps6
  go_wp2_with (first
    | (go_at_call 12; have tk := K0; refine (LV.out _ (Below.refl _ _)).mono ?_; rintro e w0 ⟨rfl, hz⟩; have B0 := hide hz; clear hz; clear tk K0; have K1 : Hid True := trivial)
    | (go_at_call 8; have tk := K1; refine (L1.out _ B0.out).mono ?_; rintro e w1 ⟨v1, rfl, hv, ⟨a1, c1, hv1, hc1⟩, hz⟩; subst hv1; have B1 := hide (B0.out.trans (hz.mono B0.out.size)); have V1 := hide (hv.later ((Below.refl _ _).alloc (Nat.le_refl _) (.cells #[.int .i64 0, .int .i64 0] 25))); clear hv hz; clear tk K1 LV L1; have K2 : Hid True := trivial))
  obtain ⟨W1, hW1⟩ : ∃ W1, W1 = w1.alloc (.cells #[.int .i64 0, .int .i64 0] 25) := ⟨_, rfl⟩
  have BW := hide (show Below w.heap.size w W1 by rw [hW1]; exact B1.out.alloc B1.out.size _)
  rw [← hW1] at V1 ⊢
  clear hW1 B1 B0 K2
  go_loopw [5] (fun i wr => ∃ k : Nat, i = .int .i64 k ∧ k ≤ q.length + 1 ∧ Below W1.heap.size W1 wr) (fun i _ => q.length + 1 - (intOf i).toNat)
  case atStart => exact ⟨0, rfl, by omega, Below.refl _ _⟩
  case round =>
    obtain ⟨k, rfl, hk, hb⟩ := hrel
    by_cases hlt : k ≤ q.length
    · have hki : (k : Int) ≤ q.length := by omega
      obtain ⟨E, hE⟩ : ∃ E, E = Lx.nxt s.data.toList q k := ⟨_, rfl⟩
      obtain ⟨⟨a2, c2, ev, _, hf⟩, hwf⟩ := V1.out
      obtain ⟨rfl, rfl⟩ : a1 = a2 ∧ c1 = c2 := by simpa using ev
      have hlast : (k < q.length ∧ ∃ b o, a1 = some ⟨b, o, none⟩ ∧ wr.cell? ⟨b, o + k * 4 + 3, none⟩ = some (.int .i64 E)) ∨ (¬ k < q.length ∧ E = s.size) := by
        by_cases h2 : k < q.length
        · obtain ⟨b, o, ea, ht⟩ := hf (by intro e; rw [e] at h2; simp at h2)
          refine .inl ⟨h2, b, o, ea, ?_⟩
          rw [((ht.later hb) k h2).2.2.2, hE]
          have hx2 : q[k]? = some q[k] := List.getElem?_eq_getElem h2
          obtain ⟨s2, _, ha2, _⟩ := Lx.gs_at s.data.toList q 0 k HG.out _ hx2
          unfold Lx.nxt
          rw [hx2]
          simp only [ha2]
          congr 2
        · refine .inr ⟨h2, ?_⟩
          rw [hE]
          unfold Lx.nxt
          rw [List.getElem?_eq_none (by omega)]
          exact HL.out
      have hEs : E ≤ s.size := by
        rw [hE, ← HL.out]
        rcases Nat.eq_zero_or_pos k with h0 | h0
        · rw [h0]; exact (Lx.gs_le s.data.toList q 0 (Nat.zero_le _) HG.out).2.1
        · obtain ⟨x1, hx1⟩ : ∃ x1, q[k - 1]? = some x1 := ⟨q[k - 1], List.getElem?_eq_getElem (by omega)⟩
          have h := Lx.gs_at s.data.toList q 0 (k - 1) HG.out x1 hx1
          rw [show k - 1 + 1 = k from by omega] at h
          obtain ⟨_, _, _, _, _, h, _⟩ := h
          exact h
      have hEi : (E : Int) ≤ s.size := by omega
      cases k with
      | zero =>
        have hBl := (Lx.gs_le s.data.toList q 0 (Nat.zero_le _) HG.out).2.2
        rw [← hE] at hBl
        simp only [List.drop_zero, Nat.sub_zero] at hBl
        have hex := ext_part s 0 E
        obtain ⟨ON, hON⟩ : ∃ ON : ByteArray, ON = s.extract 0 E := ⟨_, rfl⟩
        have HON : Hid (ON.data.toList = s.data.toList.take E) := by show _ = _; rw [hON, hex]; simp
        have hlx : Lx.lexA ON.data.toList 0 = .ok [] := by
          have h := Lx.lexA_blanks (s.data.toList.take E) [] 0 hBl
          rw [List.append_nil, Lx.lexA_nil] at h
          rw [HON.out]; exact h
        have hONs : ON.size ≤ 4000 := by rw [← l_size, HON.out, List.length_take, HL.out]; omega
        have L2 := hide (fun wx (hb : Below w.heap.size w wx) => lex_ok wx ON [] (by omega) (TT.out.later hb) hlx)
        have hexo := hON.symm
        have HBL : Hid (∀ j (h : j < s.size), j < E → Lx.bl (s[j]'h) = true) := fun j h hj => hBl _ (by
          have : (s.data.toList.take E)[j]? = some (s[j]'h) := by
            rw [List.getElem?_take_of_lt hj, List.getElem?_eq_getElem (by rw [HL.out]; exact h)]
            rfl
          exact List.mem_of_getElem? this)
        have HE := hide hE
        have BB := hide (BW.out.trans (hb.mono BW.out.size))
        have HB := hide hb
        clear hE hBl hex hON hlx hONs hb HU
        simp only [Nat.zero_mul, Nat.add_zero] at hlast
        rcases hlast with ⟨h2, b, o, rfl, c3⟩ | ⟨h2, hEz⟩
        · have h2i : (0 : Int) < q.length := by omega
          have lb := World.block_lt_of_cell? wr _ c3
          go_wp2_with (go_at_call 8; refine (L2.out _ BB.out).mono ?_; rintro e w3 ⟨v3, rfl, _, hz⟩; have B3 := hide (HB.out.trans (hz.mono HB.out.size)); clear hz)
          go_quiet (fail)
          go_wp2
          go_loopw [10] (fun v wx => ∃ j : Nat, v = .int .i64 j ∧ j ≤ E ∧ Below W1.heap.size W1 wx) (fun v _ => E - (intOf v).toNat)
          case atStart => exact ⟨0, rfl, Nat.zero_le _, (B3.out.alloc B3.out.size _).trans ⟨rfl, rfl, rfl, Nat.le_refl _, fun _ _ => rfl⟩⟩
          case round =>
            obtain ⟨j, rfl, hj, bx⟩ := hrel
            clear B3
            by_cases hjE : j < E
            · have hji : (j : Int) < E := by omega
              have hjs : j < s.size := by omega
              have hb1 := HBL.out j hjs hjE
              have BK : Hid (∀ wx, Calls Tryd.prog 18 #[.int .u8 (s[j]'hjs).toNat] wx fun e w' => e = .returned (.bool true) ∧ w' = wx) := fun wx => by have := blank_any wx (s[j]'hjs); rw [hb1] at this; exact this
              clear hb1
              go_wp2_with (go_at_call 18; refine (BK.out _).mono ?_; rintro e w5 ⟨rfl, rfl⟩)
              go_roundw
              case rel => exact ⟨j + 1, by go_num, by omega, bx⟩
              case measure => simp [intOf]; omega
            · have hji : ¬ (j : Int) < E := by omega
              go_wp2
              go_roundw
              case rel => exact ⟨0 + 1, by go_num, by omega, bx⟩
              case measure => simp [intOf]
        · have h2i : ¬ (0 : Int) < q.length := by omega
          subst hEz
          go_wp2_with (go_at_call 8; refine (L2.out _ BB.out).mono ?_; rintro e w3 ⟨v3, rfl, _, hz⟩; have B3 := hide (HB.out.trans (hz.mono HB.out.size)); clear hz)
          go_quiet (fail)
          go_wp2
          go_loopw [10] (fun v wx => ∃ j : Nat, v = .int .i64 j ∧ j ≤ s.size ∧ Below W1.heap.size W1 wx) (fun v _ => s.size - (intOf v).toNat)
          case atStart => exact ⟨0, rfl, Nat.zero_le _, (B3.out.alloc B3.out.size _).trans ⟨rfl, rfl, rfl, Nat.le_refl _, fun _ _ => rfl⟩⟩
          case round =>
            obtain ⟨j, rfl, hj, bx⟩ := hrel
            clear B3
            by_cases hjE : j < s.size
            · have hji : (j : Int) < s.size := by omega
              have hjs : j < s.size := by omega
              have hb1 := HBL.out j hjs hjE
              have BK : Hid (∀ wx, Calls Tryd.prog 18 #[.int .u8 (s[j]'hjs).toNat] wx fun e w' => e = .returned (.bool true) ∧ w' = wx) := fun wx => by have := blank_any wx (s[j]'hjs); rw [hb1] at this; exact this
              clear hb1
              go_wp2_with (go_at_call 18; refine (BK.out _).mono ?_; rintro e w5 ⟨rfl, rfl⟩)
              go_roundw
              case rel => exact ⟨j + 1, by go_num, by omega, bx⟩
              case measure => simp [intOf]; omega
            · have hji : ¬ (j : Int) < s.size := by omega
              go_wp2
              go_roundw
              case rel => exact ⟨0 + 1, by go_num, by omega, bx⟩
              case measure => simp [intOf]
      | succ m =>
        have hm : m < q.length := by omega
        obtain ⟨x1, hx1⟩ : ∃ x1, q[m]? = some x1 := ⟨q[m], List.getElem?_eq_getElem hm⟩
        obtain ⟨s0, n, ha, hn, he1, he2, hBl⟩ := Lx.gs_at s.data.toList q 0 m HG.out x1 hx1
        rw [← hE] at he1 he2 hBl
        have hqm : q[m] = x1 := by
          have := List.getElem?_eq_getElem hm
          rw [hx1] at this; exact (Option.some.inj this).symm
        obtain ⟨b, o, rfl, ht⟩ := hf (by intro e; rw [e] at hm; simp at hm)
        have c3 := ((ht.later hb) m hm).2.2.2
        rw [hqm, ha] at c3
        have lb := World.block_lt_of_cell? wr _ c3
        have hw := Lx.next_width hn
        obtain ⟨ON, hON⟩ : ∃ ON : ByteArray, ON = s.extract s0 E := ⟨_, rfl⟩
        have HON : Hid (ON.data.toList = (s.data.toList.drop s0).take (E - s0)) := by show _ = _; rw [hON, ext_part]
        have hlx : Lx.lexA ON.data.toList 0 = .ok [Lx.unp x1] := by rw [HON.out]; exact Lx.gap_lex hn he1 hBl
        have hONs : ON.size ≤ 4000 := by rw [← l_size, HON.out, List.length_take, List.length_drop, HL.out]; omega
        have L2 := hide (fun wx (hb : Below w.heap.size w wx) => lex_ok wx ON [Lx.unp x1] (by omega) (TT.out.later hb) hlx)
        have hexo := hON.symm
        have hxw : ∀ y ∈ [Lx.unp x1], Twf y := fun y hy => by
          simp only [List.mem_cons, List.not_mem_nil, or_false] at hy
          subst hy
          exact (HU.out.1 _ (List.mem_map.2 ⟨x1, List.mem_of_getElem? hx1, rfl⟩)).1
        have VS : Hid (∀ wx, Below W1.heap.size W1 wx → TksIn wx (.slice (some ⟨b, o + m * 4, none⟩) 1 (c1 - m)) [x1]) := fun wx hbx => by
          refine ⟨⟨_, _, rfl, (fun e => by cases e), fun _ => ⟨b, o + m * 4, rfl, fun j hj => ?_⟩⟩, fun y hy => hwf y (by simp only [List.mem_cons, List.not_mem_nil, or_false] at hy; subst hy; exact List.mem_of_getElem? hx1)⟩
          obtain rfl : j = 0 := by simp at hj; exact hj
          have h := (ht.later hbx) m hm
          rw [hqm] at h
          simpa using h
        have PQ : Hid (∀ wx v, (TksIn wx v [Lx.unp x1] ∨ TksIn wx v [x1]) → Calls Tryd.prog 17 #[v] wx fun e w' => ∃ v', e = .returned v' ∧ TksIn w' v' [Lx.unp x1] ∧ Below wx.heap.size wx w') := fun wx v h => by
          rcases h with h | h
          · exact placed_in wx v _ _ h (by simp) rfl hxw
          · exact placed_in wx v _ _ h (by simp) rfl hxw
        have SA := hide (fun wx a b (h : TksIn wx a [Lx.unp x1]) (h' : TksIn wx b [Lx.unp x1]) => sameT_any wx a b _ h h' (by simp))
        have HE := hide hE
        have BB := hide (BW.out.trans (hb.mono BW.out.size))
        have HB := hide hb
        have hs0 : (0 : Int) ≤ s0 := by omega
        have hs1 : (s0 : Int) < E := by omega
        have hs2 : ((s0 : Int) == (E : Int)) = false := by simp; omega
        have hN0 : ¬ (s0 : Int) < 0 := by omega
        have hN1 : ¬ s.size < E := by omega
        have hN2 : ¬ E < s0 := by omega
        have hmi : (m : Int) < q.length := by omega
        have hmc : (m : Int) + 1 ≤ c1 := by omega
        have K6 : Hid True := trivial
        clear hE hBl hON hlx hONs hb HU hwf hf hqm ha hn hx1 ht hw he1 he2
        rcases hlast with ⟨h2, b', o', eb, c4⟩ | ⟨h2, hEz⟩
        · cases eb
          have h2i : (m : Int) + 1 < q.length := by omega
          have hm0 : ¬ (m : Int) + 1 = 0 := by omega
          have hm1 : ((m : Int) + 1 == 0) = false := by simp; omega
          go_wp2_with (go_at_call 8; refine (L2.out _ BB.out).mono ?_; rintro e w3 ⟨v3, rfl, hv, hz⟩; have B3 := hide (HB.out.trans (hz.mono HB.out.size)); have V3 := hide hv; clear hv hz)
          obtain ⟨W3, hW3⟩ : ∃ W3, W3 = w3.alloc (.cells #[.int .i64 0, .int .i64 0] 25) := ⟨_, rfl⟩
          have GB : W3.heap[w3.heap.size]? = some (.cells #[.int .i64 0, .int .i64 0] 25 (0, 0)) := by rw [hW3]; show (w3.heap.push _)[w3.heap.size]? = _; simp
          have V3b := hide (show TksIn W3 v3 [Lx.unp x1] by rw [hW3]; exact V3.out.later ((Below.refl _ _).alloc (Nat.le_refl _) _))
          have B4 := hide (show Below W1.heap.size W1 W3 by rw [hW3]; exact B3.out.alloc B3.out.size _)
          obtain ⟨p0, p1, _, _, plt⟩ := slot2 GB
          rw [← hW3]
          clear hW3 V3 B3
          obtain ⟨G, hG⟩ : ∃ G, G = w3.heap.size := ⟨_, rfl⟩
          rw [← hG] at p0 p1 plt GB ⊢
          clear hG GB
          have hma : (0 : Int) ≤ m := by omega
          have hmb : (m : Int) ≤ (m : Int) + 1 := by omega
          have hmd : ¬ c1 = m := by omega
          have hme : (m : Int) ≤ c1 := by omega
          have hmf : ¬ (c1 : Int) = m := by omega
          have hwa : IntKind.i64.wrap ((m : Int) + 1 - 1) = m := by rw [IntKind.wrap_i64]; omega
          have hwb : (m : Int) + 1 - 1 = m := by omega
          have hwm : IntKind.i64.wrap (m : Int) = m := by rw [IntKind.wrap_i64]; omega
          have hwn : IntKind.i64.wrap ((m : Int) + 1) = (m : Int) + 1 := by rw [IntKind.wrap_i64]; omega
          have hmi2 : (m : Int) < c1 := by omega
          have hmg : (m : Int) + 1 ≤ q.length := by omega
          have hmh : (0 : Int) ≤ (m : Int) + 1 := by omega
          have hsl : ∀ W, (Instr.slice 22 (.slice (some ⟨b, o, none⟩) q.length c1) (some (.int .i64 (m : Int))) (some (.int .i64 ((m : Int) + 1))) none).run Tryd.prog W = .ok (.slice (some ⟨b, o + m * 4, none⟩) 1 (c1 - m)) W := fun W => one_slice W b o q.length c1 m hmc
          have hsl2 : ∀ W, (Instr.sliceAt 22 (.slice (some ⟨b, o, none⟩) q.length c1) (some (.int .i64 (m : Int))) (some (.int .i64 ((m : Int) + 1))) none).run Tryd.prog W = .ok (.slice (some ⟨b, o + m * 4, none⟩) 1 (c1 - m)) W := fun W => one_sliceAt W b o q.length c1 m hmc
          go_region_held3 (fun wx => wx.cell? ⟨G, 0, none⟩ = some (.int .i64 0) ∧ wx.cell? ⟨G, 1, none⟩ = some (.int .i64 0)) (first | exact ⟨p0, p1⟩ | exact ⟨q0, q1⟩ | exact ⟨r0, r1⟩ | exact ⟨t0, t1⟩ | (go_keep; done))
            (first
              | (go_at_call 17; have tk := K6; refine (PQ.out _ _ (by first | exact .inl (V3b.out.later (by first | exact Below.refl _ _ | exact (Below.refl _ _).drew | exact (Below.refl _ _).alloc (Nat.le_refl _) _ | exact ((Below.refl _ _).alloc (Nat.le_refl _) _).drew)) | exact .inr (VS.out _ (bcat B4.out (by first | exact Below.refl _ _ | exact (Below.refl _ _).drew | exact (Below.refl _ _).alloc (Nat.le_refl _) _ | exact ((Below.refl _ _).alloc (Nat.le_refl _) _).drew))))).mono ?_; rintro e w5 ⟨v5, rfl, hv, hz⟩; have V5 := hide hv; have q0 : w5.cell? ⟨G, 0, none⟩ = some (.int .i64 0) := (hz.cell (p := ⟨G, 0, none⟩) plt).trans p0; have q1 : w5.cell? ⟨G, 1, none⟩ = some (.int .i64 0) := (hz.cell (p := ⟨G, 1, none⟩) plt).trans p1; have qlt : G < w5.heap.size := Nat.lt_of_lt_of_le plt hz.size; have B5 := hide (show Below W1.heap.size W1 w5 from bstep B4.out hz (by first | exact Below.refl _ _ | exact (Below.refl _ _).drew | exact (Below.refl _ _).alloc (Nat.le_refl _) _ | exact ((Below.refl _ _).alloc (Nat.le_refl _) _).drew)); have V3c := hide (show TksIn w5 v3 [Lx.unp x1] from V3b.out.step hz (by first | exact Below.refl _ _ | exact (Below.refl _ _).drew | exact (Below.refl _ _).alloc (Nat.le_refl _) _ | exact ((Below.refl _ _).alloc (Nat.le_refl _) _).drew)); clear hv tk K6 hz; have K7 : Hid True := trivial)
              | (go_at_call 17; have tk := K7; refine (PQ.out _ _ (by first | exact .inl (V3c.out.later (by first | exact Below.refl _ _ | exact (Below.refl _ _).drew | exact (Below.refl _ _).alloc (Nat.le_refl _) _ | exact ((Below.refl _ _).alloc (Nat.le_refl _) _).drew)) | exact .inr (VS.out _ (bcat B5.out (by first | exact Below.refl _ _ | exact (Below.refl _ _).drew | exact (Below.refl _ _).alloc (Nat.le_refl _) _ | exact ((Below.refl _ _).alloc (Nat.le_refl _) _).drew))))).mono ?_; rintro e w6 ⟨v6, rfl, hv, hz⟩; have V6 := hide hv; have V5b := hide (show TksIn w6 v5 [Lx.unp x1] from V5.out.step hz (by first | exact Below.refl _ _ | exact (Below.refl _ _).drew | exact (Below.refl _ _).alloc (Nat.le_refl _) _ | exact ((Below.refl _ _).alloc (Nat.le_refl _) _).drew)); have r0 : w6.cell? ⟨G, 0, none⟩ = some (.int .i64 0) := (hz.cell (p := ⟨G, 0, none⟩) qlt).trans q0; have r1 : w6.cell? ⟨G, 1, none⟩ = some (.int .i64 0) := (hz.cell (p := ⟨G, 1, none⟩) qlt).trans q1; have rlt : G < w6.heap.size := Nat.lt_of_lt_of_le qlt hz.size; have B6 := hide (show Below W1.heap.size W1 w6 from bstep B5.out hz (by first | exact Below.refl _ _ | exact (Below.refl _ _).drew | exact (Below.refl _ _).alloc (Nat.le_refl _) _ | exact ((Below.refl _ _).alloc (Nat.le_refl _) _).drew)); clear hv tk K7 hz; have K8 : Hid True := trivial)
              | (go_at_call 9; have tk := K8; refine (SA.out _ _ _ (by first | exact V5b.out.later (by first | exact Below.refl _ _ | exact (Below.refl _ _).drew | exact (Below.refl _ _).alloc (Nat.le_refl _) _ | exact ((Below.refl _ _).alloc (Nat.le_refl _) _).drew) | exact V6.out.later (by first | exact Below.refl _ _ | exact (Below.refl _ _).drew | exact (Below.refl _ _).alloc (Nat.le_refl _) _ | exact ((Below.refl _ _).alloc (Nat.le_refl _) _).drew)) (by first | exact V6.out.later (by first | exact Below.refl _ _ | exact (Below.refl _ _).drew | exact (Below.refl _ _).alloc (Nat.le_refl _) _ | exact ((Below.refl _ _).alloc (Nat.le_refl _) _).drew) | exact V5b.out.later (by first | exact Below.refl _ _ | exact (Below.refl _ _).drew | exact (Below.refl _ _).alloc (Nat.le_refl _) _ | exact ((Below.refl _ _).alloc (Nat.le_refl _) _).drew))).mono ?_; rintro e w7 ⟨rfl, hz⟩; have t0 : w7.cell? ⟨G, 0, none⟩ = some (.int .i64 0) := (hz.cell (p := ⟨G, 0, none⟩) rlt).trans r0; have t1 : w7.cell? ⟨G, 1, none⟩ = some (.int .i64 0) := (hz.cell (p := ⟨G, 1, none⟩) rlt).trans r1; have B7 := hide (show Below W1.heap.size W1 w7 from bstep B6.out hz (by first | exact Below.refl _ _ | exact (Below.refl _ _).drew | exact (Below.refl _ _).alloc (Nat.le_refl _) _ | exact ((Below.refl _ _).alloc (Nat.le_refl _) _).drew)); clear hz tk K8))
          go_wp2
          go_loopw [10] (fun v wx => v = .int .i64 (s0 : Int) ∧ Below W1.heap.size W1 wx) (fun _ _ => 0)
          case atStart => exact ⟨rfl, by first | exact B7.out | exact B7.out.drew | exact B7.out.alloc B7.out.size _ | exact (B7.out.alloc B7.out.size _).drew⟩
          case round =>
            obtain ⟨rfl, bx⟩ := hrel
            clear B7
            go_wp2
            go_roundw
            case rel => exact ⟨m + 1 + 1, by go_num, by omega, bx⟩
            case measure => simp [intOf]; omega
        · have h2i : ¬ (m : Int) + 1 < q.length := by omega
          subst hEz
          have hm0 : ¬ (m : Int) + 1 = 0 := by omega
          have hm1 : ((m : Int) + 1 == 0) = false := by simp; omega
          go_wp2_with (go_at_call 8; refine (L2.out _ BB.out).mono ?_; rintro e w3 ⟨v3, rfl, hv, hz⟩; have B3 := hide (HB.out.trans (hz.mono HB.out.size)); have V3 := hide hv; clear hv hz)
          obtain ⟨W3, hW3⟩ : ∃ W3, W3 = w3.alloc (.cells #[.int .i64 0, .int .i64 0] 25) := ⟨_, rfl⟩
          have GB : W3.heap[w3.heap.size]? = some (.cells #[.int .i64 0, .int .i64 0] 25 (0, 0)) := by rw [hW3]; show (w3.heap.push _)[w3.heap.size]? = _; simp
          have V3b := hide (show TksIn W3 v3 [Lx.unp x1] by rw [hW3]; exact V3.out.later ((Below.refl _ _).alloc (Nat.le_refl _) _))
          have B4 := hide (show Below W1.heap.size W1 W3 by rw [hW3]; exact B3.out.alloc B3.out.size _)
          obtain ⟨p0, p1, _, _, plt⟩ := slot2 GB
          rw [← hW3]
          clear hW3 V3 B3
          obtain ⟨G, hG⟩ : ∃ G, G = w3.heap.size := ⟨_, rfl⟩
          rw [← hG] at p0 p1 plt GB ⊢
          clear hG GB
          have hma : (0 : Int) ≤ m := by omega
          have hmb : (m : Int) ≤ (m : Int) + 1 := by omega
          have hmd : ¬ c1 = m := by omega
          have hme : (m : Int) ≤ c1 := by omega
          have hmf : ¬ (c1 : Int) = m := by omega
          have hwa : IntKind.i64.wrap ((m : Int) + 1 - 1) = m := by rw [IntKind.wrap_i64]; omega
          have hwb : (m : Int) + 1 - 1 = m := by omega
          have hwm : IntKind.i64.wrap (m : Int) = m := by rw [IntKind.wrap_i64]; omega
          have hwn : IntKind.i64.wrap ((m : Int) + 1) = (m : Int) + 1 := by rw [IntKind.wrap_i64]; omega
          have hmi2 : (m : Int) < c1 := by omega
          have hmg : (m : Int) + 1 ≤ q.length := by omega
          have hmh : (0 : Int) ≤ (m : Int) + 1 := by omega
          have hsl : ∀ W, (Instr.slice 22 (.slice (some ⟨b, o, none⟩) q.length c1) (some (.int .i64 (m : Int))) (some (.int .i64 ((m : Int) + 1))) none).run Tryd.prog W = .ok (.slice (some ⟨b, o + m * 4, none⟩) 1 (c1 - m)) W := fun W => one_slice W b o q.length c1 m hmc
          have hsl2 : ∀ W, (Instr.sliceAt 22 (.slice (some ⟨b, o, none⟩) q.length c1) (some (.int .i64 (m : Int))) (some (.int .i64 ((m : Int) + 1))) none).run Tryd.prog W = .ok (.slice (some ⟨b, o + m * 4, none⟩) 1 (c1 - m)) W := fun W => one_sliceAt W b o q.length c1 m hmc
          go_region_held3 (fun wx => wx.cell? ⟨G, 0, none⟩ = some (.int .i64 0) ∧ wx.cell? ⟨G, 1, none⟩ = some (.int .i64 0)) (first | exact ⟨p0, p1⟩ | exact ⟨q0, q1⟩ | exact ⟨r0, r1⟩ | exact ⟨t0, t1⟩ | (go_keep; done))
            (first
              | (go_at_call 17; have tk := K6; refine (PQ.out _ _ (by first | exact .inl (V3b.out.later (by first | exact Below.refl _ _ | exact (Below.refl _ _).drew | exact (Below.refl _ _).alloc (Nat.le_refl _) _ | exact ((Below.refl _ _).alloc (Nat.le_refl _) _).drew)) | exact .inr (VS.out _ (bcat B4.out (by first | exact Below.refl _ _ | exact (Below.refl _ _).drew | exact (Below.refl _ _).alloc (Nat.le_refl _) _ | exact ((Below.refl _ _).alloc (Nat.le_refl _) _).drew))))).mono ?_; rintro e w5 ⟨v5, rfl, hv, hz⟩; have V5 := hide hv; have q0 : w5.cell? ⟨G, 0, none⟩ = some (.int .i64 0) := (hz.cell (p := ⟨G, 0, none⟩) plt).trans p0; have q1 : w5.cell? ⟨G, 1, none⟩ = some (.int .i64 0) := (hz.cell (p := ⟨G, 1, none⟩) plt).trans p1; have qlt : G < w5.heap.size := Nat.lt_of_lt_of_le plt hz.size; have B5 := hide (show Below W1.heap.size W1 w5 from bstep B4.out hz (by first | exact Below.refl _ _ | exact (Below.refl _ _).drew | exact (Below.refl _ _).alloc (Nat.le_refl _) _ | exact ((Below.refl _ _).alloc (Nat.le_refl _) _).drew)); have V3c := hide (show TksIn w5 v3 [Lx.unp x1] from V3b.out.step hz (by first | exact Below.refl _ _ | exact (Below.refl _ _).drew | exact (Below.refl _ _).alloc (Nat.le_refl _) _ | exact ((Below.refl _ _).alloc (Nat.le_refl _) _).drew)); clear hv tk K6 hz; have K7 : Hid True := trivial)
              | (go_at_call 17; have tk := K7; refine (PQ.out _ _ (by first | exact .inl (V3c.out.later (by first | exact Below.refl _ _ | exact (Below.refl _ _).drew | exact (Below.refl _ _).alloc (Nat.le_refl _) _ | exact ((Below.refl _ _).alloc (Nat.le_refl _) _).drew)) | exact .inr (VS.out _ (bcat B5.out (by first | exact Below.refl _ _ | exact (Below.refl _ _).drew | exact (Below.refl _ _).alloc (Nat.le_refl _) _ | exact ((Below.refl _ _).alloc (Nat.le_refl _) _).drew))))).mono ?_; rintro e w6 ⟨v6, rfl, hv, hz⟩; have V6 := hide hv; have V5b := hide (show TksIn w6 v5 [Lx.unp x1] from V5.out.step hz (by first | exact Below.refl _ _ | exact (Below.refl _ _).drew | exact (Below.refl _ _).alloc (Nat.le_refl _) _ | exact ((Below.refl _ _).alloc (Nat.le_refl _) _).drew)); have r0 : w6.cell? ⟨G, 0, none⟩ = some (.int .i64 0) := (hz.cell (p := ⟨G, 0, none⟩) qlt).trans q0; have r1 : w6.cell? ⟨G, 1, none⟩ = some (.int .i64 0) := (hz.cell (p := ⟨G, 1, none⟩) qlt).trans q1; have rlt : G < w6.heap.size := Nat.lt_of_lt_of_le qlt hz.size; have B6 := hide (show Below W1.heap.size W1 w6 from bstep B5.out hz (by first | exact Below.refl _ _ | exact (Below.refl _ _).drew | exact (Below.refl _ _).alloc (Nat.le_refl _) _ | exact ((Below.refl _ _).alloc (Nat.le_refl _) _).drew)); clear hv tk K7 hz; have K8 : Hid True := trivial)
              | (go_at_call 9; have tk := K8; refine (SA.out _ _ _ (by first | exact V5b.out.later (by first | exact Below.refl _ _ | exact (Below.refl _ _).drew | exact (Below.refl _ _).alloc (Nat.le_refl _) _ | exact ((Below.refl _ _).alloc (Nat.le_refl _) _).drew) | exact V6.out.later (by first | exact Below.refl _ _ | exact (Below.refl _ _).drew | exact (Below.refl _ _).alloc (Nat.le_refl _) _ | exact ((Below.refl _ _).alloc (Nat.le_refl _) _).drew)) (by first | exact V6.out.later (by first | exact Below.refl _ _ | exact (Below.refl _ _).drew | exact (Below.refl _ _).alloc (Nat.le_refl _) _ | exact ((Below.refl _ _).alloc (Nat.le_refl _) _).drew) | exact V5b.out.later (by first | exact Below.refl _ _ | exact (Below.refl _ _).drew | exact (Below.refl _ _).alloc (Nat.le_refl _) _ | exact ((Below.refl _ _).alloc (Nat.le_refl _) _).drew))).mono ?_; rintro e w7 ⟨rfl, hz⟩; have t0 : w7.cell? ⟨G, 0, none⟩ = some (.int .i64 0) := (hz.cell (p := ⟨G, 0, none⟩) rlt).trans r0; have t1 : w7.cell? ⟨G, 1, none⟩ = some (.int .i64 0) := (hz.cell (p := ⟨G, 1, none⟩) rlt).trans r1; have B7 := hide (show Below W1.heap.size W1 w7 from bstep B6.out hz (by first | exact Below.refl _ _ | exact (Below.refl _ _).drew | exact (Below.refl _ _).alloc (Nat.le_refl _) _ | exact ((Below.refl _ _).alloc (Nat.le_refl _) _).drew)); clear hz tk K8))
          go_wp2
          go_loopw [10] (fun v wx => v = .int .i64 (s0 : Int) ∧ Below W1.heap.size W1 wx) (fun _ _ => 0)
          case atStart => exact ⟨rfl, by first | exact B7.out | exact B7.out.drew | exact B7.out.alloc B7.out.size _ | exact (B7.out.alloc B7.out.size _).drew⟩
          case round =>
            obtain ⟨rfl, bx⟩ := hrel
            clear B7
            go_wp2
            go_roundw
            case rel => exact ⟨m + 1 + 1, by go_num, by omega, bx⟩
            case measure => simp [intOf]; omega
    · have hki : ¬ (k : Int) ≤ q.length := by omega
      have BB := hide (BW.out.trans (hb.mono BW.out.size))
      go_wp2
      go_ret
      exact ⟨rfl, BB.out⟩
end Go.Proofs.YtfkfljpajeeclaaDoor
