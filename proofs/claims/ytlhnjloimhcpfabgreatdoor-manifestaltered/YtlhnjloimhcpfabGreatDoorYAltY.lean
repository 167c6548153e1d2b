/-
  The walk of ManifestAltered, where the burst is laid upon the file that names the other one: tables are added one by one, a burst within one frame is laid upon a file byte by byte, and the manifest is refused. (Written by wip/gen/alt10.py.)
-/
import Derived.Test.YtlhnjloimhcpfabGreatDoorYAltN
namespace Go.Proofs.YtlhnjloimhcpfabGreatDoor.manifestAltered
open Go.ChangeShapes Go.WideShapes Go.ChangeAt Go.RowKit Go.Maps Go.Sort Go.Shelf

set_option maxRecDepth 100000 in
set_option maxHeartbeats 8000000 in
theorem walk_yes (w : World) (a0 : Option Addr) (n c0 : Nat) (wh at' : Int) (bits : Nat) (l : List Mf.Bs) (hn2 : n ≤ 30) (hb' : bits < 4294967296) (hb0 : bits ≠ 0) (ha : at' ≤ 9223372036854775807) (hw1 : -9223372036854775808 ≤ wh) (hw2 : wh ≤ 9223372036854775807) (hev : ErrVar w)
    (harg : ∀ j, j < n → ∃ b0 off0, a0 = some ⟨b0, off0, none⟩ ∧ w.cell? ⟨b0, off0 + j, none⟩ = some (str (l.getD j []))) (hlen : ∀ j, j < n → (l.getD j []).length ≤ maxLen) :
    Calls Tryz.prog 3 #[.slice a0 n c0, .bool true, .int .i64 wh, .int .i64 at', .int .u32 (bits : Int)] w fun e w' => e = .returned (.bool true) ∧ Below w.heap.size w w' := by
  have LV := hide ylives_any
  have i1 : ¬ (n : Int) > 30 := by omega
  have i2 : ((bits : Int) == 0) = false := by simp; omega
  have NW : Hid (∀ wx : World, Calls Tryz.prog 5 #[.int .i64 1048576] wx fun e w' => ∃ b, e = .returned (.tuple #[.pointer (some ⟨b, 0, none⟩), .int .i64 0]) ∧ FsIn wx.heap.size w'.heap.size w' b Ma.z0 ∧ Below wx.heap.size wx w') := fun wx => new_fs wx 1048576 (by decide)
  have OP : Hid (∀ base wx b, FsIn base wx.heap.size wx b Ma.z0 → Calls Tryz.prog 6 #[.pointer (some ⟨b, 0, none⟩)] wx fun e w' => ∃ c, e = .returned (.tuple #[.pointer (some ⟨c, 0, none⟩), .int .i64 0]) ∧ Hid (∃ P, MfIn P base w' c b Ma.z1 (Mf.nm 1) Mf.first false) ∧ Below base wx w') := fun base wx b h => by
    have fk : FsK (fun _ => False) base wx b Ma.z0 := by
      obtain ⟨S, hr, hS⟩ := h.rep
      exact ⟨⟨S, hr, fun i hi => ⟨(hS i hi).1, fun hf => hf⟩⟩, h.inv, fun i hi => hi.elim, h.low⟩
    refine (open_new wx b Ma.z0 fk (by decide +kernel) Ma.miss Ma.beg).mono ?_
    rintro e w' ⟨c, Q, rfl, hm, _, hk⟩
    exact ⟨c, rfl, ⟨Q, hm⟩, hk.bel⟩
  obtain ⟨f1, hf1⟩ : ∃ f1, f1 = Mf.nm 1 := ⟨_, rfl⟩
  have HF1 := hide hf1
  have FL : Hid (∀ X base wx c b j m ge ce, Hid (M1 X w base l wx c b j m ge ce) → Calls Tryz.prog 8 #[.pointer (some ⟨c, 0, none⟩)] wx fun e w' => e = .returned (str f1) ∧ w' = wx) := fun X base wx c b j m ge ce h => by rw [hf1]; exact h.out.fileC
  have RD : Hid (∀ X base wx c b j m ge ce, Hid (M1 X w base l wx c b j m ge ce) → j ≤ 30 → Calls Tryz.prog 7 #[.pointer (some ⟨b, 0, none⟩), str f1] wx fun e w' => ∃ g N k, e = .returned (.tuple #[.slice (some ⟨g, 0, none⟩) N k, .int .i64 0]) ∧ Hid (N = (Ma.dt l (j + 1)).length) ∧ Hid (w'.ownsRow wx.heap.size 5 1 (.slice (some ⟨g, 0, none⟩) N k) N (bc (Ma.dt l (j + 1)))) ∧ Below wx.heap.size wx w') := fun X base wx c b j m ge ce h hj => by rw [hf1]; exact h.out.readC hj
  have ARG : Hid (∀ wx, Below w.heap.size w wx → ∀ j, j < n → ∃ b0 off0, a0 = some ⟨b0, off0, none⟩ ∧ b0 < w.heap.size ∧ wx.cell? ⟨b0, off0 + j, none⟩ = some (str (l.getD j []))) := fun wx hw j hj => by
    obtain ⟨b0, off0, e, h1⟩ := harg j hj
    exact ⟨b0, off0, e, World.block_lt_of_cell? w _ h1, keepC hw h1⟩
  have HLEN := hide hlen
  have HB0 := hide hb0
  have HEV := hide hev
  clear harg hlen hb0 hf1 hev
  go_enter Tryz.func3, Tryz.ntmps3
  go_wp2_with (first
    | (go_at_call 4; refine (LV.out _).mono ?_; rintro e w1 ⟨rfl, B1⟩; clear LV)
    | (go_at_call 5; refine (NW.out _).mono ?_; rintro e w2 ⟨b, rfl, f2, b2⟩; have B2 := B1.trans (b2.mono B1.size); clear NW)
    | (go_at_call 6; refine (OP.out _ _ _ f2).mono ?_; rintro e w3 ⟨c, rfl, f3, b3⟩; have B3 := B2.trans (b3.mono B1.size); have F0 : Hid (M1 (fun _ => False) w w1.heap.size l (w3.alloc (.cells #[.int .i64 0] 3)) c b 0 0 w3.heap.size 1) := (by obtain ⟨P, h⟩ := f3.out; exact M1.first h B3 B1.size); have low3 := Nat.le_trans b2.size b3.size; clear OP f2 f3)
    | (go_at_call 8; have tok := F0; refine still (FL.out _ _ _ _ _ _ _ _ _ F0) ?_; clear tok)
    | (go_at_call 7; have tok := F0; refine (RD.out _ _ _ _ _ _ _ _ _ F0 (by omega)).mono ?_; rintro e w4 ⟨g4, N4, k4, rfl, H4, O4, b4⟩; clear tok; have F1 : Hid (M1 (fun i => i = g4) w w1.heap.size l w4 c b 0 0 w3.heap.size 1) := (F0.out.wide b4 (fun i hi => .inr (by subst hi; exact O4.out.lt _ rfl))); clear F0)
    | (at_builtin; refine mends_append rfl _ _ rfl (fun i => i = g4) w w1.heap.size l w4 c b 0 0 w3.heap.size 1 N4 H4 (by omega) F1.out rfl rfl ?_; intro g5 c5 w5 F5 K5))
  have hbase := B1.size
  have O5 : Hid (N4 = (Ma.dt l (0 + 1)).length ∧ w5.ownsRow w1.heap.size 5 1 (.slice (some ⟨g4, 0, none⟩) N4 k4) N4 (bc (Ma.dt l (0 + 1)))) := ⟨H4.out, bytes_keep O4.out (by simp; omega) K5 (by simp)⟩
  have F5' := hide F5
  clear B1 B2 B3 b2 b3 b4 F5 K5 O4 H4 F1 low3
  go_loopw [18, 15, 16] (fun i v bv wr => ∃ (j ge ce g4 N4 k4 : Nat), j ≤ n ∧ i = .int .i64 j ∧ v = .slice (some ⟨ge, 0, none⟩) (j + 1 + 1) ce ∧ bv = .slice (some ⟨g4, 0, none⟩) N4 k4 ∧ Hid (M1 (fun i => i = g4) w w1.heap.size l wr c b j (j + 1) ge ce) ∧ Hid (N4 = (Ma.dt l (j + 1)).length ∧ wr.ownsRow w1.heap.size 5 1 (.slice (some ⟨g4, 0, none⟩) N4 k4) N4 (bc (Ma.dt l (j + 1))))) (fun i _ _ _ => n - (intOf i).toNat)
  case atStart => exact ⟨0, _, _, g4, N4, k4, Nat.zero_le _, rfl, rfl, rfl, F5', O5⟩
  case round =>
    obtain ⟨j, ge, ce, g6, N6, k6, hj, rfl, rfl, rfl, HM, HO⟩ := hrel
    clear F5' O5
    by_cases hlt : j < n
    · obtain ⟨b0, off0, rfl, b0lt, cl0⟩ := ARG.out _ HM.out.below j hlt
      have kl := HLEN.out j hlt
      obtain ⟨K, hK⟩ : ∃ K, K = l.getD j [] := ⟨_, rfl⟩
      rw [← hK] at cl0 kl
      have kl' : K.length ≤ 9223372036854775807 := by unfold maxLen at kl; omega
      have HK := hide hK
      have VR := hide (HM.out.versionC (by omega))
      have HNE := hide (HM.out.off_bytes HO.out.2)
      clear HLEN hK kl HO
      go_wp2_with (go_at_call 9; refine VR.out.mono ?_; rintro e w4 ⟨ta, tc, rfl, b4⟩; clear VR)
      obtain ⟨WA, hWA⟩ : ∃ WA, WA = w4.alloc (vO (.slice ta j tc) 1 0 ((j : Int) + 1)) := ⟨_, rfl⟩
      have bA : Below wr.heap.size wr WA := by rw [hWA]; exact b4.trans ((Below.refl _ _).alloc b4.size _)
      have pA : WA.heap[w4.heap.size]? = some (vO (.slice ta j tc) 1 0 ((j : Int) + 1)) := by rw [hWA]; exact World.alloc_heap_new w4 _
      have vlt : wr.heap.size ≤ w4.heap.size ∧ w4.heap.size < WA.heap.size := ⟨b4.size, (Array.getElem?_eq_some_iff.1 pA).1⟩
      have HA : Hid (M1 (fun i => i = g6 ∨ i = w4.heap.size) w w1.heap.size l WA c b j (j + 1) ge ce) := HM.out.wide bA (fun i hi => hi.imp id (fun e => by subst e; exact vlt))
      have KS : Hid (∀ wx, wx.heap[w4.heap.size]? = WA.heap[w4.heap.size]? → Below w.heap.size w wx → wx.cell? ⟨b0, off0 + j, none⟩ = some (str K) ∧ wx.cell? ⟨w4.heap.size, 3, none⟩ = some (.int .i64 ((j : Int) + 1))) := fun wx h1 h2 => by
        obtain ⟨b0', off0', e, _, h3⟩ := ARG.out wx h2 j hlt
        cases e
        rw [HK.out]
        exact ⟨h3, Joins.cell_of_block (h1.trans pA) 3⟩
      have bwA := HA.out.below
      have P0 := KS.out WA.drew rfl (bwA.trans ((Below.refl _ _).drew.mono bwA.size))
      have u1 : (0 : Int) ≤ (j : Int) := by omega
      have u2 : (j : Int) < (n : Int) := by omega
      rw [← hWA]
      clear hWA pA
      by_cases g6h : (K.length : Int) > 600
      · clear FL RD ARG HM HA
        refine wp_region_held_drew (S := (fun wx => wx.cell? ⟨b0, off0 + j, none⟩ = some (str K) ∧ wx.cell? ⟨w4.heap.size, 3, none⟩ = some (.int .i64 ((j : Int) + 1)))) (by kernel_rfl) P0 (fun hHeld => ?_)
        refine takeH (oi := ?oip1) 0 67 (.slice (some ⟨b0, off0, none⟩) n c0) ?hip1 ?hdp1 ?hwp1 ?hyp1 (by kernel_rfl) (by kernel_rfl) (by kernel_rfl) ?hQp1 (by assumption) ?_
        case hip1 => simp only [List.getElem?_toArray, List.getElem?_cons_zero]; rfl
        case hdp1 => rfl
        case hwp1 => rfl
        case hyp1 => (intro w hSw; (try dsimp only at hSw); go_simp)
        case hQp1 => exact fun _ _ _ h => h
        simp only [Act.put, List.setIfInBounds_toArray, List.set_cons_zero, List.set_cons_succ]
        refine takeH (oi := ?oip2) 1 68 (.int .i64 (j : Int)) ?hip2 ?hdp2 ?hwp2 ?hyp2 (by kernel_rfl) (by kernel_rfl) (by kernel_rfl) ?hQp2 (by assumption) ?_
        case hip2 => simp only [List.getElem?_toArray, List.getElem?_cons_zero, List.getElem?_cons_succ]; rfl
        case hdp2 => rfl
        case hwp2 => rfl
        case hyp2 => (intro w hSw; (try dsimp only at hSw); go_simp)
        case hQp2 => exact fun _ _ _ h => h
        simp only [Act.put, List.setIfInBounds_toArray, List.set_cons_zero, List.set_cons_succ]
        refine takeH (oi := ?oip3) 2 69 (.pointer (some ⟨b0, off0 + j, none⟩)) ?hip3 ?hdp3 ?hwp3 ?hyp3 (by kernel_rfl) (by kernel_rfl) (by kernel_rfl) ?hQp3 (by assumption) ?_
        case hip3 => simp only [List.getElem?_toArray, List.getElem?_cons_zero, List.getElem?_cons_succ]; rfl
        case hdp3 => rfl
        case hwp3 => rfl
        case hyp3 => (intro w hSw; (try dsimp only at hSw); go_simp)
        case hQp3 => exact fun _ _ _ h => h
        simp only [Act.put, List.setIfInBounds_toArray, List.set_cons_zero, List.set_cons_succ]
        refine takeH (oi := ?oip4) 3 70 (str K) ?hip4 ?hdp4 ?hwp4 ?hyp4 (by kernel_rfl) (by kernel_rfl) (by kernel_rfl) ?hQp4 (by assumption) ?_
        case hip4 => simp only [List.getElem?_toArray, List.getElem?_cons_zero, List.getElem?_cons_succ]; rfl
        case hdp4 => rfl
        case hwp4 => rfl
        case hyp4 => (intro w hSw; (try dsimp only at hSw); go_simp)
        case hQp4 => exact fun _ _ _ h => h
        simp only [Act.put, List.setIfInBounds_toArray, List.set_cons_zero, List.set_cons_succ]
        refine takeH (oi := ?oip5) 4 71 (.int .i64 (K.length : Int)) ?hip5 ?hdp5 ?hwp5 ?hyp5 (by kernel_rfl) (by kernel_rfl) (by kernel_rfl) ?hQp5 (by assumption) ?_
        case hip5 => simp only [List.getElem?_toArray, List.getElem?_cons_zero, List.getElem?_cons_succ]; rfl
        case hdp5 => rfl
        case hwp5 => rfl
        case hyp5 => (intro w hSw; (try dsimp only at hSw); go_simp)
        case hQp5 => exact fun _ _ _ h => h
        simp only [Act.put, List.setIfInBounds_toArray, List.set_cons_zero, List.set_cons_succ]
        refine takeH (oi := ?oip6) 5 72 (.bool true) ?hip6 ?hdp6 ?hwp6 ?hyp6 (by kernel_rfl) (by kernel_rfl) (by kernel_rfl) ?hQp6 (by assumption) ?_
        case hip6 => simp only [List.getElem?_toArray, List.getElem?_cons_zero, List.getElem?_cons_succ]; rfl
        case hdp6 => rfl
        case hwp6 => rfl
        case hyp6 => (intro w hSw; (try dsimp only at hSw); go_simp)
        case hQp6 => exact fun _ _ _ h => h
        simp only [Act.put, List.setIfInBounds_toArray, List.set_cons_zero, List.set_cons_succ]
        refine takeH (oi := ?oip7) 6 73 (.bool true) ?hip7 ?hdp7 ?hwp7 ?hyp7 (by kernel_rfl) (by kernel_rfl) (by kernel_rfl) ?hQp7 (by assumption) ?_
        case hip7 => simp only [List.getElem?_toArray, List.getElem?_cons_zero, List.getElem?_cons_succ]; rfl
        case hdp7 => rfl
        case hwp7 => rfl
        case hyp7 => (intro w hSw; (try dsimp only at hSw); go_simp)
        case hQp7 => exact fun _ _ _ h => h
        simp only [Act.put, List.setIfInBounds_toArray, List.set_cons_zero, List.set_cons_succ]
        refine skipH 7 74 ⟨_, rfl, rfl, by rfl⟩ (by kernel_rfl) (by kernel_rfl) (by kernel_rfl) (fun _ _ _ h => h) (by assumption) ?_
        simp only [Act.put, List.setIfInBounds_toArray, List.set_cons_zero, List.set_cons_succ]
        refine skipH 8 75 ⟨_, rfl, rfl, by rfl⟩ (by kernel_rfl) (by kernel_rfl) (by kernel_rfl) (fun _ _ _ h => h) (by assumption) ?_
        simp only [Act.put, List.setIfInBounds_toArray, List.set_cons_zero, List.set_cons_succ]
        refine skipH 9 76 ⟨_, rfl, rfl, by rfl⟩ (by kernel_rfl) (by kernel_rfl) (by kernel_rfl) (fun _ _ _ h => h) (by assumption) ?_
        simp only [Act.put, List.setIfInBounds_toArray, List.set_cons_zero, List.set_cons_succ]
        refine skipH 10 77 ⟨_, rfl, rfl, by rfl⟩ (by kernel_rfl) (by kernel_rfl) (by kernel_rfl) (fun _ _ _ h => h) (by assumption) ?_
        simp only [Act.put, List.setIfInBounds_toArray, List.set_cons_zero, List.set_cons_succ]
        refine skipH 11 78 ⟨_, rfl, rfl, by rfl⟩ (by kernel_rfl) (by kernel_rfl) (by kernel_rfl) (fun _ _ _ h => h) (by assumption) ?_
        simp only [Act.put, List.setIfInBounds_toArray, List.set_cons_zero, List.set_cons_succ]
        refine skipH 12 79 ⟨_, rfl, rfl, by rfl⟩ (by kernel_rfl) (by kernel_rfl) (by kernel_rfl) (fun _ _ _ h => h) (by assumption) ?_
        simp only [Act.put, List.setIfInBounds_toArray, List.set_cons_zero, List.set_cons_succ]
        refine skipH 13 80 ⟨_, rfl, rfl, by rfl⟩ (by kernel_rfl) (by kernel_rfl) (by kernel_rfl) (fun _ _ _ h => h) (by assumption) ?_
        simp only [Act.put, List.setIfInBounds_toArray, List.set_cons_zero, List.set_cons_succ]
        refine skipH 14 81 ⟨_, rfl, rfl, by rfl⟩ (by kernel_rfl) (by kernel_rfl) (by kernel_rfl) (fun _ _ _ h => h) (by assumption) ?_
        simp only [Act.put, List.setIfInBounds_toArray, List.set_cons_zero, List.set_cons_succ]
        refine skipH 15 82 ⟨_, rfl, rfl, by rfl⟩ (by kernel_rfl) (by kernel_rfl) (by kernel_rfl) (fun _ _ _ h => h) (by assumption) ?_
        simp only [Act.put, List.setIfInBounds_toArray, List.set_cons_zero, List.set_cons_succ]
        refine skipH 16 83 ⟨_, rfl, rfl, by rfl⟩ (by kernel_rfl) (by kernel_rfl) (by kernel_rfl) (fun _ _ _ h => h) (by assumption) ?_
        simp only [Act.put, List.setIfInBounds_toArray, List.set_cons_zero, List.set_cons_succ]
        refine skipH 17 84 ⟨_, rfl, rfl, by rfl⟩ (by kernel_rfl) (by kernel_rfl) (by kernel_rfl) (fun _ _ _ h => h) (by assumption) ?_
        simp only [Act.put, List.setIfInBounds_toArray, List.set_cons_zero, List.set_cons_succ]
        refine skipH 18 85 ⟨_, rfl, rfl, by rfl⟩ (by kernel_rfl) (by kernel_rfl) (by kernel_rfl) (fun _ _ _ h => h) (by assumption) ?_
        simp only [Act.put, List.setIfInBounds_toArray, List.set_cons_zero, List.set_cons_succ]
        refine skipH 19 86 ⟨_, rfl, rfl, by rfl⟩ (by kernel_rfl) (by kernel_rfl) (by kernel_rfl) (fun _ _ _ h => h) (by assumption) ?_
        simp only [Act.put, List.setIfInBounds_toArray, List.set_cons_zero, List.set_cons_succ]
        refine skipH 20 87 ⟨_, rfl, rfl, by rfl⟩ (by kernel_rfl) (by kernel_rfl) (by kernel_rfl) (fun _ _ _ h => h) (by assumption) ?_
        simp only [Act.put, List.setIfInBounds_toArray, List.set_cons_zero, List.set_cons_succ]
        refine skipH 21 88 ⟨_, rfl, rfl, by rfl⟩ (by kernel_rfl) (by kernel_rfl) (by kernel_rfl) (fun _ _ _ h => h) (by assumption) ?_
        simp only [Act.put, List.setIfInBounds_toArray, List.set_cons_zero, List.set_cons_succ]
        refine skipH 22 89 ⟨_, rfl, rfl, by rfl⟩ (by kernel_rfl) (by kernel_rfl) (by kernel_rfl) (fun _ _ _ h => h) (by assumption) ?_
        simp only [Act.put, List.setIfInBounds_toArray, List.set_cons_zero, List.set_cons_succ]
        refine skipH 23 90 ⟨_, rfl, rfl, by rfl⟩ (by kernel_rfl) (by kernel_rfl) (by kernel_rfl) (fun _ _ _ h => h) (by assumption) ?_
        simp only [Act.put, List.setIfInBounds_toArray, List.set_cons_zero, List.set_cons_succ]
        refine skipH 24 91 ⟨_, rfl, rfl, by rfl⟩ (by kernel_rfl) (by kernel_rfl) (by kernel_rfl) (fun _ _ _ h => h) (by assumption) ?_
        simp only [Act.put, List.setIfInBounds_toArray, List.set_cons_zero, List.set_cons_succ]
        refine skipH 25 92 ⟨_, rfl, rfl, by rfl⟩ (by kernel_rfl) (by kernel_rfl) (by kernel_rfl) (fun _ _ _ h => h) (by assumption) ?_
        simp only [Act.put, List.setIfInBounds_toArray, List.set_cons_zero, List.set_cons_succ]
        refine takeH (oi := ?oip8) 26 93 (.bool true) ?hip8 ?hdp8 ?hwp8 ?hyp8 (by kernel_rfl) (by kernel_rfl) (by kernel_rfl) ?hQp8 (by assumption) ?_
        case hip8 => simp only [List.getElem?_toArray, List.getElem?_cons_zero, List.getElem?_cons_succ]; rfl
        case hdp8 => rfl
        case hwp8 => rfl
        case hyp8 => (intro w hSw; (try dsimp only at hSw); go_simp)
        case hQp8 => exact fun _ _ _ h => h
        simp only [Act.put, List.setIfInBounds_toArray, List.set_cons_zero, List.set_cons_succ]
        refine wpAnyH_done (by kernel_rfl) ?_ _
        go_wp2_with (fail)
        go_ret
        exact ⟨rfl, bwA.trans ((Below.refl _ _).drew.mono bwA.size)⟩
      · have hcg : g6 ≠ c ∧ w4.heap.size ≠ c := by
          obtain ⟨P, m1, _⟩ := HM.out.mf
          have clt := m1.clt
          exact ⟨HNE.out, by omega⟩
        have AD := hide (HA.out.addC (by omega) K HK.out (by omega) (fun i hi => by rcases hi with rfl | rfl; exact hcg.1; exact hcg.2))
        have ME := hide (fun wx => mmeta_any wx ((j : Int) + 1) 0 ⟨K.toArray⟩ ⟨K.toArray⟩)
        have wj : IntKind.i64.wrap ((j : Int) + 1 + 1) = (j : Int) + 2 := by rw [IntKind.wrap_i64]; omega
        clear ARG HM
        refine wp_region_held_drew (S := (fun wx => wx.cell? ⟨b0, off0 + j, none⟩ = some (str K) ∧ wx.cell? ⟨w4.heap.size, 3, none⟩ = some (.int .i64 ((j : Int) + 1)))) (by kernel_rfl) P0 (fun hHeld => ?_)
        refine takeH (oi := ?oiq1) 0 67 (.slice (some ⟨b0, off0, none⟩) n c0) ?hiq1 ?hdq1 ?hwq1 ?hyq1 (by kernel_rfl) (by kernel_rfl) (by kernel_rfl) ?hQq1 (by assumption) ?_
        case hiq1 => simp only [List.getElem?_toArray, List.getElem?_cons_zero]; rfl
        case hdq1 => rfl
        case hwq1 => rfl
        case hyq1 => (intro w hSw; (try dsimp only at hSw); go_simp)
        case hQq1 => exact fun _ _ _ h => h
        simp only [Act.put, List.setIfInBounds_toArray, List.set_cons_zero, List.set_cons_succ]
        refine takeH (oi := ?oiq2) 1 68 (.int .i64 (j : Int)) ?hiq2 ?hdq2 ?hwq2 ?hyq2 (by kernel_rfl) (by kernel_rfl) (by kernel_rfl) ?hQq2 (by assumption) ?_
        case hiq2 => simp only [List.getElem?_toArray, List.getElem?_cons_zero, List.getElem?_cons_succ]; rfl
        case hdq2 => rfl
        case hwq2 => rfl
        case hyq2 => (intro w hSw; (try dsimp only at hSw); go_simp)
        case hQq2 => exact fun _ _ _ h => h
        simp only [Act.put, List.setIfInBounds_toArray, List.set_cons_zero, List.set_cons_succ]
        refine takeH (oi := ?oiq3) 2 69 (.pointer (some ⟨b0, off0 + j, none⟩)) ?hiq3 ?hdq3 ?hwq3 ?hyq3 (by kernel_rfl) (by kernel_rfl) (by kernel_rfl) ?hQq3 (by assumption) ?_
        case hiq3 => simp only [List.getElem?_toArray, List.getElem?_cons_zero, List.getElem?_cons_succ]; rfl
        case hdq3 => rfl
        case hwq3 => rfl
        case hyq3 => (intro w hSw; (try dsimp only at hSw); go_simp)
        case hQq3 => exact fun _ _ _ h => h
        simp only [Act.put, List.setIfInBounds_toArray, List.set_cons_zero, List.set_cons_succ]
        refine takeH (oi := ?oiq4) 3 70 (str K) ?hiq4 ?hdq4 ?hwq4 ?hyq4 (by kernel_rfl) (by kernel_rfl) (by kernel_rfl) ?hQq4 (by assumption) ?_
        case hiq4 => simp only [List.getElem?_toArray, List.getElem?_cons_zero, List.getElem?_cons_succ]; rfl
        case hdq4 => rfl
        case hwq4 => rfl
        case hyq4 => (intro w hSw; (try dsimp only at hSw); go_simp)
        case hQq4 => exact fun _ _ _ h => h
        simp only [Act.put, List.setIfInBounds_toArray, List.set_cons_zero, List.set_cons_succ]
        refine takeH (oi := ?oiq5) 4 71 (.int .i64 (K.length : Int)) ?hiq5 ?hdq5 ?hwq5 ?hyq5 (by kernel_rfl) (by kernel_rfl) (by kernel_rfl) ?hQq5 (by assumption) ?_
        case hiq5 => simp only [List.getElem?_toArray, List.getElem?_cons_zero, List.getElem?_cons_succ]; rfl
        case hdq5 => rfl
        case hwq5 => rfl
        case hyq5 => (intro w hSw; (try dsimp only at hSw); go_simp)
        case hQq5 => exact fun _ _ _ h => h
        simp only [Act.put, List.setIfInBounds_toArray, List.set_cons_zero, List.set_cons_succ]
        refine takeH (oi := ?oiq6) 5 72 (.bool false) ?hiq6 ?hdq6 ?hwq6 ?hyq6 (by kernel_rfl) (by kernel_rfl) (by kernel_rfl) ?hQq6 (by assumption) ?_
        case hiq6 => simp only [List.getElem?_toArray, List.getElem?_cons_zero, List.getElem?_cons_succ]; rfl
        case hdq6 => rfl
        case hwq6 => rfl
        case hyq6 => (intro w hSw; (try dsimp only at hSw); go_simp)
        case hQq6 => exact fun _ _ _ h => h
        simp only [Act.put, List.setIfInBounds_toArray, List.set_cons_zero, List.set_cons_succ]
        refine takeH (oi := ?oiq7) 6 73 (.bool false) ?hiq7 ?hdq7 ?hwq7 ?hyq7 (by kernel_rfl) (by kernel_rfl) (by kernel_rfl) ?hQq7 (by assumption) ?_
        case hiq7 => simp only [List.getElem?_toArray, List.getElem?_cons_zero, List.getElem?_cons_succ]; rfl
        case hdq7 => rfl
        case hwq7 => rfl
        case hyq7 => (intro w hSw; (try dsimp only at hSw); go_simp)
        case hQq7 => exact fun _ _ _ h => h
        simp only [Act.put, List.setIfInBounds_toArray, List.set_cons_zero, List.set_cons_succ]
        refine takeH (oi := ?oiq8) 7 74 (.pointer (some ⟨c, 0, none⟩)) ?hiq8 ?hdq8 ?hwq8 ?hyq8 (by kernel_rfl) (by kernel_rfl) (by kernel_rfl) ?hQq8 (by assumption) ?_
        case hiq8 => simp only [List.getElem?_toArray, List.getElem?_cons_zero, List.getElem?_cons_succ]; rfl
        case hdq8 => rfl
        case hwq8 => rfl
        case hyq8 => (intro w hSw; (try dsimp only at hSw); go_simp)
        case hQq8 => exact fun _ _ _ h => h
        simp only [Act.put, List.setIfInBounds_toArray, List.set_cons_zero, List.set_cons_succ]
        refine takeH (oi := ?oiq9) 8 75 (.pointer (some ⟨w4.heap.size, 3, none⟩)) ?hiq9 ?hdq9 ?hwq9 ?hyq9 (by kernel_rfl) (by kernel_rfl) (by kernel_rfl) ?hQq9 (by assumption) ?_
        case hiq9 => simp only [List.getElem?_toArray, List.getElem?_cons_zero, List.getElem?_cons_succ]; rfl
        case hdq9 => rfl
        case hwq9 => rfl
        case hyq9 => (intro w hSw; (try dsimp only at hSw); go_simp)
        case hQq9 => exact fun _ _ _ h => h
        simp only [Act.put, List.setIfInBounds_toArray, List.set_cons_zero, List.set_cons_succ]
        refine takeH (oi := ?oiq10) 9 76 (.int .i64 ((j : Int) + 1)) ?hiq10 ?hdq10 ?hwq10 ?hyq10 (by kernel_rfl) (by kernel_rfl) (by kernel_rfl) ?hQq10 (by assumption) ?_
        case hiq10 => simp only [List.getElem?_toArray, List.getElem?_cons_zero, List.getElem?_cons_succ]; rfl
        case hdq10 => rfl
        case hwq10 => rfl
        case hyq10 => (intro w hSw; (try dsimp only at hSw); go_simp)
        case hQq10 => exact fun _ _ _ h => h
        simp only [Act.put, List.setIfInBounds_toArray, List.set_cons_zero, List.set_cons_succ]
        refine takeH (oi := ?oiq11) 10 77 (.slice (some ⟨b0, off0, none⟩) n c0) ?hiq11 ?hdq11 ?hwq11 ?hyq11 (by kernel_rfl) (by kernel_rfl) (by kernel_rfl) ?hQq11 (by assumption) ?_
        case hiq11 => simp only [List.getElem?_toArray, List.getElem?_cons_zero, List.getElem?_cons_succ]; rfl
        case hdq11 => rfl
        case hwq11 => rfl
        case hyq11 => (intro w hSw; (try dsimp only at hSw); go_simp)
        case hQq11 => exact fun _ _ _ h => h
        simp only [Act.put, List.setIfInBounds_toArray, List.set_cons_zero, List.set_cons_succ]
        refine takeH (oi := ?oiq12) 11 78 (.int .i64 (j : Int)) ?hiq12 ?hdq12 ?hwq12 ?hyq12 (by kernel_rfl) (by kernel_rfl) (by kernel_rfl) ?hQq12 (by assumption) ?_
        case hiq12 => simp only [List.getElem?_toArray, List.getElem?_cons_zero, List.getElem?_cons_succ]; rfl
        case hdq12 => rfl
        case hwq12 => rfl
        case hyq12 => (intro w hSw; (try dsimp only at hSw); go_simp)
        case hQq12 => exact fun _ _ _ h => h
        simp only [Act.put, List.setIfInBounds_toArray, List.set_cons_zero, List.set_cons_succ]
        refine takeH (oi := ?oiq13) 12 79 (.pointer (some ⟨b0, off0 + j, none⟩)) ?hiq13 ?hdq13 ?hwq13 ?hyq13 (by kernel_rfl) (by kernel_rfl) (by kernel_rfl) ?hQq13 (by assumption) ?_
        case hiq13 => simp only [List.getElem?_toArray, List.getElem?_cons_zero, List.getElem?_cons_succ]; rfl
        case hdq13 => rfl
        case hwq13 => rfl
        case hyq13 => (intro w hSw; (try dsimp only at hSw); go_simp)
        case hQq13 => exact fun _ _ _ h => h
        simp only [Act.put, List.setIfInBounds_toArray, List.set_cons_zero, List.set_cons_succ]
        refine takeH (oi := ?oiq14) 13 80 (str K) ?hiq14 ?hdq14 ?hwq14 ?hyq14 (by kernel_rfl) (by kernel_rfl) (by kernel_rfl) ?hQq14 (by assumption) ?_
        case hiq14 => simp only [List.getElem?_toArray, List.getElem?_cons_zero, List.getElem?_cons_succ]; rfl
        case hdq14 => rfl
        case hwq14 => rfl
        case hyq14 => (intro w hSw; (try dsimp only at hSw); go_simp)
        case hQq14 => exact fun _ _ _ h => h
        simp only [Act.put, List.setIfInBounds_toArray, List.set_cons_zero, List.set_cons_succ]
        refine takeH (oi := ?oiq15) 14 81 (.slice (some ⟨b0, off0, none⟩) n c0) ?hiq15 ?hdq15 ?hwq15 ?hyq15 (by kernel_rfl) (by kernel_rfl) (by kernel_rfl) ?hQq15 (by assumption) ?_
        case hiq15 => simp only [List.getElem?_toArray, List.getElem?_cons_zero, List.getElem?_cons_succ]; rfl
        case hdq15 => rfl
        case hwq15 => rfl
        case hyq15 => (intro w hSw; (try dsimp only at hSw); go_simp)
        case hQq15 => exact fun _ _ _ h => h
        simp only [Act.put, List.setIfInBounds_toArray, List.set_cons_zero, List.set_cons_succ]
        refine takeH (oi := ?oiq16) 15 82 (.int .i64 (j : Int)) ?hiq16 ?hdq16 ?hwq16 ?hyq16 (by kernel_rfl) (by kernel_rfl) (by kernel_rfl) ?hQq16 (by assumption) ?_
        case hiq16 => simp only [List.getElem?_toArray, List.getElem?_cons_zero, List.getElem?_cons_succ]; rfl
        case hdq16 => rfl
        case hwq16 => rfl
        case hyq16 => (intro w hSw; (try dsimp only at hSw); go_simp)
        case hQq16 => exact fun _ _ _ h => h
        simp only [Act.put, List.setIfInBounds_toArray, List.set_cons_zero, List.set_cons_succ]
        refine takeH (oi := ?oiq17) 16 83 (.pointer (some ⟨b0, off0 + j, none⟩)) ?hiq17 ?hdq17 ?hwq17 ?hyq17 (by kernel_rfl) (by kernel_rfl) (by kernel_rfl) ?hQq17 (by assumption) ?_
        case hiq17 => simp only [List.getElem?_toArray, List.getElem?_cons_zero, List.getElem?_cons_succ]; rfl
        case hdq17 => rfl
        case hwq17 => rfl
        case hyq17 => (intro w hSw; (try dsimp only at hSw); go_simp)
        case hQq17 => exact fun _ _ _ h => h
        simp only [Act.put, List.setIfInBounds_toArray, List.set_cons_zero, List.set_cons_succ]
        refine takeH (oi := ?oiq18) 17 84 (str K) ?hiq18 ?hdq18 ?hwq18 ?hyq18 (by kernel_rfl) (by kernel_rfl) (by kernel_rfl) ?hQq18 (by assumption) ?_
        case hiq18 => simp only [List.getElem?_toArray, List.getElem?_cons_zero, List.getElem?_cons_succ]; rfl
        case hdq18 => rfl
        case hwq18 => rfl
        case hyq18 => (intro w hSw; (try dsimp only at hSw); go_simp)
        case hQq18 => exact fun _ _ _ h => h
        simp only [Act.put, List.setIfInBounds_toArray, List.set_cons_zero, List.set_cons_succ]
        refine takeH (oi := ?oiq19) 20 87 (.pointer (some ⟨w4.heap.size, 3, none⟩)) ?hiq19 ?hdq19 ?hwq19 ?hyq19 (by kernel_rfl) (by kernel_rfl) (by kernel_rfl) ?hQq19 (by assumption) ?_
        case hiq19 => simp only [List.getElem?_toArray, List.getElem?_cons_zero, List.getElem?_cons_succ]; rfl
        case hdq19 => rfl
        case hwq19 => rfl
        case hyq19 => (intro w hSw; (try dsimp only at hSw); go_simp)
        case hQq19 => exact fun _ _ _ h => h
        simp only [Act.put, List.setIfInBounds_toArray, List.set_cons_zero, List.set_cons_succ]
        refine takeH (oi := ?oiq20) 21 88 (.int .i64 ((j : Int) + 1)) ?hiq20 ?hdq20 ?hwq20 ?hyq20 (by kernel_rfl) (by kernel_rfl) (by kernel_rfl) ?hQq20 (by assumption) ?_
        case hiq20 => simp only [List.getElem?_toArray, List.getElem?_cons_zero, List.getElem?_cons_succ]; rfl
        case hdq20 => rfl
        case hwq20 => rfl
        case hyq20 => (intro w hSw; (try dsimp only at hSw); go_simp)
        case hQq20 => exact fun _ _ _ h => h
        simp only [Act.put, List.setIfInBounds_toArray, List.set_cons_zero, List.set_cons_succ]
        refine takeH (oi := ?oiq21) 22 89 (.int .i64 ((j : Int) + 2)) ?hiq21 ?hdq21 ?hwq21 ?hyq21 (by kernel_rfl) (by kernel_rfl) (by kernel_rfl) ?hQq21 (by assumption) ?_
        case hiq21 => simp only [List.getElem?_toArray, List.getElem?_cons_zero, List.getElem?_cons_succ]; rfl
        case hdq21 => rfl
        case hwq21 => rfl
        case hyq21 => (intro w hSw; (try dsimp only at hSw); go_simp)
        case hQq21 => exact fun _ _ _ h => h
        simp only [Act.put, List.setIfInBounds_toArray, List.set_cons_zero, List.set_cons_succ]
        refine wpAnyH_ready (rs := [18]) (by kernel_rfl) (by simp) ?_
        refine AllReadyH.cons rfl (fun KK hK => ?_) AllReadyH.nil
        go_simp
        refine (ME.out _).mono ?_
        rintro r w5 ⟨rfl, b5⟩
        have D5 : Below WA.heap.size WA w5 := (Below.refl _ _).drew.trans b5
        go_wp2_with (fail)
        refine hK.out _ _ (KS.out _ (D5.block _ vlt.2) (bwA.trans (D5.mono bwA.size))) (fun hHeld => ?_)
        clear hK KK
        refine wpAnyH_ready (rs := [19]) (by kernel_rfl) (by simp) ?_
        refine AllReadyH.cons rfl (fun KK hK => ?_) AllReadyH.nil
        go_simp
        go_wp2_with (fail)
        have D6 : Below WA.heap.size WA (w5.alloc (.cells #[.int .i64 ((j : Int) + 1), .int .i64 0, .int .i64 3, str K, str K] 43)) := D5.trans ((Below.refl _ _).alloc D5.size _)
        refine hK.out _ _ (KS.out _ (D6.block _ vlt.2) (bwA.trans (D6.mono bwA.size))) (fun hHeld => ?_)
        clear hK KK
        refine takeH (oi := ?oiq22) 23 90 (ev (.slice none 0 0) (.slice (some ⟨w5.heap.size, 0, none⟩) 1 1) 1 0 ((j : Int) + 2)) ?hiq22 ?hdq22 ?hwq22 ?hyq22 (by kernel_rfl) (by kernel_rfl) (by kernel_rfl) ?hQq22 (by assumption) ?_
        case hiq22 => simp only [List.getElem?_toArray, List.getElem?_cons_zero, List.getElem?_cons_succ]; rfl
        case hdq22 => rfl
        case hwq22 => rfl
        case hyq22 => (intro w hSw; (try dsimp only at hSw); go_simp)
        case hQq22 => exact fun _ _ _ h => h
        simp only [Act.put, List.setIfInBounds_toArray, List.set_cons_zero, List.set_cons_succ]
        refine wpAnyH_ready (rs := [24]) (by kernel_rfl) (by simp) ?_
        refine AllReadyH.cons rfl (fun KK hK => ?_) AllReadyH.nil
        go_simp
        refine (AD.out _ D5).mono ?_
        rintro r w6 ⟨E, rfl, kx, bw6, bb6, HE⟩
        go_wp2_with (fail)
        refine hK.out _ _ (KS.out _ (kx _ (.inr rfl)) bw6) (fun hHeld => ?_)
        clear hK KK
        rcases HE.out with ⟨rfl, M6⟩ | rfl
        · have HM6 := hide M6
          clear M6 HE AD ME KS P0
          refine takeH (oi := ?ois1) 25 92 (.bool false) ?his1 ?hds1 ?hws1 ?hys1 (by kernel_rfl) (by kernel_rfl) (by kernel_rfl) ?hQs1 (by assumption) ?_
          case his1 => simp only [List.getElem?_toArray, List.getElem?_cons_zero, List.getElem?_cons_succ]; rfl
          case hds1 => rfl
          case hws1 => rfl
          case hys1 => (intro w hSw; (try dsimp only at hSw); go_simp)
          case hQs1 => exact fun _ _ _ h => h
          simp only [Act.put, List.setIfInBounds_toArray, List.set_cons_zero, List.set_cons_succ]
          refine takeH (oi := ?ois2) 26 93 (.bool false) ?his2 ?hds2 ?hws2 ?hys2 (by kernel_rfl) (by kernel_rfl) (by kernel_rfl) ?hQs2 (by assumption) ?_
          case his2 => simp only [List.getElem?_toArray, List.getElem?_cons_zero, List.getElem?_cons_succ]; rfl
          case hds2 => rfl
          case hws2 => rfl
          case hys2 => (intro w hSw; (try dsimp only at hSw); go_simp)
          case hQs2 => exact fun _ _ _ h => h
          simp only [Act.put, List.setIfInBounds_toArray, List.set_cons_zero, List.set_cons_succ]
          refine wpAnyH_done (by kernel_rfl) ?_ _
          clear hHeld
          go_wp2_with (first
            | (go_at_call 8; refine still (FL.out _ _ _ _ _ _ _ _ _ HM6) ?_)
            | (go_at_call 7; refine (RD.out _ _ _ _ _ _ _ _ _ HM6 (by omega)).mono ?_; rintro e w7 ⟨g7, N7, k7, rfl, H7, O7, b7⟩; have s7 := O7.out.lt _ rfl; have F7 := HM6.out.wide (Y := fun i => i = g7) b7 (fun i hi => .inr (by subst hi; exact s7)))
            | (at_builtin; refine mends_append rfl _ _ rfl (fun i => i = g7) w w1.heap.size l w7 c b (j + 1) (j + 1) ge ce N7 H7 (by omega) F7 rfl rfl ?_; intro g8 c8 w8 F8 K8))
          have lowb : w1.heap.size ≤ w6.heap.size ∧ ge < w6.heap.size := by
            obtain ⟨P, m1, _⟩ := HM6.out.mf
            exact ⟨m1.fs.low, (HM6.out.ends.lt ge rfl).2⟩
          exact ⟨⟨j + 1, g8, c8, g7, N7, k7, by omega, by go_num, rfl, rfl, F8, ⟨H7.out, bytes_keep O7.out lowb.1 K8 lowb.2⟩⟩, by simp [intOf]; omega⟩
        · clear HE AD ME KS P0 FL RD
          refine takeH (oi := ?oit1) 25 92 (.bool true) ?hit1 ?hdt1 ?hwt1 ?hyt1 (by kernel_rfl) (by kernel_rfl) (by kernel_rfl) ?hQt1 (by assumption) ?_
          case hit1 => simp only [List.getElem?_toArray, List.getElem?_cons_zero, List.getElem?_cons_succ]; rfl
          case hdt1 => rfl
          case hwt1 => rfl
          case hyt1 => (intro w hSw; (try dsimp only at hSw); go_simp)
          case hQt1 => exact fun _ _ _ h => h
          simp only [Act.put, List.setIfInBounds_toArray, List.set_cons_zero, List.set_cons_succ]
          refine takeH (oi := ?oit2) 26 93 (.bool true) ?hit2 ?hdt2 ?hwt2 ?hyt2 (by kernel_rfl) (by kernel_rfl) (by kernel_rfl) ?hQt2 (by assumption) ?_
          case hit2 => simp only [List.getElem?_toArray, List.getElem?_cons_zero, List.getElem?_cons_succ]; rfl
          case hdt2 => rfl
          case hwt2 => rfl
          case hyt2 => (intro w hSw; (try dsimp only at hSw); go_simp)
          case hQt2 => exact fun _ _ _ h => h
          simp only [Act.put, List.setIfInBounds_toArray, List.set_cons_zero, List.set_cons_succ]
          refine wpAnyH_done (by kernel_rfl) ?_ _
          go_wp2_with (fail)
          go_ret
          exact ⟨rfl, bw6⟩
    · obtain rfl : j = n := by omega
      have fb := hide HM.out.below
      have PK : Hid (∀ wx, Calls Tryz.prog 12 #[.int .i64 wh, .int .i64 ((j : Int) + 1)] wx fun e w' => ∃ k : Nat, k < j + 1 ∧ e = .returned (.int .i64 (k : Int)) ∧ w' = wx) := fun wx => by
        have := pick_any wx wh (j + 1) (by omega) (by omega) hw1 hw2
        rw [show (((j + 1 : Nat)) : Int) = (j : Int) + 1 by omega] at this
        exact this
      have wk : IntKind.i64.wrap ((j : Int) + 1 + 1 - 1) = (j : Int) + 1 := by rw [IntKind.wrap_i64]; omega
      have TW0 := (HM.out.two hn2).swap
      have CU := hide (fun wx (h : Hid (M1 (fun i => i = g6) w w1.heap.size l wx c b j (j + 1) ge ce)) => h.out.curC hn2)
      clear HLEN ARG RD HO
      go_wp2_with (first
        | (go_at_call 8; refine still (FL.out _ _ _ _ _ _ _ _ _ HM) ?_; clear FL)
        | (go_at_call 12; refine (PK.out _).mono ?_; rintro e wp ⟨k, hk, rfl, rfl⟩; clear PK)
        | (go_at_call 7; refine (CU.out _ HM).mono ?_; rintro e w9 ⟨g9, k9, rfl, O9, b9⟩; clear CU))
      obtain ⟨w5, hw5⟩ : ∃ w5, w5 = w9.alloc (.cells #[.int .i64 0, .int .i64 27] 3) := ⟨_, rfl⟩
      have b5 : Below w9.heap.size w9 w5 := by rw [hw5]; exact (Below.refl _ _).alloc (Nat.le_refl _) _
      have p5 : w5.heap[w9.heap.size]? = some (.cells #[.int .i64 0, .int .i64 27] 3) := by rw [hw5]; exact World.alloc_heap_new w9 _
      rw [← hw5]
      have O4 := hide (own_aft O9.out b5)
      have bp5 := b9.trans (b5.mono b9.size)
      have KE : Hid (∃ P, FsK P w1.heap.size w5 b (Ma.st l j) ∧ P w9.heap.size ∧ P g9) := by
        obtain ⟨P, m1, p1, p2⟩ := HM.out.mf
        have z1 := O9.out.lt g9 rfl
        have z2 := (Array.getElem?_eq_some_iff.1 p5).1
        exact ⟨_, m1.fs.add bp5, .inr ⟨b9.size, z2⟩, .inr ⟨z1.1, Nat.lt_of_lt_of_le z1.2 b5.size⟩⟩
      have fb5 := hide (fb.out.trans (bp5.mono fb.out.size))
      clear fb
      have fb := fb5
      clear fb5
      have hcap : 27 ≤ k9 := (own_cap O4.out).1
      obtain ⟨S, hS⟩ : ∃ S, S = frm (Mf.nm 1) := ⟨_, rfl⟩
      have fkS : 27 = S.length := by rw [hS, frm_length, Mf.nm_length]
      have bits6 : ∀ p : Nat, burB S p bits = true → rdE (Crc.burst S p bits 32) = 6 := fun p hB => by
        rw [hS]
        exact Ma.named p bits hb' HB0.out (by rw [← hS]; exact (burB_iff S p bits).mp hB)
      rw [← hS] at O4 TW0
      have TW : Hid (Vk.Two 1048576 (Ma.st l j) Mf.cur (([] : Mf.Bs) ++ (S ++ [])) (Mf.nm 1) (Ma.dt l (j + 1)) (100 + 2000 * j)) := by
        show Vk.Two _ _ _ _ _ _ _
        rw [List.append_nil, List.nil_append]
        exact TW0
      clear TW0
      have SB : Hid (∀ wx c', Below w5.heap.size w5 wx → BytesIn wx (.slice (some ⟨g9, 0, none⟩) 27 c') S) := fun wx c' hx => by
        have ho := own_aft O4.out hx
        refine ⟨⟨_, c', by rw [fkS], fun _ => ⟨g9, 0, rfl, fun i hi => ?_⟩⟩, by omega⟩
        rw [Nat.zero_add, ho.cellAt i (by omega)]
        unfold bc
        rw [List.getElem?_map, List.getElem?_eq_getElem hi]
        rfl
      have P1 : w5.drew.cell? ⟨w9.heap.size, 0, none⟩ = some (.int .i64 0) ∧ w5.drew.cell? ⟨w9.heap.size, 1, none⟩ = some (.int .i64 27) := ⟨Joins.cell_of_block p5 0, Joins.cell_of_block p5 1⟩
      have CE : Hid (∀ wx, Below w5.heap.size w5 wx → wx.cell? ⟨w9.heap.size, 0, none⟩ = some (.int .i64 0) ∧ wx.cell? ⟨w9.heap.size, 1, none⟩ = some (.int .i64 27)) := fun wx hx => ⟨keepC hx P1.1, keepC hx P1.2⟩
      have w11 : IntKind.i64.wrap 1 = 1 := by decide
      have r10 : (27 : Int) ≤ (k9 : Int) := by omega
      have r12 : ¬ k9 = 0 := by omega
      have HLS := hide fkS.symm
      have GE9 : w9.heap.size < w5.heap.size := (Array.getElem?_eq_some_iff.1 p5).1
      clear hw5 p5 b9 b5 bp5 O9
      cases hB : burB S at' bits with
      | false =>
        have BU : Hid (∀ wx c', Below w5.heap.size w5 wx → Calls Tryz.prog 13 #[.slice (some ⟨g9, 0, none⟩) 27 c', .int .i64 at', .int .u32 (bits : Int)] wx fun e w' => ∃ v, e = .returned (.tuple #[v, .int .i64 2]) ∧ Below wx.heap.size wx w') := fun wx c' hx => by
          have hb := SB.out wx c' hx
          have this := burst_any wx (some ⟨g9, 0, none⟩) c' S at' bits (by rw [← fkS]; exact hb) ha hb'
          rw [← fkS] at this
          refine this.mono ?_
          rintro e w' ⟨v, rfl, hx⟩
          have e1 : burE S at' bits = 2 := by unfold burE; rw [hB]; rfl
          rw [e1]
          exact ⟨v, rfl, hx.below (Nat.le_refl _) (by simp [Value.ownBlock])⟩
        clear SB hS fkS hB bits6 TW KE HM
        go_region_held3 (fun w' => w'.cell? ⟨w9.heap.size, 0, none⟩ = some (.int .i64 0) ∧ w'.cell? ⟨w9.heap.size, 1, none⟩ = some (.int .i64 27))
          (first | exact P1 | exact P2)
          (first | (go_at_call 13; go_loud (refine (BU.out _ _ (Below.refl _ _).drew).mono ?_; rintro e w6 ⟨v6, rfl, b6⟩; have D6 := hide ((Below.refl _ w5).drew.trans (b6.mono (Nat.le_refl _))); have P2 := CE.out _ D6.out)))
        go_wp2_with (fail)
        go_ret
        exact ⟨rfl, fb.out.trans (D6.out.mono fb.out.size)⟩
      | true =>
        have h0 : 0 ≤ at' := by
          rcases Int.lt_or_le at' 0 with h | h
          · rw [burB_neg h] at hB; cases hB
          · exact h
        obtain ⟨p, rfl⟩ : ∃ p : Nat, at' = p := ⟨at'.toNat, by omega⟩
        obtain ⟨X, hX⟩ : ∃ X, X = Crc.burst S p bits 32 := ⟨_, rfl⟩
        have lX : X.length = 27 := by rw [hX, Crc.burst_length]; exact fkS.symm
        have e1' : burE S p bits = 0 := by unfold burE; rw [hB]; rfl
        have e2 : burL S p bits = X := by unfold burL; rw [hX, hB, Int.toNat_natCast]; rfl
        have BU : Hid (∀ wx c', Below w5.heap.size w5 wx → Calls Tryz.prog 13 #[.slice (some ⟨g9, 0, none⟩) 27 c', .int .i64 (p : Int), .int .u32 (bits : Int)] wx fun e w' => ∃ g c, e = .returned (.tuple #[.slice (some ⟨g, 0, none⟩) 27 c, .int .i64 0]) ∧ Hid (w'.ownsRow wx.heap.size 5 1 (.slice (some ⟨g, 0, none⟩) 27 c) 27 (bc X)) ∧ Below wx.heap.size wx w') := fun wx c' hx => by
          have hb := SB.out wx c' hx
          have this := burst_any wx (some ⟨g9, 0, none⟩) c' S p bits (by rw [← fkS]; exact hb) ha hb'
          rw [← fkS] at this
          refine this.mono ?_
          rintro e w' ⟨v, rfl, hx⟩
          rw [e1']
          rw [e2] at hx
          obtain ⟨g', c', rfl⟩ := hx.some (by intro e; rw [e] at lX; simp at lX; try omega)
          have ho := hx.own
          rw [lX] at ho ⊢
          exact ⟨g', c', rfl, hide ho, hx.below (Nat.le_refl _) (by simp [Value.ownBlock])⟩
        have h6 := bits6 p hB
        rw [← hX] at h6
        have H6 := hide h6
        have HLX := hide lX
        clear SB hS fkS hB bits6 HM h6 hX lX e1' e2 h0
        go_region_held3 (fun w' => w'.cell? ⟨w9.heap.size, 0, none⟩ = some (.int .i64 0) ∧ w'.cell? ⟨w9.heap.size, 1, none⟩ = some (.int .i64 27))
          (first | exact P1 | exact P2)
          (first | (go_at_call 13; refine (BU.out _ _ (Below.refl _ _).drew).mono ?_; rintro e w6 ⟨gx, cx, rfl, O6, b6⟩; have D6 := hide ((Below.refl _ w5).drew.trans (b6.mono (Nat.le_refl _))); have P2 := CE.out _ D6.out))
        go_wp2_with (fail)
        have z6 := O6.out.lt gx rfl
        have z6' : w5.heap.size ≤ gx := z6.1
        obtain ⟨P5, k5, pe, pb⟩ := KE.out
        obtain ⟨P, hP⟩ : ∃ P : Nat → Prop, P = fun i => P5 i ∨ (w5.heap.size ≤ i ∧ i < w6.heap.size) := ⟨_, rfl⟩
        have p1 : P w9.heap.size := by rw [hP]; exact .inl pe
        have p2 : P g9 := by rw [hP]; exact .inl pb
        have p3 : P gx := by rw [hP]; exact .inr ⟨z6', z6.2⟩
        have K6 : FsK P w1.heap.size w6 b (Ma.st l j) := by rw [hP]; exact k5.add D6.out
        have F2 : M2 P w1.heap.size w w6 w6 b (100 + 2000 * j) Mf.cur (Mf.nm 1) (Ma.dt l (j + 1)) ([] : Mf.Bs) X S ([] : Mf.Bs) 0 := ⟨⟨_, K6, TW.out⟩, fb.out.trans (D6.out.mono fb.out.size), fun _ _ => rfl⟩
        have XC : Hid (∀ wx : World, (∀ r, P r → wx.heap[r]? = w6.heap[r]?) → ∀ i (h1 : i < X.length) (h2 : i < S.length), wx.cell? ⟨gx, i, none⟩ = some (.int .u8 (X[i].toNat : Int)) ∧ wx.cell? ⟨g9, i, none⟩ = some (.int .u8 (S[i].toNat : Int)) ∧ wx.cell? ⟨w9.heap.size, 0, none⟩ = some (.int .i64 0)) := fun wx hs i h1 h2 => by
          have ls := HLS.out
          have lx := HLX.out
          refine ⟨(cell_blk (hs gx p3)).trans (bc_cell O6.out i h1 (by omega)), (cell_blk (hs g9 p2)).trans ?_, (cell_blk (hs w9.heap.size p1)).trans P2.1⟩
          have o4 := own_aft O4.out D6.out
          exact bc_cell o4 i h2 (by omega)
        clear K6 hP z6 z6' P1 P2 CE BU O6 KE k5 pe pb TW
        go_loopw [23] (fun v wr2 => ∃ i : Nat, i ≤ 27 ∧ v = .int .i64 i ∧ M2 P w1.heap.size w w6 wr2 b (100 + 2000 * j) Mf.cur (Mf.nm 1) (Ma.dt l (j + 1)) ([] : Mf.Bs) X S ([] : Mf.Bs) i) (fun v _ => 27 - (intOf v).toNat)
        case atStart => exact ⟨0, Nat.zero_le _, rfl, F2⟩
        case round =>
          obtain ⟨i, hi, rfl, F⟩ := hrel
          clear F2
          have fb2 := hide F.below
          by_cases hlt : i < 27
          · have iS : i < S.length := by rw [HLS.out]; exact hlt
            have iX : i < X.length := by rw [HLX.out]; exact hlt
            obtain ⟨cx', cb, cc⟩ := XC.out _ F.same i iX iS
            have XB := alt_xor X[i] S[i]
            have u1 : (0 : Int) ≤ (i : Int) := by omega
            have u2 : (i : Int) < (27 : Int) := by omega
            have u3 : IntKind.i64.wrap (i : Int) = (i : Int) := by rw [IntKind.wrap_i64]; omega
            have AL : Hid (∀ wx, Below wr.heap.size wr wx → Calls Tryz.prog 14 #[.pointer (some ⟨b, 0, none⟩), curS, .int .i64 (i : Int), .int .u8 ((X[i] ^^^ S[i]).toNat : Int)] wx fun e w' => e = .returned (.int .i64 0) ∧ M2 P w1.heap.size w w6 w' b (100 + 2000 * j) Mf.cur (Mf.nm 1) (Ma.dt l (j + 1)) ([] : Mf.Bs) X S ([] : Mf.Bs) (i + 1)) := fun wx hx => by
              have := (F.later hx).alter (by rw [HLX.out, HLS.out]) iS (by omega) hbase (by decide)
              rw [cur_str, show ((([] : Mf.Bs).length : Int) + (i : Int)) = (i : Int) by simp] at this
              exact this
            have SK : Hid (X[i] = S[i] → ∀ wx, Below wr.heap.size wr wx → M2 P w1.heap.size w w6 wx b (100 + 2000 * j) Mf.cur (Mf.nm 1) (Ma.dt l (j + 1)) ([] : Mf.Bs) X S ([] : Mf.Bs) (i + 1)) := fun he wx hx => F.skip (by rw [HLX.out, HLS.out]) iS he hx
            by_cases he : X[i] = S[i]
            · have SK' := hide (SK.out he)
              have hz : (X[i] ^^^ S[i]).toNat = 0 := by rw [he, UInt8.xor_self]; rfl
              rw [hz] at XB
              generalize X[i].toNat = xn at cx' XB
              generalize S[i].toNat = sn at cb XB
              clear AL SK he hz XC F iS iX
              go_wp2_with (fail)
              go_quiet (fail)
              go_wp2_with (fail)
              go_roundw
              case rel => exact ⟨i + 1, by omega, by go_num, SK'.out _ (below_drewN (Below.refl _ _) _)⟩
              case measure => simp [intOf]; omega
            · have hz : (X[i] ^^^ S[i]).toNat ≠ 0 := fun h => he (by
                have h0 : X[i] ^^^ S[i] = 0 := UInt8.toNat_inj.mp h
                have := Ma.xor_back X[i] S[i]
                rw [h0, UInt8.xor_zero] at this
                exact this.symm)
              generalize (X[i] ^^^ S[i]).toNat = zn at AL XB hz
              generalize X[i].toNat = xn at cx' XB
              generalize S[i].toNat = sn at cb XB
              have iz : ((zn : Int) != 0) = true := by simp; omega
              clear SK he hz XC F iS iX
              go_wp2_with (fail)
              go_quiet (fail)
              go_wp2_with (first
                | (go_at_call 14; refine (AL.out _ (below_drewN (Below.refl _ _) _)).mono ?_; rintro e w8 ⟨rfl, F8⟩; clear AL))
              go_roundw
              case rel => exact ⟨i + 1, by omega, by go_num, F8⟩
              case measure => simp [intOf]; omega
          · have i27 : i = 27 := by omega
            subst i27
            have TK : Hid (Calls Tryz.prog 6 #[.pointer (some ⟨b, 0, none⟩)] wr fun e w' => e = .returned (.tuple #[.pointer none, .int .i64 6]) ∧ Below wr.heap.size wr w') := by
              obtain ⟨σ, h1, h2⟩ := F.log
              have e : ([] : Mf.Bs) ++ (X.take 27 ++ (S.drop 27 ++ [])) = X := by
                rw [List.take_of_length_le (by rw [HLX.out]; exact Nat.le_refl _), List.drop_of_length_le (by rw [HLS.out]; exact Nat.le_refl _), List.nil_append, List.append_nil, List.append_nil]
              rw [e] at h2
              have hst := h2.steps
              exact open_named wr b σ h1 (by omega) (HEV.out.later F.below HEV.out.lt) X h2.fd h2.read (by have := HLX.out; omega) H6.out
            clear XC F
            go_wp2_with (first
              | (go_at_call 6; refine TK.out.mono ?_; rintro e w9 ⟨rfl, b9⟩; clear TK))
            go_ret
            exact ⟨rfl, fb2.out.trans (b9.mono fb2.out.size)⟩
end Go.Proofs.YtlhnjloimhcpfabGreatDoor.manifestAltered
