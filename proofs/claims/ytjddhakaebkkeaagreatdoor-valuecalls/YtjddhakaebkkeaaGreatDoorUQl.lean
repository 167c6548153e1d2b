/-
  The document's own Do: comparisons.
-/
import Derived.Test.YtjddhakaebkkeaaGreatDoorUQh
namespace Go.Proofs.YtjddhakaebkkeaaGreatDoor
open Go.RowKit
attribute [local go_sem ↓] Go.wp_at_zero Go.wp_at_succ

theorem rtruth_below (w : World) (b : Bool) : Calls Tryz.prog 29 #[.bool b] w fun e w' => e = .returned (.agg #[.int .u8 1, .int .i64 (if b then 1 else 0), .string ⟨#[]⟩]) ∧ Below w.heap.size w w' :=
  (rtruth_any w b).mono (by rintro e w' ⟨rfl, rfl⟩; exact ⟨rfl, (Below.refl _ _).alloc (Nat.le_refl _) _⟩)
theorem sub_at {w : World} {b off cap : Nat} {v : Val} (hv : v.wf) (c0 : w.cell? ⟨b, off, none⟩ = some (.int .u8 v.k)) (c1 : w.cell? ⟨b, off + 1, none⟩ = some (.int .i64 v.n)) (c2 : w.cell? ⟨b, off + 2, none⟩ = some (.string v.t)) : ValsIn w (.slice (some ⟨b, off, none⟩) 1 cap) [v] := by
  refine ⟨⟨_, cap, rfl, fun _ => ⟨b, off, rfl, ?_⟩⟩, by simpa using hv, by simp⟩
  intro j hj
  have e : j = 0 := by simp at hj; omega
  subst e
  exact ⟨by simpa using c0, by simpa using c1, by simpa using c2⟩

set_option maxRecDepth 8000 in
set_option maxHeartbeats 3200000 in
theorem rdo_cmp (w : World) (op : Int) (v : Value) (l : List Val) (h : ValsIn w v l) (hr : refE op l = 0) (ho : 9 ≤ op ∧ op ≤ 14) (x y : Val) (hx : l = [x, y]) (hn : l.any isN = false) (hcap : ∀ a n c, v = .slice a n c → n ≤ c) :
    Calls Tryz.prog 7 #[.int .u8 op, v] w fun e w' => e = .returned (tupR (doR op l)) ∧ Below w.heap.size w w' := by
  have HX := hide hx
  have HO := hide ho
  have HC := hide hcap
  clear hx ho hcap
  obtain ⟨⟨a, cap, rfl, hf⟩, hwf, _⟩ := h
  have HL : Hid (l ≠ [] → ∃ b off, a = some ⟨b, off, none⟩ ∧ ValsAt w b off l) := hf
  have HW : Hid (∀ v ∈ l, v.wf) := hwf
  clear hf hwf
  obtain ⟨hj, hm, hg⟩ := ref_just hr
  have hl2 : l.length ≤ 2 := by have := just_len hj; omega
  obtain ⟨T, hT⟩ : ∃ T, T = takes op := ⟨_, rfl⟩
  have TK : Hid (∀ wx, Calls Tryz.prog 11 #[.int .u8 op] wx fun e w' => e = .returned (.int .i64 T) ∧ w' = wx) := fun wx => by rw [hT]; exact rtakes_any wx op
  have b0 : (T == 0) = false := by have := just_takes hj; simp; omega
  have b1 : (T != (l.length : Int)) = false := by have := just_takes hj; simp; omega
  have HM : Hid (∀ x ∈ l, x.may = true) := List.all_eq_true.mp hm
  have GV : Hid (∀ wx kv, KindsIn wx kv (l.map Val.k) → Calls Tryz.prog 9 #[.int .u8 op, kv] wx fun e w' => (∃ K, e = .returned (.tuple #[.int .u8 K, .int .i64 0])) ∧ Below wx.heap.size wx w') := fun wx kv hk => (rgives_any wx op kv _ hk).mono (by rintro e w' ⟨rfl, hb⟩; exact ⟨⟨_, by rw [hg]⟩, hb⟩)
  have HG : Hid (givesE op (l.map Val.k) = 0) := hg
  have HD := hide (do_of hr)
  clear hT hj hm hg hr
  obtain ⟨i0, hi, hz0, hz1, hz2⟩ := info_parts kindInfo
  go_enter Tryz.func7, Tryz.ntmps7
  go_wp2_with (go_at_call 11; refine still (TK.out _) ?_)
  go_loopw [6, 7, 8] (fun kv nv i wr => ∃ j : Nat, j ≤ l.length ∧ i = .int .i64 j ∧ KindsOwn (w.heap.size + 1) (w.alloc (.cells #[.int .u8 0, .int .i64 0, .string ⟨#[]⟩] 29)) wr kv ((l.map Val.k).take j) ∧ nv = .bool ((l.take j).any isN)) (fun _ _ i _ => l.length - (intOf i).toNat)
  case atStart => exact ⟨0, Nat.zero_le _, rfl, ⟨World.ownsRow_nil _ _ _ _, Below.refl _ _⟩, by simp⟩
  case round =>
    obtain ⟨j, hj, rfl, hko, rfl⟩ := hrel
    have HKO := hide hko
    have hres := hko.bel
    have hs := hres.size
    have hs' : w.heap.size + 1 ≤ wr.heap.size := by simpa using hs
    have hbel := (res_slot hres).2
    by_cases hlt : j < l.length
    · obtain ⟨b, off, rfl, hv⟩ := HL.out (by intro e; rw [e] at hlt; simp at hlt)
      obtain ⟨c0, c1, c2⟩ := (hv.later hbel) j hlt
      have hvb : b < w.heap.size := World.block_lt_of_cell? w _ (hv j hlt).1
      have cz0 : (w.alloc (.cells #[.int .u8 0, .int .i64 0, .string ⟨#[]⟩] 29)).cell? ⟨b, off + j * 3, none⟩ = some (.int .u8 (l[j]).k) := (((Below.refl w.heap.size w).alloc (Nat.le_refl _) _).cell (p := ⟨b, off + j * 3, none⟩) hvb).trans (hv j hlt).1
      have hw1 := (HW.out _ (List.getElem_mem hlt)).t1
      have HT := hide (take_kinds l j hlt)
      have HN := hide (any_next isN l j hlt)
      have hmay0 := HM.out _ (List.getElem_mem hlt)
      obtain ⟨x, hx⟩ : ∃ x, x = l[j] := ⟨_, rfl⟩
      rw [← hx] at c0 c1 c2 cz0 hw1 HT HN hmay0
      clear hx hv
      obtain ⟨xk, xn, xt⟩ := x
      have hkl : ((l.map Val.k).take j).length = j := by rw [List.length_take, List.length_map]; omega
      have own := hko.own
      rw [hkl] at own
      obtain ⟨N, hN⟩ : ∃ N, N = (l.take j).any isN := ⟨_, rfl⟩
      rw [← hN] at HN ⊢
      clear hN
      have hmay : mayV xk xn xt = true := hmay0
      clear hmay0
      have hchk : chk xk xn xt = 0 := by unfold chk; rw [hmay]; rfl
      have own3 := (own.alloc (.cells #[.int .u8 xk, .int .i64 xn, .string xt] 29)).alloc (.cells #[.int .u8 xk] 27)
      have b3 := (hres.alloc hs' (.cells #[.int .u8 xk, .int .i64 xn, .string xt] 29)).alloc (by simp; omega) (.cells #[.int .u8 xk] 27)
      have news0 := World.news_of_block (cs := #[.int .u8 xk]) (heap_alloc_new (wr.alloc (.cells #[.int .u8 xk, .int .i64 xn, .string xt] 29)) (.cells #[.int .u8 xk] 27))
      have news : ∀ i u, (kc [xk])[i]? = some u → ((wr.alloc (.cells #[.int .u8 xk, .int .i64 xn, .string xt] 29)).alloc (.cells #[.int .u8 xk] 27)).cell? ((⟨wr.heap.size + 1, 0, none⟩ : Addr).add i) = some u := by simpa [kc] using news0
      have m1 : j + 1 ≤ maxLen := by unfold maxLen; omega
      have m2 : (j + 1) * 1 ≤ 140737488355328 := by omega
      have CZ := hide cz0
      have hvb1 : b < w.heap.size + 1 := by omega
      have lbr : b < wr.heap.size := by omega
      have lb2 : w.heap.size + 1 ≤ ((wr.alloc (.cells #[.int .u8 xk, .int .i64 xn, .string xt] 29)).alloc (.cells #[.int .u8 xk] 27)).heap.size := by simp; omega
      have OWN := hide own3
      have BEL := hide b3
      have NEWS := hide news
      clear own own3 b3 news news0 hko hmay cz0
      cases N <;> cases hz : (xk == 0)
      all_goals
        go_wp2_with (first
          | (go_at_call 28; refine (refCheck_any _ _ _ _ hw1).mono ?_; rintro e w' ⟨rfl, rfl⟩)
          | (at_builtin; refine wpList_append_own _ rfl (.tmp 38) (.tmp 44) 24 rfl (w.heap.size + 1) 27 i0 (.int .u8 0) 1 1 Tryz.underlying24 hi hz0 hz1 hz2 rfl (by decide) _ j (kc ((l.map Val.k).take j)) rfl OWN.out ⟨wr.heap.size + 1, 0, none⟩ 1 1 (kc [xk]) rfl rfl NEWS.out (kc_one _) m1 m2 lb2 ?_; intro v' w' o1 g1 _; have KO : KindsOwn (w.heap.size + 1) (w.alloc (.cells #[.int .u8 0, .int .i64 0, .string ⟨#[]⟩] 29)) w' v' ((l.map Val.k).take j ++ [xk]) := (by refine KindsOwn.push ⟨?_, BEL.out⟩ hkl.symm lb2 o1 g1; rw [hkl]; exact OWN.out); rw [← HT.out] at KO; have cz := (KO.bel.cell (p := ⟨b, off + j * 3, none⟩) hvb1).trans CZ.out))
        clear o1 g1
        go_roundw
        case rel => exact ⟨j + 1, by omega, by go_num, KO, by rw [HN.out]; simp [isN, hz]⟩
        case measure => simp [intOf]; omega
    · have hfull : (l.map Val.k).take j = l.map Val.k := List.take_of_length_le (by rw [List.length_map]; omega)
      have hna : (l.take j).any isN = l.any isN := by rw [List.take_of_length_le (by omega)]
      rw [hna]
      rw [hfull] at hko
      have KI := hide (kinds_of_own hko.own (by rw [List.length_map]; omega))
      clear hfull hna hko HKO b0 b1 TK
      have hl := HX.out
      subst hl
      have hlt2 : ¬ ((j : Int) < 2) := by simp at hlt; omega
      clear hlt
      obtain ⟨b, off, rfl, hv⟩ := HL.out (by simp)
      obtain ⟨c0, c1, c2⟩ := hv 0 (by simp)
      simp only [Nat.zero_mul, Nat.add_zero, List.getElem_cons_zero] at c0 c1 c2
      obtain ⟨c3, c4, c5⟩ := hv 1 (by simp)
      simp only [Nat.one_mul, List.getElem_cons_succ, List.getElem_cons_zero] at c3 c4 c5
      have lb := World.block_lt_of_cell? w _ c0
      clear hv HL
      have g := HO.out
      have x15 : (op == 15) = false := by simp; omega
      have x16 : (op == 16) = false := by simp; omega
      have x17 : (op == 17) = false := by simp; omega
      have x18 : (op == 18) = false := by simp; omega
      have x19 : (op == 19) = false := by simp; omega
      have x20 : (op == 20) = false := by simp; omega
      have x8 : (op == 8) = false := by simp; omega
      have g1 := g.1
      have g2 := g.2
      have hc : 2 ≤ cap := HC.out _ _ _ rfl
      have hc1 : (1 : Int) ≤ (cap : Int) := by omega
      have hc2 : (2 : Int) ≤ (cap : Int) := by omega
      have hcn : ¬ cap = 1 := by omega
      have wx := HW.out x (by simp)
      have wy := HW.out y (by simp)
      obtain ⟨c, hcv⟩ : ∃ c, c = cmpV x y := ⟨_, rfl⟩
      obtain ⟨d, hd⟩ : ∃ d, d = holdsB op c := ⟨_, rfl⟩
      have G0 : doR op [x, y] = (tv d, 0) := HD.out.trans (by
        rw [makes_cmp g, if_neg (by rw [hn]; simp), hd, hcv])
      have CT : Hid (∀ (W : World) (k1 k2 : Nat), (W.cell? ⟨b, off, none⟩ = some (.int .u8 x.k) ∧ W.cell? ⟨b, off + 1, none⟩ = some (.int .i64 x.n) ∧ W.cell? ⟨b, off + 2, none⟩ = some (.string x.t)) ∧ W.cell? ⟨b, off + 3, none⟩ = some (.int .u8 y.k) ∧ W.cell? ⟨b, off + 3 + 1, none⟩ = some (.int .i64 y.n) ∧ W.cell? ⟨b, off + 3 + 2, none⟩ = some (.string y.t) → Calls Tryz.prog 34 #[.slice (some ⟨b, off, none⟩) 1 k1, .slice (some ⟨b, off + 3, none⟩) 1 k2] W fun e w' => e = .returned (.int .i64 c) ∧ Below W.heap.size W w') := fun W k1 k2 hs => by rw [hcv, ← cmpL_one]; exact refCompare_any W _ _ _ _ (sub_at wx hs.1.1 hs.1.2.1 hs.1.2.2) (sub_at wy hs.2.1 hs.2.2.1 hs.2.2.2)
      have RC : Hid (∀ W : World, Calls Tryz.prog 33 #[.int .u8 op, .int .i64 c] W fun e w' => e = .returned (.bool d) ∧ Below W.heap.size W w') := fun W => by rw [hd]; exact (rcompared_any W op c g).mono (by rintro e w' ⟨rfl, rfl⟩; exact ⟨rfl, Below.refl _ _⟩)
      have G := hide G0
      rw [hn]
      clear hn g G0 hd hcv wx wy HD HM HW HG hc
      obtain ⟨xk, xn, xt⟩ := x
      obtain ⟨yk, yn, yt⟩ := y
      have SX : Hid (∀ W W' : World, (W.cell? ⟨b, off, none⟩ = some (.int .u8 xk) ∧ W.cell? ⟨b, off + 1, none⟩ = some (.int .i64 xn) ∧ W.cell? ⟨b, off + 2, none⟩ = some (.string xt)) ∧ W.cell? ⟨b, off + 3, none⟩ = some (.int .u8 yk) ∧ W.cell? ⟨b, off + 3 + 1, none⟩ = some (.int .i64 yn) ∧ W.cell? ⟨b, off + 3 + 2, none⟩ = some (.string yt) → Below W.heap.size W W' → (W'.cell? ⟨b, off, none⟩ = some (.int .u8 xk) ∧ W'.cell? ⟨b, off + 1, none⟩ = some (.int .i64 xn) ∧ W'.cell? ⟨b, off + 2, none⟩ = some (.string xt)) ∧ W'.cell? ⟨b, off + 3, none⟩ = some (.int .u8 yk) ∧ W'.cell? ⟨b, off + 3 + 1, none⟩ = some (.int .i64 yn) ∧ W'.cell? ⟨b, off + 3 + 2, none⟩ = some (.string yt)) := fun W W' h hb => ⟨⟨(hb.cell (World.block_lt_of_cell? W _ h.1.1)).trans h.1.1, (hb.cell (World.block_lt_of_cell? W _ h.1.2.1)).trans h.1.2.1, (hb.cell (World.block_lt_of_cell? W _ h.1.2.2)).trans h.1.2.2⟩, (hb.cell (World.block_lt_of_cell? W _ h.2.1)).trans h.2.1, (hb.cell (World.block_lt_of_cell? W _ h.2.2.1)).trans h.2.2.1, (hb.cell (World.block_lt_of_cell? W _ h.2.2.2)).trans h.2.2.2⟩
      cases d
      · go_wp2_with (first | (go_at_call 9; refine (GV.out _ _ KI.out).mono ?_; rintro e w2 ⟨⟨K, rfl⟩, hb2⟩; have HB2 := hres.trans (hb2.mono hs'); obtain ⟨⟨q0, q1, q2, r0, r1, r2, r3⟩, B2⟩ := res_slot HB2; have C := fun (p q r : Value) => below_cells (p := p) (q := q) (r := r) B2 (Nat.le_refl _); have d0 := (B2.cell (p := ⟨b, off, none⟩) lb).trans c0; have d1 := (B2.cell (p := ⟨b, off + 1, none⟩) lb).trans c1; have d2 := (B2.cell (p := ⟨b, off + 2, none⟩) lb).trans c2; have d3 := (B2.cell (p := ⟨b, off + 3, none⟩) lb).trans c3; have d4 := (B2.cell (p := ⟨b, off + 3 + 1, none⟩) lb).trans c4; have d5 := (B2.cell (p := ⟨b, off + 3 + 2, none⟩) lb).trans c5; have S0 := (⟨⟨d0, d1, d2⟩, d3, d4, d5⟩ : (w2.cell? ⟨b, off, none⟩ = some (.int .u8 xk) ∧ w2.cell? ⟨b, off + 1, none⟩ = some (.int .i64 xn) ∧ w2.cell? ⟨b, off + 2, none⟩ = some (.string xt)) ∧ w2.cell? ⟨b, off + 3, none⟩ = some (.int .u8 yk) ∧ w2.cell? ⟨b, off + 3 + 1, none⟩ = some (.int .i64 yn) ∧ w2.cell? ⟨b, off + 3 + 2, none⟩ = some (.string yt))))
        clear c0 c1 c2 c3 c4 c5 d0 d1 d2 d3 d4 d5
        have SD := SX.out _ _ S0 (Below.refl _ w2).drew
        refine wp_region_held_drew (S := fun _ => True) (by kernel_rfl) trivial (fun hHeld => ?_)
        refine takeH (oi := ?oic01) 0 154 (.int .u8 op) ?hic01 ?hdc01 ?hwc01 ?hyc01 (by kernel_rfl) (by kernel_rfl) (by kernel_rfl) ?hQc01 (by assumption) ?_
        case hic01 => simp only [List.getElem?_toArray, List.getElem?_cons_zero]; rfl
        case hdc01 => rfl
        case hwc01 => rfl
        case hyc01 => (intro w hSw; (try dsimp only at hSw); go_simp)
        case hQc01 => exact fun _ _ _ h => h
        simp only [Act.put, List.setIfInBounds_toArray, List.set_cons_zero, List.set_cons_succ]
        refine takeH (oi := ?oic02) 1 155 (.slice (some ⟨b, off, none⟩) 2 cap) ?hic02 ?hdc02 ?hwc02 ?hyc02 (by kernel_rfl) (by kernel_rfl) (by kernel_rfl) ?hQc02 (by assumption) ?_
        case hic02 => simp only [List.getElem?_toArray, List.getElem?_cons_zero, List.getElem?_cons_succ]; rfl
        case hdc02 => rfl
        case hwc02 => rfl
        case hyc02 => (intro w hSw; (try dsimp only at hSw); go_simp)
        case hQc02 => exact fun _ _ _ h => h
        simp only [Act.put, List.setIfInBounds_toArray, List.set_cons_zero, List.set_cons_succ]
        refine takeH (oi := ?oic03) 2 156 (.slice (some ⟨b, off, none⟩) 1 cap) ?hic03 ?hdc03 ?hwc03 ?hyc03 (by kernel_rfl) (by kernel_rfl) (by kernel_rfl) ?hQc03 (by assumption) ?_
        case hic03 => simp only [List.getElem?_toArray, List.getElem?_cons_zero, List.getElem?_cons_succ]; rfl
        case hdc03 => rfl
        case hwc03 => rfl
        case hyc03 => (intro w hSw; (try dsimp only at hSw); go_simp)
        case hQc03 => exact fun _ _ _ h => h
        simp only [Act.put, List.setIfInBounds_toArray, List.set_cons_zero, List.set_cons_succ]
        refine takeH (oi := ?oic04) 3 157 (.slice (some ⟨b, off, none⟩) 2 cap) ?hic04 ?hdc04 ?hwc04 ?hyc04 (by kernel_rfl) (by kernel_rfl) (by kernel_rfl) ?hQc04 (by assumption) ?_
        case hic04 => simp only [List.getElem?_toArray, List.getElem?_cons_zero, List.getElem?_cons_succ]; rfl
        case hdc04 => rfl
        case hwc04 => rfl
        case hyc04 => (intro w hSw; (try dsimp only at hSw); go_simp)
        case hQc04 => exact fun _ _ _ h => h
        simp only [Act.put, List.setIfInBounds_toArray, List.set_cons_zero, List.set_cons_succ]
        refine takeH (oi := ?oic05) 4 158 (.slice (some ⟨b, off + 3, none⟩) 1 (cap - 1)) ?hic05 ?hdc05 ?hwc05 ?hyc05 (by kernel_rfl) (by kernel_rfl) (by kernel_rfl) ?hQc05 (by assumption) ?_
        case hic05 => simp only [List.getElem?_toArray, List.getElem?_cons_zero, List.getElem?_cons_succ]; rfl
        case hdc05 => rfl
        case hwc05 => rfl
        case hyc05 => (intro w hSw; (try dsimp only at hSw); go_simp)
        case hQc05 => exact fun _ _ _ h => h
        simp only [Act.put, List.setIfInBounds_toArray, List.set_cons_zero, List.set_cons_succ]
        refine wpAnyH_ready (rs := [5]) (by kernel_rfl) (by simp) ?_
        refine AllReadyH.cons rfl (fun KK hK => ?_) AllReadyH.nil
        go_simp
        refine (CT.out _ _ _ SD).mono ?_
        rintro e w4 ⟨rfl, hb4⟩
        have HB4 := HB2.drew.trans (hb4.mono (Nat.succ_le_of_lt r3))
        clear q0 q1 q2 r0 r1 r2 r3 C
        obtain ⟨⟨q0, q1, q2, r0, r1, r2, r3⟩, B4⟩ := res_slot HB4
        have C := fun (p q r : Value) => below_cells (p := p) (q := q) (r := r) B4 (Nat.le_refl _)
        go_wp2_with (fail)
        refine hK.out _ _ trivial (fun hHeld => ?_)
        clear hK KK
        refine wpAnyH_ready (rs := [6]) (by kernel_rfl) (by simp) ?_
        refine AllReadyH.cons rfl (fun KK hK => ?_) AllReadyH.nil
        go_simp
        refine (RC.out _).mono ?_
        rintro e w5 ⟨rfl, hb5⟩
        have HB5 := HB4.trans (hb5.mono (Nat.succ_le_of_lt r3))
        clear q0 q1 q2 r0 r1 r2 r3 C
        obtain ⟨⟨q0, q1, q2, r0, r1, r2, r3⟩, B5⟩ := res_slot HB5
        have C := fun (p q r : Value) => below_cells (p := p) (q := q) (r := r) B5 (Nat.le_refl _)
        go_wp2_with (fail)
        refine hK.out _ _ trivial (fun hHeld => ?_)
        clear hK KK
        refine wpAnyH_ready (rs := [7]) (by kernel_rfl) (by simp) ?_
        refine AllReadyH.cons rfl (fun KK hK => ?_) AllReadyH.nil
        go_simp
        refine (rtruth_below _ _).mono ?_
        rintro e w6 ⟨rfl, hb6⟩
        have HB6 := HB5.trans (hb6.mono (Nat.succ_le_of_lt r3))
        clear q0 q1 q2 r0 r1 r2 r3 C
        obtain ⟨⟨q0, q1, q2, r0, r1, r2, r3⟩, B6⟩ := res_slot HB6
        have C := fun (p q r : Value) => below_cells (p := p) (q := q) (r := r) B6 (Nat.le_refl _)
        go_wp2_with (fail)
        refine hK.out _ _ trivial (fun hHeld => ?_)
        clear hK KK
        refine wpAnyH_ready (rs := [8]) (by kernel_rfl) (by simp) ?_
        refine AllReadyH.cons rfl (fun KK hK => ?_) AllReadyH.nil
        go_simp
        go_wp2_with (fail)
        refine hK.out _ _ trivial (fun hHeld => ?_)
        clear hK KK
        refine takeH (oi := ?oic06) 9 5 (.int .i64 0) ?hic06 ?hdc06 ?hwc06 ?hyc06 (by kernel_rfl) (by kernel_rfl) (by kernel_rfl) ?hQc06 (by assumption) ?_
        case hic06 => simp only [List.getElem?_toArray, List.getElem?_cons_zero, List.getElem?_cons_succ]; rfl
        case hdc06 => rfl
        case hwc06 => rfl
        case hyc06 => (intro w hSw; (try dsimp only at hSw); go_simp)
        case hQc06 => exact fun _ _ _ h => h
        simp only [Act.put, List.setIfInBounds_toArray, List.set_cons_zero, List.set_cons_succ]
        refine wpAnyH_done (by kernel_rfl) ?_ _
        go_wp2_with (fail)
        refine bodyPost_ret (v := .tuple #[.agg #[.int .u8 1, .int .i64 0, .string ⟨#[]⟩], .int .i64 0]) (by simp [results, Tryz.results7, go_sem, q0, q1, q2]; try rfl) rfl ⟨by rw [G.out]; try rfl, ?_⟩
        first | exact B6 | exact C _ _ _ | exact (C _ _ _).alloc (C _ _ _).size _ | exact (B6).alloc (B6).size _
      · go_wp2_with (first | (go_at_call 9; refine (GV.out _ _ KI.out).mono ?_; rintro e w2 ⟨⟨K, rfl⟩, hb2⟩; have HB2 := hres.trans (hb2.mono hs'); obtain ⟨⟨q0, q1, q2, r0, r1, r2, r3⟩, B2⟩ := res_slot HB2; have C := fun (p q r : Value) => below_cells (p := p) (q := q) (r := r) B2 (Nat.le_refl _); have d0 := (B2.cell (p := ⟨b, off, none⟩) lb).trans c0; have d1 := (B2.cell (p := ⟨b, off + 1, none⟩) lb).trans c1; have d2 := (B2.cell (p := ⟨b, off + 2, none⟩) lb).trans c2; have d3 := (B2.cell (p := ⟨b, off + 3, none⟩) lb).trans c3; have d4 := (B2.cell (p := ⟨b, off + 3 + 1, none⟩) lb).trans c4; have d5 := (B2.cell (p := ⟨b, off + 3 + 2, none⟩) lb).trans c5; have S0 := (⟨⟨d0, d1, d2⟩, d3, d4, d5⟩ : (w2.cell? ⟨b, off, none⟩ = some (.int .u8 xk) ∧ w2.cell? ⟨b, off + 1, none⟩ = some (.int .i64 xn) ∧ w2.cell? ⟨b, off + 2, none⟩ = some (.string xt)) ∧ w2.cell? ⟨b, off + 3, none⟩ = some (.int .u8 yk) ∧ w2.cell? ⟨b, off + 3 + 1, none⟩ = some (.int .i64 yn) ∧ w2.cell? ⟨b, off + 3 + 2, none⟩ = some (.string yt))))
        clear c0 c1 c2 c3 c4 c5 d0 d1 d2 d3 d4 d5
        have SD := SX.out _ _ S0 (Below.refl _ w2).drew
        refine wp_region_held_drew (S := fun _ => True) (by kernel_rfl) trivial (fun hHeld => ?_)
        refine takeH (oi := ?oic11) 0 154 (.int .u8 op) ?hic11 ?hdc11 ?hwc11 ?hyc11 (by kernel_rfl) (by kernel_rfl) (by kernel_rfl) ?hQc11 (by assumption) ?_
        case hic11 => simp only [List.getElem?_toArray, List.getElem?_cons_zero]; rfl
        case hdc11 => rfl
        case hwc11 => rfl
        case hyc11 => (intro w hSw; (try dsimp only at hSw); go_simp)
        case hQc11 => exact fun _ _ _ h => h
        simp only [Act.put, List.setIfInBounds_toArray, List.set_cons_zero, List.set_cons_succ]
        refine takeH (oi := ?oic12) 1 155 (.slice (some ⟨b, off, none⟩) 2 cap) ?hic12 ?hdc12 ?hwc12 ?hyc12 (by kernel_rfl) (by kernel_rfl) (by kernel_rfl) ?hQc12 (by assumption) ?_
        case hic12 => simp only [List.getElem?_toArray, List.getElem?_cons_zero, List.getElem?_cons_succ]; rfl
        case hdc12 => rfl
        case hwc12 => rfl
        case hyc12 => (intro w hSw; (try dsimp only at hSw); go_simp)
        case hQc12 => exact fun _ _ _ h => h
        simp only [Act.put, List.setIfInBounds_toArray, List.set_cons_zero, List.set_cons_succ]
        refine takeH (oi := ?oic13) 2 156 (.slice (some ⟨b, off, none⟩) 1 cap) ?hic13 ?hdc13 ?hwc13 ?hyc13 (by kernel_rfl) (by kernel_rfl) (by kernel_rfl) ?hQc13 (by assumption) ?_
        case hic13 => simp only [List.getElem?_toArray, List.getElem?_cons_zero, List.getElem?_cons_succ]; rfl
        case hdc13 => rfl
        case hwc13 => rfl
        case hyc13 => (intro w hSw; (try dsimp only at hSw); go_simp)
        case hQc13 => exact fun _ _ _ h => h
        simp only [Act.put, List.setIfInBounds_toArray, List.set_cons_zero, List.set_cons_succ]
        refine takeH (oi := ?oic14) 3 157 (.slice (some ⟨b, off, none⟩) 2 cap) ?hic14 ?hdc14 ?hwc14 ?hyc14 (by kernel_rfl) (by kernel_rfl) (by kernel_rfl) ?hQc14 (by assumption) ?_
        case hic14 => simp only [List.getElem?_toArray, List.getElem?_cons_zero, List.getElem?_cons_succ]; rfl
        case hdc14 => rfl
        case hwc14 => rfl
        case hyc14 => (intro w hSw; (try dsimp only at hSw); go_simp)
        case hQc14 => exact fun _ _ _ h => h
        simp only [Act.put, List.setIfInBounds_toArray, List.set_cons_zero, List.set_cons_succ]
        refine takeH (oi := ?oic15) 4 158 (.slice (some ⟨b, off + 3, none⟩) 1 (cap - 1)) ?hic15 ?hdc15 ?hwc15 ?hyc15 (by kernel_rfl) (by kernel_rfl) (by kernel_rfl) ?hQc15 (by assumption) ?_
        case hic15 => simp only [List.getElem?_toArray, List.getElem?_cons_zero, List.getElem?_cons_succ]; rfl
        case hdc15 => rfl
        case hwc15 => rfl
        case hyc15 => (intro w hSw; (try dsimp only at hSw); go_simp)
        case hQc15 => exact fun _ _ _ h => h
        simp only [Act.put, List.setIfInBounds_toArray, List.set_cons_zero, List.set_cons_succ]
        refine wpAnyH_ready (rs := [5]) (by kernel_rfl) (by simp) ?_
        refine AllReadyH.cons rfl (fun KK hK => ?_) AllReadyH.nil
        go_simp
        refine (CT.out _ _ _ SD).mono ?_
        rintro e w4 ⟨rfl, hb4⟩
        have HB4 := HB2.drew.trans (hb4.mono (Nat.succ_le_of_lt r3))
        clear q0 q1 q2 r0 r1 r2 r3 C
        obtain ⟨⟨q0, q1, q2, r0, r1, r2, r3⟩, B4⟩ := res_slot HB4
        have C := fun (p q r : Value) => below_cells (p := p) (q := q) (r := r) B4 (Nat.le_refl _)
        go_wp2_with (fail)
        refine hK.out _ _ trivial (fun hHeld => ?_)
        clear hK KK
        refine wpAnyH_ready (rs := [6]) (by kernel_rfl) (by simp) ?_
        refine AllReadyH.cons rfl (fun KK hK => ?_) AllReadyH.nil
        go_simp
        refine (RC.out _).mono ?_
        rintro e w5 ⟨rfl, hb5⟩
        have HB5 := HB4.trans (hb5.mono (Nat.succ_le_of_lt r3))
        clear q0 q1 q2 r0 r1 r2 r3 C
        obtain ⟨⟨q0, q1, q2, r0, r1, r2, r3⟩, B5⟩ := res_slot HB5
        have C := fun (p q r : Value) => below_cells (p := p) (q := q) (r := r) B5 (Nat.le_refl _)
        go_wp2_with (fail)
        refine hK.out _ _ trivial (fun hHeld => ?_)
        clear hK KK
        refine wpAnyH_ready (rs := [7]) (by kernel_rfl) (by simp) ?_
        refine AllReadyH.cons rfl (fun KK hK => ?_) AllReadyH.nil
        go_simp
        refine (rtruth_below _ _).mono ?_
        rintro e w6 ⟨rfl, hb6⟩
        have HB6 := HB5.trans (hb6.mono (Nat.succ_le_of_lt r3))
        clear q0 q1 q2 r0 r1 r2 r3 C
        obtain ⟨⟨q0, q1, q2, r0, r1, r2, r3⟩, B6⟩ := res_slot HB6
        have C := fun (p q r : Value) => below_cells (p := p) (q := q) (r := r) B6 (Nat.le_refl _)
        go_wp2_with (fail)
        refine hK.out _ _ trivial (fun hHeld => ?_)
        clear hK KK
        refine wpAnyH_ready (rs := [8]) (by kernel_rfl) (by simp) ?_
        refine AllReadyH.cons rfl (fun KK hK => ?_) AllReadyH.nil
        go_simp
        go_wp2_with (fail)
        refine hK.out _ _ trivial (fun hHeld => ?_)
        clear hK KK
        refine takeH (oi := ?oic16) 9 5 (.int .i64 0) ?hic16 ?hdc16 ?hwc16 ?hyc16 (by kernel_rfl) (by kernel_rfl) (by kernel_rfl) ?hQc16 (by assumption) ?_
        case hic16 => simp only [List.getElem?_toArray, List.getElem?_cons_zero, List.getElem?_cons_succ]; rfl
        case hdc16 => rfl
        case hwc16 => rfl
        case hyc16 => (intro w hSw; (try dsimp only at hSw); go_simp)
        case hQc16 => exact fun _ _ _ h => h
        simp only [Act.put, List.setIfInBounds_toArray, List.set_cons_zero, List.set_cons_succ]
        refine wpAnyH_done (by kernel_rfl) ?_ _
        go_wp2_with (fail)
        refine bodyPost_ret (v := .tuple #[.agg #[.int .u8 1, .int .i64 1, .string ⟨#[]⟩], .int .i64 0]) (by simp [results, Tryz.results7, go_sem, q0, q1, q2]; try rfl) rfl ⟨by rw [G.out]; try rfl, ?_⟩
        first | exact B6 | exact C _ _ _ | exact (C _ _ _).alloc (C _ _ _).size _ | exact (B6).alloc (B6).size _

end Go.Proofs.YtjddhakaebkkeaaGreatDoor
