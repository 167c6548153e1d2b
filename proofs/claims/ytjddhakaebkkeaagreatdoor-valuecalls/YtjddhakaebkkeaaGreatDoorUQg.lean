/-
  The document's own Do: Nulls.
-/
import Derived.Test.YtjddhakaebkkeaaGreatDoorUQf
namespace Go.Proofs.YtjddhakaebkkeaaGreatDoor
open Go.RowKit
attribute [local go_sem ↓] Go.wp_at_zero Go.wp_at_succ

set_option maxRecDepth 8000 in
set_option maxHeartbeats 3200000 in
theorem rdo_null1 (w : World) (op : Int) (v : Value) (l : List Val) (h : ValsIn w v l) (hr : refE op l = 0) (ho : op = 19 ∨ op = 20) (x : Val) (hx : l = [x]) :
    Calls Tryz.prog 7 #[.int .u8 op, v] w fun e w' => e = .returned (tupR (doR op l)) ∧ Below w.heap.size w w' := by
  have HX := hide hx
  have HO := hide ho
  clear hx ho
  obtain ⟨⟨a, cap, rfl, hf⟩, hwf, _⟩ := h
  have HL : Hid (l ≠ [] → ∃ b off, a = some ⟨b, off, none⟩ ∧ ValsAt w b off l) := hf
  have HW : Hid (∀ v ∈ l, v.wf) := hwf
  clear hf hwf
  obtain ⟨hj, hm, hg⟩ := ref_just hr
  have hl2 : l.length ≤ 2 := by have := just_len hj; omega
  obtain ⟨T, hT⟩ : ∃ T, T = takes op := ⟨_, rfl⟩
  have TK : Hid (∀ wx, Calls Tryz.prog 11 #[.int .u8 op] wx fun e w' => e = .returned (.int .i64 T) ∧ w' = wx) := fun wx => by rw [hT]; exact rtakes_any wx op
  have b0 : (T == 0) = false := by have := just_takes hj; simp; omega
  have b1 : (T != (l.length : Int)) = false := by have := just_takes hj; simp; omega
  have HM : Hid (∀ x ∈ l, x.may = true) := List.all_eq_true.mp hm
  have GV : Hid (∀ wx kv, KindsIn wx kv (l.map Val.k) → Calls Tryz.prog 9 #[.int .u8 op, kv] wx fun e w' => (∃ K, e = .returned (.tuple #[.int .u8 K, .int .i64 0])) ∧ Below wx.heap.size wx w') := fun wx kv hk => (rgives_any wx op kv _ hk).mono (by rintro e w' ⟨rfl, hb⟩; exact ⟨⟨_, by rw [hg]⟩, hb⟩)
  have HG : Hid (givesE op (l.map Val.k) = 0) := hg
  have HD := hide (do_of hr)
  clear hT hj hm hg hr
  obtain ⟨i0, hi, hz0, hz1, hz2⟩ := info_parts kindInfo
  go_enter Tryz.func7, Tryz.ntmps7
  go_wp2_with (go_at_call 11; refine still (TK.out _) ?_)
  go_loopw [6, 7, 8] (fun kv nv i wr => ∃ j : Nat, j ≤ l.length ∧ i = .int .i64 j ∧ KindsOwn (w.heap.size + 1) (w.alloc (.cells #[.int .u8 0, .int .i64 0, .string ⟨#[]⟩] 29)) wr kv ((l.map Val.k).take j) ∧ nv = .bool ((l.take j).any isN)) (fun _ _ i _ => l.length - (intOf i).toNat)
  case atStart => exact ⟨0, Nat.zero_le _, rfl, ⟨World.ownsRow_nil _ _ _ _, Below.refl _ _⟩, by simp⟩
  case round =>
    obtain ⟨j, hj, rfl, hko, rfl⟩ := hrel
    have HKO := hide hko
    have hres := hko.bel
    have hs := hres.size
    have hs' : w.heap.size + 1 ≤ wr.heap.size := by simpa using hs
    have hbel := (res_slot hres).2
    by_cases hlt : j < l.length
    · obtain ⟨b, off, rfl, hv⟩ := HL.out (by intro e; rw [e] at hlt; simp at hlt)
      obtain ⟨c0, c1, c2⟩ := (hv.later hbel) j hlt
      have hvb : b < w.heap.size := World.block_lt_of_cell? w _ (hv j hlt).1
      have cz0 : (w.alloc (.cells #[.int .u8 0, .int .i64 0, .string ⟨#[]⟩] 29)).cell? ⟨b, off + j * 3, none⟩ = some (.int .u8 (l[j]).k) := (((Below.refl w.heap.size w).alloc (Nat.le_refl _) _).cell (p := ⟨b, off + j * 3, none⟩) hvb).trans (hv j hlt).1
      have hw1 := (HW.out _ (List.getElem_mem hlt)).t1
      have HT := hide (take_kinds l j hlt)
      have HN := hide (any_next isN l j hlt)
      have hmay0 := HM.out _ (List.getElem_mem hlt)
      obtain ⟨x, hx⟩ : ∃ x, x = l[j] := ⟨_, rfl⟩
      rw [← hx] at c0 c1 c2 cz0 hw1 HT HN hmay0
      clear hx hv
      obtain ⟨xk, xn, xt⟩ := x
      have hkl : ((l.map Val.k).take j).length = j := by rw [List.length_take, List.length_map]; omega
      have own := hko.own
      rw [hkl] at own
      obtain ⟨N, hN⟩ : ∃ N, N = (l.take j).any isN := ⟨_, rfl⟩
      rw [← hN] at HN ⊢
      clear hN
      have hmay : mayV xk xn xt = true := hmay0
      clear hmay0
      have hchk : chk xk xn xt = 0 := by unfold chk; rw [hmay]; rfl
      have own3 := (own.alloc (.cells #[.int .u8 xk, .int .i64 xn, .string xt] 29)).alloc (.cells #[.int .u8 xk] 27)
      have b3 := (hres.alloc hs' (.cells #[.int .u8 xk, .int .i64 xn, .string xt] 29)).alloc (by simp; omega) (.cells #[.int .u8 xk] 27)
      have news0 := World.news_of_block (cs := #[.int .u8 xk]) (heap_alloc_new (wr.alloc (.cells #[.int .u8 xk, .int .i64 xn, .string xt] 29)) (.cells #[.int .u8 xk] 27))
      have news : ∀ i u, (kc [xk])[i]? = some u → ((wr.alloc (.cells #[.int .u8 xk, .int .i64 xn, .string xt] 29)).alloc (.cells #[.int .u8 xk] 27)).cell? ((⟨wr.heap.size + 1, 0, none⟩ : Addr).add i) = some u := by simpa [kc] using news0
      have m1 : j + 1 ≤ maxLen := by unfold maxLen; omega
      have m2 : (j + 1) * 1 ≤ 140737488355328 := by omega
      have CZ := hide cz0
      have hvb1 : b < w.heap.size + 1 := by omega
      have lbr : b < wr.heap.size := by omega
      have lb2 : w.heap.size + 1 ≤ ((wr.alloc (.cells #[.int .u8 xk, .int .i64 xn, .string xt] 29)).alloc (.cells #[.int .u8 xk] 27)).heap.size := by simp; omega
      have OWN := hide own3
      have BEL := hide b3
      have NEWS := hide news
      clear own own3 b3 news news0 hko hmay cz0
      cases N <;> cases hz : (xk == 0)
      all_goals
        go_wp2_with (first
          | (go_at_call 28; refine (refCheck_any _ _ _ _ hw1).mono ?_; rintro e w' ⟨rfl, rfl⟩)
          | (at_builtin; refine wpList_append_own _ rfl (.tmp 38) (.tmp 44) 24 rfl (w.heap.size + 1) 27 i0 (.int .u8 0) 1 1 Tryz.underlying24 hi hz0 hz1 hz2 rfl (by decide) _ j (kc ((l.map Val.k).take j)) rfl OWN.out ⟨wr.heap.size + 1, 0, none⟩ 1 1 (kc [xk]) rfl rfl NEWS.out (kc_one _) m1 m2 lb2 ?_; intro v' w' o1 g1 _; have KO : KindsOwn (w.heap.size + 1) (w.alloc (.cells #[.int .u8 0, .int .i64 0, .string ⟨#[]⟩] 29)) w' v' ((l.map Val.k).take j ++ [xk]) := (by refine KindsOwn.push ⟨?_, BEL.out⟩ hkl.symm lb2 o1 g1; rw [hkl]; exact OWN.out); rw [← HT.out] at KO; have cz := (KO.bel.cell (p := ⟨b, off + j * 3, none⟩) hvb1).trans CZ.out))
        clear o1 g1
        go_roundw
        case rel => exact ⟨j + 1, by omega, by go_num, KO, by rw [HN.out]; simp [isN, hz]⟩
        case measure => simp [intOf]; omega
    · have hfull : (l.map Val.k).take j = l.map Val.k := List.take_of_length_le (by rw [List.length_map]; omega)
      have hna : (l.take j).any isN = l.any isN := by rw [List.take_of_length_le (by omega)]
      rw [hna]
      rw [hfull] at hko
      have KI := hide (kinds_of_own hko.own (by rw [List.length_map]; omega))
      clear hfull hna hko HKO b0 b1 TK
      have hl := HX.out
      subst hl
      have hlt2 : ¬ ((j : Int) < 1) := by simp at hlt; omega
      clear hlt
      have hN1 : [x].any isN = isN x := by simp
      rw [hN1]
      obtain ⟨N, hN⟩ : ∃ N, N = isN x := ⟨_, rfl⟩
      rw [← hN]
      clear hN1
      rcases HO.out with rfl | rfl
      · cases N
        · have G : Hid (doR 19 [x] = (tv false, 0)) := HD.out.trans (by show (tv (isN x), 0) = _; rw [← hN]; try rfl)
          clear hN
          go_wp2_with (first | (go_at_call 9; refine (GV.out _ _ KI.out).mono ?_; rintro e w2 ⟨⟨K, rfl⟩, hb2⟩; have HB2 := hres.trans (hb2.mono hs'); obtain ⟨⟨q0, q1, q2, r0, r1, r2, r3⟩, B2⟩ := res_slot HB2; have C := fun (p q r : Value) => below_cells (p := p) (q := q) (r := r) B2 (Nat.le_refl _)) | (go_at_call 29; refine (rtruth_any _ _).mono ?_; rintro e w' ⟨rfl, rfl⟩))
          refine bodyPost_ret (v := .tuple #[.agg #[.int .u8 1, .int .i64 0, .string ⟨#[]⟩], .int .i64 0]) (by simp [results, Tryz.results7, go_sem, q0, q1, q2, r3]; try rfl) rfl ⟨by rw [G.out]; try rfl, ?_⟩
          first | exact B2 | exact C _ _ _ | exact (C _ _ _).alloc (C _ _ _).size _ | exact (B2).alloc (B2).size _
        · have G : Hid (doR 19 [x] = (tv true, 0)) := HD.out.trans (by show (tv (isN x), 0) = _; rw [← hN]; try rfl)
          clear hN
          go_wp2_with (first | (go_at_call 9; refine (GV.out _ _ KI.out).mono ?_; rintro e w2 ⟨⟨K, rfl⟩, hb2⟩; have HB2 := hres.trans (hb2.mono hs'); obtain ⟨⟨q0, q1, q2, r0, r1, r2, r3⟩, B2⟩ := res_slot HB2; have C := fun (p q r : Value) => below_cells (p := p) (q := q) (r := r) B2 (Nat.le_refl _)) | (go_at_call 29; refine (rtruth_any _ _).mono ?_; rintro e w' ⟨rfl, rfl⟩))
          refine bodyPost_ret (v := .tuple #[.agg #[.int .u8 1, .int .i64 1, .string ⟨#[]⟩], .int .i64 0]) (by simp [results, Tryz.results7, go_sem, q0, q1, q2, r3]; try rfl) rfl ⟨by rw [G.out]; try rfl, ?_⟩
          first | exact B2 | exact C _ _ _ | exact (C _ _ _).alloc (C _ _ _).size _ | exact (B2).alloc (B2).size _
      · cases N
        · have G : Hid (doR 20 [x] = (tv true, 0)) := HD.out.trans (by show (tv (!isN x), 0) = _; rw [← hN]; try rfl)
          clear hN
          go_wp2_with (first | (go_at_call 9; refine (GV.out _ _ KI.out).mono ?_; rintro e w2 ⟨⟨K, rfl⟩, hb2⟩; have HB2 := hres.trans (hb2.mono hs'); obtain ⟨⟨q0, q1, q2, r0, r1, r2, r3⟩, B2⟩ := res_slot HB2; have C := fun (p q r : Value) => below_cells (p := p) (q := q) (r := r) B2 (Nat.le_refl _)) | (go_at_call 29; refine (rtruth_any _ _).mono ?_; rintro e w' ⟨rfl, rfl⟩))
          refine bodyPost_ret (v := .tuple #[.agg #[.int .u8 1, .int .i64 1, .string ⟨#[]⟩], .int .i64 0]) (by simp [results, Tryz.results7, go_sem, q0, q1, q2, r3]; try rfl) rfl ⟨by rw [G.out]; try rfl, ?_⟩
          first | exact B2 | exact C _ _ _ | exact (C _ _ _).alloc (C _ _ _).size _ | exact (B2).alloc (B2).size _
        · have G : Hid (doR 20 [x] = (tv false, 0)) := HD.out.trans (by show (tv (!isN x), 0) = _; rw [← hN]; try rfl)
          clear hN
          go_wp2_with (first | (go_at_call 9; refine (GV.out _ _ KI.out).mono ?_; rintro e w2 ⟨⟨K, rfl⟩, hb2⟩; have HB2 := hres.trans (hb2.mono hs'); obtain ⟨⟨q0, q1, q2, r0, r1, r2, r3⟩, B2⟩ := res_slot HB2; have C := fun (p q r : Value) => below_cells (p := p) (q := q) (r := r) B2 (Nat.le_refl _)) | (go_at_call 29; refine (rtruth_any _ _).mono ?_; rintro e w' ⟨rfl, rfl⟩))
          refine bodyPost_ret (v := .tuple #[.agg #[.int .u8 1, .int .i64 0, .string ⟨#[]⟩], .int .i64 0]) (by simp [results, Tryz.results7, go_sem, q0, q1, q2, r3]; try rfl) rfl ⟨by rw [G.out]; try rfl, ?_⟩
          first | exact B2 | exact C _ _ _ | exact (C _ _ _).alloc (C _ _ _).size _ | exact (B2).alloc (B2).size _

set_option maxRecDepth 8000 in
set_option maxHeartbeats 3200000 in
theorem rdo_null (w : World) (op : Int) (v : Value) (l : List Val) (h : ValsIn w v l) (hr : refE op l = 0) (ho : (op == 19) = false ∧ (op == 20) = false ∧ (op == 15) = false ∧ (op == 16) = false) (hn : l.any isN = true) :
    Calls Tryz.prog 7 #[.int .u8 op, v] w fun e w' => e = .returned (tupR (doR op l)) ∧ Below w.heap.size w w' := by
  obtain ⟨o1, o2, o3, o4⟩ := ho
  obtain ⟨⟨a, cap, rfl, hf⟩, hwf, _⟩ := h
  have HL : Hid (l ≠ [] → ∃ b off, a = some ⟨b, off, none⟩ ∧ ValsAt w b off l) := hf
  have HW : Hid (∀ v ∈ l, v.wf) := hwf
  clear hf hwf
  obtain ⟨hj, hm, hg⟩ := ref_just hr
  have hl2 : l.length ≤ 2 := by have := just_len hj; omega
  obtain ⟨T, hT⟩ : ∃ T, T = takes op := ⟨_, rfl⟩
  have TK : Hid (∀ wx, Calls Tryz.prog 11 #[.int .u8 op] wx fun e w' => e = .returned (.int .i64 T) ∧ w' = wx) := fun wx => by rw [hT]; exact rtakes_any wx op
  have b0 : (T == 0) = false := by have := just_takes hj; simp; omega
  have b1 : (T != (l.length : Int)) = false := by have := just_takes hj; simp; omega
  have HM : Hid (∀ x ∈ l, x.may = true) := List.all_eq_true.mp hm
  have GV : Hid (∀ wx kv, KindsIn wx kv (l.map Val.k) → Calls Tryz.prog 9 #[.int .u8 op, kv] wx fun e w' => (∃ K, e = .returned (.tuple #[.int .u8 K, .int .i64 0])) ∧ Below wx.heap.size wx w') := fun wx kv hk => (rgives_any wx op kv _ hk).mono (by rintro e w' ⟨rfl, hb⟩; exact ⟨⟨_, by rw [hg]⟩, hb⟩)
  have HG : Hid (givesE op (l.map Val.k) = 0) := hg
  have HD := hide (do_of hr)
  clear hT hj hm hg hr
  obtain ⟨i0, hi, hz0, hz1, hz2⟩ := info_parts kindInfo
  go_enter Tryz.func7, Tryz.ntmps7
  go_wp2_with (go_at_call 11; refine still (TK.out _) ?_)
  go_loopw [6, 7, 8] (fun kv nv i wr => ∃ j : Nat, j ≤ l.length ∧ i = .int .i64 j ∧ KindsOwn (w.heap.size + 1) (w.alloc (.cells #[.int .u8 0, .int .i64 0, .string ⟨#[]⟩] 29)) wr kv ((l.map Val.k).take j) ∧ nv = .bool ((l.take j).any isN)) (fun _ _ i _ => l.length - (intOf i).toNat)
  case atStart => exact ⟨0, Nat.zero_le _, rfl, ⟨World.ownsRow_nil _ _ _ _, Below.refl _ _⟩, by simp⟩
  case round =>
    obtain ⟨j, hj, rfl, hko, rfl⟩ := hrel
    have HKO := hide hko
    have hres := hko.bel
    have hs := hres.size
    have hs' : w.heap.size + 1 ≤ wr.heap.size := by simpa using hs
    have hbel := (res_slot hres).2
    by_cases hlt : j < l.length
    · obtain ⟨b, off, rfl, hv⟩ := HL.out (by intro e; rw [e] at hlt; simp at hlt)
      obtain ⟨c0, c1, c2⟩ := (hv.later hbel) j hlt
      have hvb : b < w.heap.size := World.block_lt_of_cell? w _ (hv j hlt).1
      have cz0 : (w.alloc (.cells #[.int .u8 0, .int .i64 0, .string ⟨#[]⟩] 29)).cell? ⟨b, off + j * 3, none⟩ = some (.int .u8 (l[j]).k) := (((Below.refl w.heap.size w).alloc (Nat.le_refl _) _).cell (p := ⟨b, off + j * 3, none⟩) hvb).trans (hv j hlt).1
      have hw1 := (HW.out _ (List.getElem_mem hlt)).t1
      have HT := hide (take_kinds l j hlt)
      have HN := hide (any_next isN l j hlt)
      have hmay0 := HM.out _ (List.getElem_mem hlt)
      obtain ⟨x, hx⟩ : ∃ x, x = l[j] := ⟨_, rfl⟩
      rw [← hx] at c0 c1 c2 cz0 hw1 HT HN hmay0
      clear hx hv
      obtain ⟨xk, xn, xt⟩ := x
      have hkl : ((l.map Val.k).take j).length = j := by rw [List.length_take, List.length_map]; omega
      have own := hko.own
      rw [hkl] at own
      obtain ⟨N, hN⟩ : ∃ N, N = (l.take j).any isN := ⟨_, rfl⟩
      rw [← hN] at HN ⊢
      clear hN
      have hmay : mayV xk xn xt = true := hmay0
      clear hmay0
      have hchk : chk xk xn xt = 0 := by unfold chk; rw [hmay]; rfl
      have own3 := (own.alloc (.cells #[.int .u8 xk, .int .i64 xn, .string xt] 29)).alloc (.cells #[.int .u8 xk] 27)
      have b3 := (hres.alloc hs' (.cells #[.int .u8 xk, .int .i64 xn, .string xt] 29)).alloc (by simp; omega) (.cells #[.int .u8 xk] 27)
      have news0 := World.news_of_block (cs := #[.int .u8 xk]) (heap_alloc_new (wr.alloc (.cells #[.int .u8 xk, .int .i64 xn, .string xt] 29)) (.cells #[.int .u8 xk] 27))
      have news : ∀ i u, (kc [xk])[i]? = some u → ((wr.alloc (.cells #[.int .u8 xk, .int .i64 xn, .string xt] 29)).alloc (.cells #[.int .u8 xk] 27)).cell? ((⟨wr.heap.size + 1, 0, none⟩ : Addr).add i) = some u := by simpa [kc] using news0
      have m1 : j + 1 ≤ maxLen := by unfold maxLen; omega
      have m2 : (j + 1) * 1 ≤ 140737488355328 := by omega
      have CZ := hide cz0
      have hvb1 : b < w.heap.size + 1 := by omega
      have lbr : b < wr.heap.size := by omega
      have lb2 : w.heap.size + 1 ≤ ((wr.alloc (.cells #[.int .u8 xk, .int .i64 xn, .string xt] 29)).alloc (.cells #[.int .u8 xk] 27)).heap.size := by simp; omega
      have OWN := hide own3
      have BEL := hide b3
      have NEWS := hide news
      clear own own3 b3 news news0 hko hmay cz0
      cases N <;> cases hz : (xk == 0)
      all_goals
        go_wp2_with (first
          | (go_at_call 28; refine (refCheck_any _ _ _ _ hw1).mono ?_; rintro e w' ⟨rfl, rfl⟩)
          | (at_builtin; refine wpList_append_own _ rfl (.tmp 38) (.tmp 44) 24 rfl (w.heap.size + 1) 27 i0 (.int .u8 0) 1 1 Tryz.underlying24 hi hz0 hz1 hz2 rfl (by decide) _ j (kc ((l.map Val.k).take j)) rfl OWN.out ⟨wr.heap.size + 1, 0, none⟩ 1 1 (kc [xk]) rfl rfl NEWS.out (kc_one _) m1 m2 lb2 ?_; intro v' w' o1 g1 _; have KO : KindsOwn (w.heap.size + 1) (w.alloc (.cells #[.int .u8 0, .int .i64 0, .string ⟨#[]⟩] 29)) w' v' ((l.map Val.k).take j ++ [xk]) := (by refine KindsOwn.push ⟨?_, BEL.out⟩ hkl.symm lb2 o1 g1; rw [hkl]; exact OWN.out); rw [← HT.out] at KO; have cz := (KO.bel.cell (p := ⟨b, off + j * 3, none⟩) hvb1).trans CZ.out))
        clear o1 g1
        go_roundw
        case rel => exact ⟨j + 1, by omega, by go_num, KO, by rw [HN.out]; simp [isN, hz]⟩
        case measure => simp [intOf]; omega
    · have hfull : (l.map Val.k).take j = l.map Val.k := List.take_of_length_le (by rw [List.length_map]; omega)
      have hna : (l.take j).any isN = l.any isN := by rw [List.take_of_length_le (by omega)]
      rw [hna]
      rw [hfull] at hko
      have KI := hide (kinds_of_own hko.own (by rw [List.length_map]; omega))
      clear hfull hna hko HKO b0 b1 TK
      rw [hn]
      have G : Hid (doR op l = (nullV, 0)) := by
        show _ = _
        rw [HD.out]
        simp only [beq_eq_false_iff_ne] at o1 o2 o3 o4
        unfold makesR
        rw [if_neg o1, if_neg o2, if_neg o3, if_neg o4, hn]; rfl
      clear hn
      go_wp2_with (first | (go_at_call 9; refine (GV.out _ _ KI.out).mono ?_; rintro e w2 ⟨⟨K, rfl⟩, hb2⟩; have HB2 := hres.trans (hb2.mono hs'); obtain ⟨⟨q0, q1, q2, r0, r1, r2, r3⟩, B2⟩ := res_slot HB2; have C := fun (p q r : Value) => below_cells (p := p) (q := q) (r := r) B2 (Nat.le_refl _)))
      refine bodyPost_ret (v := .tuple #[.agg #[.int .u8 0, .int .i64 0, .string ⟨#[]⟩], .int .i64 0]) (by simp [results, Tryz.results7, go_sem, q0, q1, q2]; try rfl) rfl ⟨by rw [G.out]; try rfl, ?_⟩
      first | exact B2 | exact C _ _ _ | exact (C _ _ _).alloc (C _ _ _).size _ | exact (B2).alloc (B2).size _

end Go.Proofs.YtjddhakaebkkeaaGreatDoor
