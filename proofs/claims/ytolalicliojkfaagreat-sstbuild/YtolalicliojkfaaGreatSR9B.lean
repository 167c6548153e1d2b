/-
  stagepostref09.Build of entries that make a table: just the bytes of Ss.buildB.
-/
import Derived.Test.YtolalicliojkfaaGreatSRef9
import Derived.Test.YtolalicliojkfaaGreatSR9S
import Derived.Test.YtolalicliojkfaaGreatBRefE
import Derived.Test.YtolalicliojkfaaGreatJRFrame
import Derived.Test.YtolalicliojkfaaGreatJBmRef2
namespace Go.Proofs.YtolalicliojkfaaGreat
open Go.RowKit

theorem ents_cap {w : World} {a : Option Addr} {n c c' : Nat} {l : List Mm.Ent} (h : EntsAt w (.slice a n c) l) : EntsAt w (.slice a n c') l := by
  obtain ⟨⟨a0, cap, e, hf⟩⟩ := h
  simp only [Value.slice.injEq] at e
  obtain ⟨rfl, rfl, rfl⟩ := e
  exact ⟨⟨a, c', rfl, hf⟩⟩
theorem cnt_of {l : List Mm.Ent} {p k : Nat} (hp : 1 ≤ p) (h : k * p < l.length) : k < Ss.cnt l p := by
  unfold Ss.cnt
  rw [Nat.lt_iff_add_one_le, Nat.le_div_iff_mul_le (by omega), Nat.succ_mul]
  omega
theorem own_textsR {w : World} {base : Nat} {v : Value} {t : List (List UInt8)} (h : w.ownsRow base 9 1 v t.length (t.map str)) : TextsIn w v (t.map fun x => (⟨x.toArray⟩ : ByteArray)) := by
  have hjl : (t.map fun x => (⟨x.toArray⟩ : ByteArray)).length = t.length := by rw [List.length_map]
  rcases h.2 with ⟨rfl, h0⟩ | ⟨g, cap, cur, rfl, hb, hg, hnc, hcm, _⟩
  · refine ⟨none, 0, by rw [hjl, h0], by omega, by omega, fun _ => rfl, fun hne => ?_⟩
    exact absurd (List.eq_nil_of_length_eq_zero (by omega)) hne
  · refine ⟨some ⟨g, 0, none⟩, cap, by rw [hjl], by omega, by unfold maxLen at hcm; omega, (fun e => by cases e), fun _ => ⟨g, 0, rfl, fun m hm => ?_⟩⟩
    rw [Nat.zero_add, h.cellAt m (by omega)]
    rw [List.getElem?_map, List.getElem?_eq_getElem (by omega), List.getElem_map]
    rfl
theorem keysOf_back (t : List (List UInt8)) : keysOf (t.map fun x => (⟨x.toArray⟩ : ByteArray)) = t := by
  unfold keysOf
  rw [List.map_map]
  conv => rhs; rw [← List.map_id t]
  exact List.map_congr_left (fun x _ => rfl)

set_option maxRecDepth 100000 in
set_option maxHeartbeats 16000000 in
theorem rsbuild_ok (w : World) (a : Option Addr) (c n : Nat) (l : List Mm.Ent) (h : EntsAt w (.slice a n c) l) (hn : n = l.length) (hcap : n ≤ c) (hl : n ≤ 1000) (p d : Nat) (hc : Ss.checkE l p d = 0) :
    Calls Tryz.prog 8 #[.slice a n c, .int .i64 (p : Int), .int .i64 (d : Int)] w fun e w' => ∃ v, e = .returned (.tuple #[v, .int .i64 0]) ∧ w'.ownsRow w.heap.size 5 1 v (Ss.buildB l p d).length (bc (Ss.buildB l p d)) ∧ Below w.heap.size w w' := by
  obtain ⟨⟨hp1, hp2, hd1, hd2⟩, hn1, hn2, hall, hord⟩ := Ss.check_parts hc
  obtain ⟨eb, off, rfl⟩ := h.some (by omega)
  have g1 : ¬ (p : Int) < 1 := by omega
  have g2 : ¬ (p : Int) > 64 := by omega
  have g3 : ¬ (d : Int) < 1 := by omega
  have g4 : ¬ (d : Int) > 16 := by omega
  have g5 : ((n : Int) == 0) = false := by simp; omega
  have g6 : ¬ (n : Int) > 65536 := by omega
  have H := hide h
  have HN : Hid (n = l.length) := hn
  have HC := hide hc
  have CK : Hid (∀ wx j (hj : j < l.length), Calls Tryz.prog 29 #[entV l[j]] wx fun r w' => r = .returned (.int .i64 0) ∧ Below wx.heap.size wx w') := fun wx j hj => by
    have := rmcheck_any wx l[j]
    rwa [checkE_may, List.all_eq_true.1 hall l[j] (List.getElem_mem hj)] at this
  have IO : Hid (∀ wx, Below w.heap.size w wx → Calls Tryz.prog 30 #[.slice (some ⟨eb, off, none⟩) n c] wx fun e w' => e = .returned (.bool true) ∧ Below wx.heap.size wx w') := fun wx hw => by
    have := rinOrder_any wx (some ⟨eb, off, none⟩) c n l (h.later hw) hn (by omega) _ rfl
    rwa [hord] at this
  clear h hn hc hall hord hn2
  obtain ⟨N, hN⟩ : ∃ N, N = Ss.cnt l p := ⟨_, rfl⟩
  have HNN : Hid (N = Ss.cnt l p) := hN
  have hN1 : N ≤ 1000 := by
    have h1 : Ss.cnt l p ≤ n := by
      rw [HN.out]
      unfold Ss.cnt
      rw [Nat.div_le_iff_le_mul_add_pred (by omega)]
      have := Nat.mul_le_mul_right l.length (show 1 ≤ p by omega)
      omega
    omega
  clear hN
  go_enter Tryz.func8, Tryz.ntmps8
  go_wp2_with (fail)
  go_loopw [8] (fun i wr => ∃ j : Nat, j ≤ n ∧ i = .int .i64 j ∧ Below w.heap.size w wr) (fun i _ => n - (intOf i).toNat)
  case atStart => exact ⟨0, Nat.zero_le _, rfl, Below.refl _ _⟩
  case round =>
    obtain ⟨j, hj, rfl, bx⟩ := hrel
    by_cases hlt : j < n
    · have jl : j < l.length := by have := HN.out; omega
      obtain ⟨c0, c1, c2, c3⟩ := (H.out.later bx).cells j jl
      have CJ := hide (CK.out wr j jl)
      have jn : (j : Int) < (n : Int) := by omega
      generalize l[j] = x at *
      clear CK IO jl
      go_wp2_with (go_at_call 29; refine CJ.out.mono ?_; rintro r w1 ⟨rfl, b1⟩)
      exact ⟨⟨j + 1, by omega, by go_num, bx.trans (b1.mono bx.size)⟩, by simp [intOf]; omega⟩
    have jn : ¬ (j : Int) < (n : Int) := by omega
    have IJ := hide (IO.out wr bx)
    clear CK IO
    go_wp2_with (go_at_call 30; refine IJ.out.mono ?_; rintro r w1 ⟨rfl, b1⟩)
    have BW1 := bx.trans (b1.mono bx.size)
    clear IJ b1 bx jn hlt hj
    go_loopw [10, 11, 12, 13, 14] (fun vo vi vk m i wr => ∃ k : Nat, k ≤ N ∧ m = .int .i64 k ∧ i = .int .i64 ((k * p : Nat) : Int) ∧ R9 w wr vo vi vk (Ss.outB l p k) (Ss.ix l p k) ((Ss.keysB l).take (k * p))) (fun _ _ _ m _ _ => N - (intOf m).toNat)
    case atStart => exact ⟨0, Nat.zero_le _, rfl, by simp, by rw [Nat.zero_mul, List.take_zero]; exact (R9.start w).at1 BW1⟩
    case round =>
      obtain ⟨k, hk, rfl, rfl, R⟩ := hrel
      by_cases hkN : k < N
      · have hqn : k * p < n := by rw [HN.out]; exact Ss.cnt_lt (by omega) (by rw [← HNN.out]; exact hkN)
        have hck := Ss.piece_check HC.out (show k < Ss.cnt l p by rw [← HNN.out]; exact hkN)
        obtain ⟨M, hM⟩ : ∃ M, M = min p (n - k * p) := ⟨_, rfl⟩
        have hM' : M = min p (l.length - k * p) := by rw [hM, HN.out]
        obtain ⟨q, hq⟩ : ∃ q, q = k * p := ⟨_, rfl⟩
        have EP : Hid (∀ wx C, Below w.heap.size w wx → EntsAt wx (.slice (some ⟨eb, off + q * 4, none⟩) M C) (Ss.piece l p k)) := fun wx C hb => by rw [hq]; exact ents_cap (ents_piece (H.out.later hb) p k M hM')
        have mn : min ((q : Int) + (p : Int)) (n : Int) = (q : Int) + (M : Int) := by rw [hq]; omega
        have qn : (q : Int) < (n : Int) := by rw [hq]; omega
        have wqp : IntKind.i64.wrap ((q : Int) + (p : Int)) = (q : Int) + (p : Int) := by rw [IntKind.wrap_i64]; omega
        have wqM : IntKind.i64.wrap ((q : Int) + (M : Int)) = (q : Int) + (M : Int) := by rw [IntKind.wrap_i64]; omega
        have cq : ¬ c = q := by omega
        have i1 : (0 : Int) ≤ (q : Int) := by omega
        have i2 : (q : Int) ≤ (q : Int) + (M : Int) := by omega
        have i3 : (q : Int) + (M : Int) ≤ (c : Int) := by omega
        have tM : ((q : Int) + (M : Int)).toNat - q = M := by omega
        rw [← hq] at R ⊢
        have HQ : Hid (q = k * p) := hq
        have HM : Hid (M = min p (n - q)) := by show _ = _; rw [hM, hq]
        rw [← hq] at hqn
        clear hM hM' BW1 hq
        have hpl : (Ss.piece l p k).length = M := by rw [Ss.piece_length, ← HN.out, ← HQ.out, HM.out]
        obtain ⟨n1, n2, _, _⟩ := Bk.checkE_ok hck
        rw [hpl] at n1 n2
        obtain ⟨m, hm⟩ : ∃ m, M = m + 1 := ⟨M - 1, by omega⟩
        have hbl := Ss.blockB_len hck
        have hol := Ss.outB_len HC.out k (by rw [← HNN.out]; exact hk)
        have hil := Ss.ix_len HC.out k (by rw [← HNN.out]; exact hk)
        have hmay := Bk.may_parts (Ss.last_may hck)
        have hlast : Ss.lastOf (Ss.piece l p k) = (Ss.piece l p k)[m]'(by omega) := by rw [Ss.last_get (by omega)]; congr 1; omega
        have EC : Hid (∀ B, Below w.heap.size w B → B.cell? ⟨eb, off + q * 4 + m * 4, none⟩ = some (str (Ss.lastOf (Ss.piece l p k)).key) ∧ B.cell? ⟨eb, off + q * 4 + m * 4 + 1, none⟩ = some (str (Ss.lastOf (Ss.piece l p k)).value) ∧ B.cell? ⟨eb, off + q * 4 + m * 4 + 2, none⟩ = some (.int .i64 (Ss.lastOf (Ss.piece l p k)).seq) ∧ B.cell? ⟨eb, off + q * 4 + m * 4 + 3, none⟩ = some (.bool (Ss.lastOf (Ss.piece l p k)).del)) := fun B hB => by
          rw [hlast]
          exact (EP.out B M hB).cells m (by omega)
        have EN : Hid (∀ wx, Below w.heap.size w wx → Calls Tryz.prog 31 #[.slice (some ⟨eb, off + q * 4, none⟩) M (c - q)] wx fun e w' => ∃ g cap, e = .returned (.tuple #[.slice (some ⟨g, 0, none⟩) (Bk.blockB (Ss.piece l p k)).length cap, .int .i64 0]) ∧ w'.ownsRow wx.heap.size 5 1 (.slice (some ⟨g, 0, none⟩) (Bk.blockB (Ss.piece l p k)).length cap) (Bk.blockB (Ss.piece l p k)).length (bc (Bk.blockB (Ss.piece l p k))) ∧ Below wx.heap.size wx w') := fun wx hb => rencode_ok wx _ (c - q) M _ (EP.out wx _ hb) hck
        have OB : Hid (Ss.outB l p (k + 1) = Ss.outB l p k ++ frm (Bk.blockB (Ss.piece l p k))) := rfl
        have XB : Hid (Ss.ix l p (k + 1) = Ss.ix l p k ++ Ss.partB ((Bk.blockB (Ss.piece l p k)).length + 12) (Ss.lastOf (Ss.piece l p k)).key (Ss.lastOf (Ss.piece l p k)).seq.toNat) := rfl
        have KP : Hid (∀ j (hj : j < M) B, Below w.heap.size w B → ∃ K, (Ss.keysB l).take (q + (j + 1)) = (Ss.keysB l).take (q + j) ++ [K] ∧ B.cell? ⟨eb, off + q * 4 + j * 4, none⟩ = some (str K)) := fun j hj B hB => by
          have hjl : j < (Ss.piece l p k).length := by rw [hpl]; exact hj
          refine ⟨(Ss.piece l p k)[j].key, ?_, ((EP.out B M hB).cells j hjl).1⟩
          have hx := Ss.piece_at hjl
          rw [← HQ.out] at hx
          have e1 : (Ss.piece l p k)[j] = l[q + j] := by rw [Ss.piece_get hjl]; congr 1; rw [HQ.out]
          rw [e1, ← Nat.add_assoc, List.take_succ_eq_append_getElem (by unfold Ss.keysB; rw [List.length_map]; exact hx)]
          unfold Ss.keysB
          rw [List.getElem_map]
        have KE : Hid ((Ss.keysB l).take (q + M) = (Ss.keysB l).take ((k + 1) * p)) := by
          show _ = _
          have e2 := HM.out
          have e3 := HN.out
          rw [Nat.succ_mul, ← HQ.out]
          by_cases hpm : M = p
          · rw [hpm]
          · rw [List.take_of_length_le (by unfold Ss.keysB; rw [List.length_map]; omega), List.take_of_length_le (by unfold Ss.keysB; rw [List.length_map]; omega)]
        have EW : Hid (R9 w wr u10 u11 u12 (Ss.outB l p k) (Ss.ix l p k) ((Ss.keysB l).take (q + 0))) := R
        clear hlast hpl hck R H
        obtain ⟨F, hF⟩ : ∃ F, F = (Bk.blockB (Ss.piece l p k)).length + 12 := ⟨_, rfl⟩
        rw [← hF] at XB
        generalize Ss.lastOf (Ss.piece l p k) = x at *
        generalize Bk.blockB (Ss.piece l p k) = bb at *
        obtain ⟨XK, XV, XQ, XD⟩ := x
        simp only at EC XB hmay
        obtain ⟨Q, hQ⟩ := Int.eq_ofNat_of_zero_le (show 0 ≤ XQ by omega)
        subst hQ
        rw [Int.toNat_natCast] at XB
        generalize Ss.outB l p k = ok at *
        generalize Ss.ix l p k = xk at *
        have HF : Hid (F = bb.length + 12) := hF
        obtain ⟨fb, hfb⟩ : ∃ fb, fb = frm bb := ⟨_, rfl⟩
        have HFB : Hid (F = fb.length) := by show _ = _; rw [hfb, frm_length, hF]
        rw [← hfb] at OB
        have FR : Hid (∀ (base : Nat) (wx : World) (g cap : Nat), wx.ownsRow base 5 1 (.slice (some ⟨g, 0, none⟩) bb.length cap) bb.length (bc bb) → Calls Tryz.prog 32 #[.slice (some ⟨g, 0, none⟩) bb.length cap] wx fun e w' => ∃ g2 cap2, e = .returned (.slice (some ⟨g2, 0, none⟩) F cap2) ∧ Hid (Ext wx.heap.size wx (.slice none 0 0) w' (.slice (some ⟨g2, 0, none⟩) F cap2) fb)) := fun base wx g cap ho => by
          rw [hF, hfb]
          exact refFrame_any wx (some ⟨g, 0, none⟩) cap bb (bytes_of_own ho (by omega)) (fun e => by cases e) (by omega)
        have hF2 : F ≤ 330012 := by omega
        have hol2 : Hid (ok.length ≤ 330012000) := by show _ ≤ _; have := Nat.mul_le_mul_right 330012 (show k ≤ 1000 by omega); omega
        have hil2 : Hid (xk.length ≤ 600000) := by show _ ≤ _; omega
        have RM : Hid (ok.length + fb.length ≤ 140737488355328) := by show _ ≤ _; have := hol2.out; have := HFB.out; omega
        have F0 : Hid (0 < fb.length) := by show _ < _; have := HFB.out; omega
        have wM : IntKind.i64.wrap ((M : Int) - 1) = (m : Int) := by rw [IntKind.wrap_i64]; omega
        have mM : (m : Int) < (M : Int) := by omega
        have m0 : (0 : Int) ≤ (m : Int) := by omega
        have HMm : Hid (M = m + 1) := hm
        clear hF hfb hbl hol hil hm n1
        go_wp2_with (first
          | (go_at_call 31; refine (EN.out _ EW.out.below).mono ?_; rintro r w2 ⟨g2, cap2, rfl, o2, b2⟩; have R2 := hide (EW.out.later b2); clear EN EW b2)
          | (go_at_call 32; refine (FR.out _ _ _ _ o2).mono ?_; rintro r w3 ⟨g3, cap3, rfl, x3⟩; have R3 := hide (R2.out.later (below_of x3.out.grown)); clear FR R2 o2)
          | (at_builtin; refine wpList_append_bytes _ rfl _ _ rfl w.heap.size u10 ok fb rfl R3.out.out ⟨g3, 0, none⟩ F cap3 rfl HFB.out (own_cells (by have := x3.out.own; rw [← HFB.out] at this; exact this)) F0.out RM.out R3.out.below.size ?_; intro g4 cap4 L4 w4 HL4 x4 lt4; have R4 := hide (R3.out.putOut x4); have E4 := EC.out w4 R4.out.below; clear R3 x3 x4; obtain ⟨e0, e1, e2, e3⟩ := E4))
        obtain ⟨W, hW⟩ : ∃ W, W = w4.alloc (.cells #[str XK, str XV, .int .i64 (Q : Int), .bool XD] 42) := ⟨_, rfl⟩
        have aW : Below w4.heap.size w4 W := by rw [hW]; exact (Below.refl _ _).alloc (Nat.le_refl _) _
        have hWb : W.heap[w4.heap.size]? = some (.cells #[str XK, str XV, .int .i64 (Q : Int), .bool XD] 42) := by rw [hW]; exact World.alloc_heap_new _ _
        obtain ⟨X, hX⟩ : ∃ X, X = w4.heap.size := ⟨_, rfl⟩
        rw [← hX] at hWb
        rw [← hW, ← hX]
        have R5 := hide (R4.out.later aW)
        have KC : Hid (∀ B, Below W.heap.size W B → B.cell? ⟨X, 0, none⟩ = some (str XK) ∧ B.cell? ⟨X, 2, none⟩ = some (.int .i64 (Q : Int))) := fun B hB => by
          have hb := keepB hB hWb
          exact ⟨Joins.cell_of_block hb 0, Joins.cell_of_block hb 2⟩
        have ZW : Hid (w.heap.size ≤ W.heap.size) := R5.out.below.size
        have A1 : Hid (∀ wx, Below W.heap.size W wx → Calls Tryz.prog 33 #[u11, .int .u64 (F : Int)] wx fun r w' => ∃ g cap L, r = .returned (.slice (some ⟨g, 0, none⟩) L cap) ∧ Hid (L = (xk ++ Enc.leb F).length) ∧ Hid (Rb W.heap.size W w' (.slice (some ⟨g, 0, none⟩) L cap) (xk ++ Enc.leb F))) := fun wx hb => by
          have O := own_after R5.out.idx hb
          have hv : BytesIn wx u11 xk := bytes_of_own O (by have := hil2.out; omega)
          have key : ∀ a0 c0, u11 = .slice a0 xk.length c0 → (a0 = none → c0 = 0) → Calls Tryz.prog 33 #[u11, .int .u64 (F : Int)] wx fun r w' => ∃ g cap L, r = .returned (.slice (some ⟨g, 0, none⟩) L cap) ∧ Hid (L = (xk ++ Enc.leb F).length) ∧ Hid (Rb W.heap.size W w' (.slice (some ⟨g, 0, none⟩) L cap) (xk ++ Enc.leb F)) := by
            intro a0 c0 e h0
            rw [e] at hv ⊢
            refine (Enc.refAppend_any wx a0 c0 xk F hv h0 (by omega) (by have := hil2.out; omega)).mono ?_
            rintro r w' ⟨v', rfl, x1⟩
            obtain ⟨g, cap, rfl⟩ := x1.some (by
              intro e
              have h1 := congrArg List.length e
              have h2 := Enc.leb_pos F
              rw [List.length_append, List.length_nil] at h1
              omega)
            exact ⟨g, cap, _, rfl, rfl, own_base x1.own hb.size, hb.trans ((below_of x1.grown).mono hb.size), Nat.le_refl _⟩
          rcases O.2 with ⟨e, h0⟩ | ⟨g, cap, cur, e, _⟩
          · exact key none 0 (by rw [e, h0]) (fun _ => rfl)
          · exact key _ cap e (fun e => by cases e)
        have ne : ∀ (x : Nat) (q r : List UInt8), q ++ Enc.leb x ++ r ≠ [] := fun x q r e => by
          have h1 := congrArg List.length e
          have h2 := Enc.leb_pos x
          rw [List.length_append, List.length_append, List.length_nil] at h1
          omega
        have L1 := Enc.leb_len64 F (by omega)
        have L2 := Enc.leb_len64 XK.length (by omega)
        have A2 : Hid (∀ wx v, Rb W.heap.size W wx v (xk ++ Enc.leb F) → Calls Tryz.prog 33 #[v, .int .u64 (XK.length : Int)] wx fun r w' => ∃ g cap L, r = .returned (.slice (some ⟨g, 0, none⟩) L cap) ∧ Hid (L = (xk ++ Enc.leb F ++ Enc.leb XK.length).length) ∧ Hid (Rb W.heap.size W w' (.slice (some ⟨g, 0, none⟩) L cap) (xk ++ Enc.leb F ++ Enc.leb XK.length))) := fun wx v hr => rb_app XK.length hr (by omega) (by rw [List.length_append]; have := hil2.out; omega) (by have := ne F xk []; rwa [List.append_nil] at this)
        have A3 : Hid (∀ wx v, Rb W.heap.size W wx v (xk ++ Enc.leb F ++ Enc.leb XK.length ++ XK) → Calls Tryz.prog 33 #[v, .int .u64 (Q : Int)] wx fun r w' => ∃ g cap L, r = .returned (.slice (some ⟨g, 0, none⟩) L cap) ∧ Hid (L = (xk ++ Enc.leb F ++ Enc.leb XK.length ++ XK ++ Enc.leb Q).length) ∧ Hid (Rb W.heap.size W w' (.slice (some ⟨g, 0, none⟩) L cap) (xk ++ Enc.leb F ++ Enc.leb XK.length ++ XK ++ Enc.leb Q))) := fun wx v hr => rb_app Q hr (by omega) (by simp only [List.length_append]; have := hil2.out; omega) (ne _ _ _)
        have RS : Hid ((xk ++ Enc.leb F ++ Enc.leb XK.length).length + XK.length ≤ 140737488355328) := by show _ ≤ _; simp only [List.length_append]; have := hil2.out; omega
        have wF : IntKind.u64.wrap (F : Int) = (F : Int) := by rw [IntKind.wrap_u64]; omega
        have wK : IntKind.u64.wrap (XK.length : Int) = (XK.length : Int) := by rw [IntKind.wrap_u64]; omega
        have wQ : IntKind.u64.wrap (Q : Int) = (Q : Int) := by rw [IntKind.wrap_u64]; omega
        have KC0 := (KC.out W (Below.refl _ _)).1
        clear hW hX hWb R4 aW e0 e1 e2 e3 EC L1 L2 ne lt4
        go_region_held3 (fun wx => wx.cell? ⟨X, 0, none⟩ = some (str XK))
          (first | exact (KC.out _ E7.out.bel).1 | exact (KC.out _ E6.out.bel).1 | exact (KC.out _ (Below.refl _ _).drew).1 | exact KC0)
          (first
            | (go_at_call 33; refine (A2.out _ _ E6.out).mono ?_; rintro r w7 ⟨g7, cap7, L7, rfl, HL7, E7⟩)
            | (go_at_call 33; refine (A1.out _ (Below.refl _ _).drew).mono ?_; rintro r w6 ⟨g6, cap6, L6, rfl, HL6, E6⟩))
        clear A1 A2 E6
        go_wp2_with (fail)
        go_region_held3 (fun wx => wx.cell? ⟨X, 0, none⟩ = some (str XK) ∧ wx.cell? ⟨X, 2, none⟩ = some (.int .i64 (Q : Int)))
          (first | exact (KC.out _ E9.out.bel) | exact (KC.out _ E8.out.bel) | exact (KC.out _ E7.out.drew.bel))
          (first
            | (go_at_call 33; refine (A3.out _ _ E8.out).mono ?_; rintro r w9 ⟨g9, cap9, L9, rfl, HL9, E9⟩)
            | (refine step_app_str _ (by rfl) _ _ (by rfl) W.heap.size g7 cap7 _ XK L7 HL7.out rfl (rb_own HL7.out E7.out.drew) _ (by rfl) rfl RS.out E7.out.drew.size ?_; intro g8 cap8 L8 w8 HL8 o8 x8; have E8 : Hid _ := E7.out.drew.grown o8 x8))
        clear A3 E8 E7
        have R9b : Hid (R9 w w9 (.slice (some ⟨g4, 0, none⟩) L4 cap4) (.slice (some ⟨g9, 0, none⟩) L9 cap9) u12 (Ss.outB l p (k + 1)) (Ss.ix l p (k + 1)) ((Ss.keysB l).take (q + 0))) := by
          rw [XB.out, OB.out]
          have x9 := E9.out.own
          have hpt : xk ++ Enc.leb F ++ Enc.leb XK.length ++ XK ++ Enc.leb Q = xk ++ Ss.partB F XK Q := by unfold Ss.partB; simp only [List.append_assoc]
          rw [hpt] at x9
          exact R5.out.newIdx E9.out.bel x9
        have W14 : IntKind.i64.wrap ((k : Int) + 1) = (k : Int) + 1 := by rw [IntKind.wrap_i64]; omega
        have YE : Hid (((k + 1) * p : Nat) = q + p) := by show _ = _; rw [Nat.succ_mul, ← HQ.out]
        clear R5 KC KC0 E9 ZW HL9 HL4 XB OB wF wK wQ RS RM F0 hmay HFB hol2 hil2 HF
        obtain ⟨i0, hi, hz0, hz1, hz2⟩ := info_parts infoS
        go_wp2_with (fail)
        go_loopw [12, 20] (fun vk i wr => ∃ j : Nat, j ≤ M ∧ i = .int .i64 j ∧ R9 w wr (.slice (some ⟨g4, 0, none⟩) L4 cap4) (.slice (some ⟨g9, 0, none⟩) L9 cap9) vk (Ss.outB l p (k + 1)) (Ss.ix l p (k + 1)) ((Ss.keysB l).take (q + j))) (fun _ i _ => M - (intOf i).toNat)
        case atStart => exact ⟨0, Nat.zero_le _, rfl, R9b.out⟩
        case round =>
          obtain ⟨j3, hj3, rfl, RJ⟩ := hrel
          by_cases hlt3 : j3 < M
          · obtain ⟨K, TK, c0⟩ := KP.out j3 hlt3 wr RJ.below
            have KL : ((Ss.keysB l).take (q + j3)).length = q + j3 := by
              rw [List.length_take]
              unfold Ss.keysB
              rw [List.length_map, ← HN.out]
              have := HM.out
              omega
            have O : Hid (wr.ownsRow w.heap.size 9 1 u12 (q + j3) (((Ss.keysB l).take (q + j3)).map str)) := by
              have := RJ.keys
              rwa [KL] at this
            have q1 : (j3 : Int) < (M : Int) := by omega
            have q0 : (0 : Int) ≤ (j3 : Int) := by omega
            have wj : IntKind.i64.wrap ((j3 : Int) + 1) = (j3 : Int) + 1 := by rw [IntKind.wrap_i64]; omega
            have Z1 : Hid (q + j3 + 1 ≤ maxLen) := by show _ ≤ _; unfold maxLen; omega
            have Z2 : Hid ((q + j3 + 1) * 16 ≤ 140737488355328) := by show _ ≤ _; omega
            have CN : Hid (∀ W : World, ∀ B, B = W.heap.size → ∀ i u, ([str K] : List Value)[i]? = some u → (W.alloc (.cells #[str K] 9)).cell? ((⟨B, 0, none⟩ : Addr).add i) = some u) := by
              rintro W B rfl i u hu
              have hi0 : i = 0 := by
                rcases i with _ | i
                · rfl
                · simp at hu
              subst hi0
              have hadd : (⟨W.heap.size, 0, none⟩ : Addr).add 0 = ⟨W.heap.size, 0, none⟩ := by unfold Addr.add; split <;> simp_all
              rw [hadd]
              refine (Joins.cell_of_block (World.alloc_heap_new W _) 0).trans ?_
              rw [← hu]; rfl
            have HO : Hid (∀ u ∈ ([str K] : List Value), u.oneCell' = true) := fun u hu => by rw [List.mem_singleton.1 hu]; rfl
            have HR := hide RJ
            have zb : w.heap.size ≤ wr.heap.size := RJ.below.size
            have HTK := hide TK
            clear RJ TK KL
            go_wp2_with (first
              | (at_builtin; refine wpList_append_lies _ rfl _ _ 59 rfl w.heap.size 9 i0 _ 1 16 Tryz.underlying59 hi hz0 hz1 hz2 rfl (by decide) _ (q + j3) _ rfl (O.out.alloc _) ⟨wr.heap.size, 0, none⟩ 1 1 [str K] rfl rfl (CN.out _ _ rfl) HO.out (by decide) Z1.out Z2.out (by simp; omega) _ rfl ?_; intro g10 cap10 w10 o10 h10 l10 lt10))
            refine ⟨⟨j3 + 1, by omega, rfl, ?_⟩, by simp [intOf]; omega⟩
            have e1 : ((Ss.keysB l).take (q + (j3 + 1))).length = q + j3 + 1 := by
              rw [List.length_take]
              unfold Ss.keysB
              rw [List.length_map, ← HN.out]
              have := HM.out
              omega
            refine (HR.out.later ((Below.refl _ _).alloc (Nat.le_refl _) _)).putKeys ?_ h10 (l10.elim (fun e => .inl e.symm) (fun e => .inr ⟨g10, rfl, Nat.le_of_eq e.symm⟩))
            rw [e1, HTK.out, List.map_append]
            exact o10
          · have e : j3 = M := by omega
            subst e
            have q1 : ¬ (j3 : Int) < (j3 : Int) := by omega
            have RJ' : Hid (R9 w wr (.slice (some ⟨g4, 0, none⟩) L4 cap4) (.slice (some ⟨g9, 0, none⟩) L9 cap9) u12 (Ss.outB l p (k + 1)) (Ss.ix l p (k + 1)) ((Ss.keysB l).take ((k + 1) * p))) := by rw [← KE.out]; exact RJ
            clear RJ KP R9b
            go_wp2_with (fail)
            exact ⟨⟨k + 1, hkN, rfl, by rw [YE.out]; simp, RJ'.out⟩, by simp [intOf]; omega⟩
      · have e : k = N := by omega
        subst e
        have hq0 : n ≤ k * p := by
          rw [HN.out]
          refine Nat.le_of_not_lt (fun hx => ?_)
          have := cnt_of (show 1 ≤ p by omega) hx
          have := HNN.out
          omega
        have tk : (Ss.keysB l).take (k * p) = Ss.keysB l := List.take_of_length_le (by unfold Ss.keysB; rw [List.length_map, ← HN.out]; exact hq0)
        rw [tk] at R
        obtain ⟨q, hq⟩ : ∃ q, q = k * p := ⟨_, rfl⟩
        have q1 : ¬ (q : Int) < (n : Int) := by rw [hq]; omega
        rw [← hq]
        have hol := Ss.outB_len HC.out k (by rw [HNN.out]; exact Nat.le_refl _)
        have hil := Ss.ix_len HC.out k (by rw [HNN.out]; exact Nat.le_refl _)
        have hk1 : 1 ≤ k := by
          have := HNN.out
          have : 0 < Ss.cnt l p := cnt_of (show 1 ≤ p by omega) (by omega)
          omega
        have hfl := Bm.filt_length (Ss.keysB l) d
        have hkl : (Ss.keysB l).length = n := by unfold Ss.keysB; rw [List.length_map, ← HN.out]
        have hpr : n * d ≤ 1000 * 16 := Nat.mul_le_mul hl (by omega)
        rw [hkl] at hfl
        unfold Bm.bytes at hfl
        obtain ⟨ft, hft⟩ : ∃ ft, ft = Bm.filt (Ss.keysB l) d := ⟨_, rfl⟩
        rw [← hft] at hfl
        have ft1 : 1 ≤ ft.length ∧ ft.length ≤ 10000 := by omega
        have HB : Hid (Ss.buildB l p d = (Ss.outB l p k ++ frm ft ++ frm (Enc.leb k ++ Ss.ix l p k)) ++ frm (rec3 (Ss.outB l p k).length (Ss.outB l p k ++ frm ft).length n)) := by
          show _ = _
          unfold Ss.buildB Ss.b3 Ss.b2 Ss.b1
          rw [Ss.idxB_ix, ← HNN.out, ← HN.out, hft]
        obtain ⟨FL, hFL⟩ : ∃ FL, FL = ft.length := ⟨_, rfl⟩
        have HFL : Hid (FL = ft.length) := hFL
        have OF : Hid (Calls Tryz.prog 34 #[u12, .int .i64 (d : Int)] wr fun e w' => ∃ b o cp, e = .returned (.tuple #[.slice (some ⟨b, o, none⟩) FL cp, .int .i64 0]) ∧ BytesIn w' (.slice (some ⟨b, o, none⟩) FL cp) ft ∧ Below wr.heap.size wr w') := by
          have := rof_ok wr u12 _ d (own_textsR R.keys) (by rw [List.length_map, hkl]; omega) (fun s hs => by
            obtain ⟨x, hx, rfl⟩ := List.mem_map.1 hs
            unfold Ss.keysB at hx
            obtain ⟨e, he, rfl⟩ := List.mem_map.1 hx
            have hall := (Ss.check_parts HC.out).2.2.2.1
            have := (Bk.may_parts (List.all_eq_true.1 hall e he)).2.2.2.1
            show e.key.toArray.size ≤ _
            rw [List.size_toArray]
            omega) (by omega) (by omega)
          rw [keysOf_back, ← hft] at this
          refine this.mono ?_
          rintro e w' ⟨v', rfl, hb, b⟩
          obtain ⟨⟨a0, cp, e, hf⟩, _⟩ := id hb
          obtain ⟨b0, o0, rfl, _⟩ := hf (by intro e; rw [e] at ft1; simp at ft1)
          subst e
          rw [← hFL] at hb
          exact ⟨b0, o0, cp, by rw [hFL], hb, b⟩
        have hne : Ss.outB l p k ≠ [] := by
          obtain ⟨k', rfl⟩ : ∃ k', k = k' + 1 := ⟨k - 1, by omega⟩
          intro e
          have := congrArg List.length e
          show False
          unfold Ss.outB at this
          rw [List.length_append, frm_length, List.length_nil] at this
          omega
        obtain ⟨go, co, ho⟩ := own_some R.out hne
        have hol2 : (Ss.outB l p k).length ≤ 330012000 := by have := Nat.mul_le_mul_right 330012 (show k ≤ 1000 by omega); omega
        have hil2 : (Ss.ix l p k).length ≤ 600000 := by omega
        obtain ⟨ia, ic, hia, hin⟩ : ∃ ia ic, u11 = .slice ia (Ss.ix l p k).length ic ∧ (ia = none → ic = 0) := by
          rcases R.idx.2 with ⟨e, h0⟩ | ⟨g, cap, cur, e, _⟩
          · exact ⟨none, 0, by rw [e, h0], fun _ => rfl⟩
          · exact ⟨_, cap, e, fun e => by cases e⟩
        subst ho hia
        have I0 : Hid (BytesIn wr (.slice ia (Ss.ix l p k).length ic) (Ss.ix l p k)) := bytes_of_own R.idx (by omega)
        have R0 : Hid (Rb w.heap.size w wr (.slice (some ⟨go, 0, none⟩) (Ss.outB l p k).length co) (Ss.outB l p k)) := ⟨R.out, R.below, Nat.le_refl _⟩
        generalize Ss.outB l p k = o at *
        generalize Ss.ix l p k = xk at *
        obtain ⟨OL, hOL⟩ : ∃ OL, OL = o.length := ⟨_, rfl⟩
        obtain ⟨XL, hXL⟩ : ∃ XL, XL = xk.length := ⟨_, rfl⟩
        rw [← hOL] at HB R0 ⊢
        rw [← hXL] at I0 ⊢
        have HOL := hide hOL
        have HXL := hide hXL
        have O2 := hide hol2
        have X2 := hide hil2
        have lk := Enc.leb_len64 k (by omega)
        have lk2 : Hid ((Enc.leb k).length ≤ 10) := lk
        have wk : IntKind.u64.wrap (k : Int) = (k : Int) := by rw [IntKind.wrap_u64]; omega
        have f1 : ¬ (FL : Int) > 1048576 := by omega
        have f1b : ((FL : Int) > 1048576) = False := by simp; omega
        have FT := hide ft1
        have NB : Hid (∀ wx, Calls Tryz.prog 35 #[.int .u64 (k : Int)] wx fun r w' => ∃ g cap L, r = .returned (.slice (some ⟨g, 0, none⟩) L cap) ∧ Hid (L = (Enc.leb k).length) ∧ Hid (Ext wx.heap.size wx (.slice none 0 0) w' (.slice (some ⟨g, 0, none⟩) L cap) (Enc.leb k))) := fun wx => by
          refine (Enc.refBytes_any k k wx (Nat.le_refl _) (by omega)).mono ?_
          rintro e w' ⟨v', rfl, x⟩
          obtain ⟨g, cap, rfl⟩ := x.some (by intro e; have := congrArg List.length e; have := Enc.leb_pos k; rw [List.length_nil] at *; omega)
          exact ⟨g, cap, _, rfl, rfl, x⟩
        have FRM : Hid (∀ (r : List UInt8) (RL : Nat) (wx : World) (a1 : Option Addr) (c1 : Nat), RL = r.length → BytesIn wx (.slice a1 RL c1) r → (a1 = none → c1 = 0) → r.length ≤ 1048576 → Calls Tryz.prog 32 #[.slice a1 RL c1] wx fun e w' => ∃ g cap L, e = .returned (.slice (some ⟨g, 0, none⟩) L cap) ∧ Hid (L = (frm r).length) ∧ Hid (Ext wx.heap.size wx (.slice none 0 0) w' (.slice (some ⟨g, 0, none⟩) L cap) (frm r))) := fun r RL wx a1 c1 e hb hn hr => by
          subst e
          refine (refFrame_any wx a1 c1 r hb hn hr).mono ?_
          rintro e w' ⟨g, cap, rfl, x⟩
          exact ⟨g, cap, _, rfl, (frm_length r).symm, x⟩
        have FP : Hid (∀ r : List UInt8, 0 < (frm r).length) := fun r => by rw [frm_length]; omega
        have FM : Hid (∀ r : List UInt8, (frm r).length = r.length + 12) := frm_length
        clear R hq hq0 BW1 H hOL hXL hFL hol hil hol2 hil2 lk ft1 hfl hft hne hkl
        have rm2 : Hid ((Enc.leb k).length + xk.length ≤ 140737488355328) := by show _ ≤ _; have := lk2.out; have := X2.out; omega
        have rm4 : Hid (o.length + (frm ft).length ≤ 140737488355328) := by show _ ≤ _; rw [frm_length]; have := O2.out; have := FT.out; omega
        have ftr : Hid (ft.length ≤ 1048576) := by show _ ≤ _; have := FT.out; omega
        have xr : Hid ((Enc.leb k ++ xk).length ≤ 1048576) := by show _ ≤ _; rw [List.length_append]; have := lk2.out; have := X2.out; omega
        have rm5 : Hid ((o ++ frm ft).length + (frm (Enc.leb k ++ xk)).length ≤ 140737488355328) := by show _ ≤ _; rw [List.length_append, frm_length, frm_length]; have := O2.out; have := FT.out; have := xr.out; omega
        have rm6 : Hid (∀ r : List UInt8, r.length = 24 → (o ++ frm ft ++ frm (Enc.leb k ++ xk)).length + (frm r).length ≤ 140737488355328) := fun r hr => by
          rw [List.length_append, List.length_append, frm_length, frm_length, frm_length]; have := O2.out; have := FT.out; have := xr.out; omega
        go_wp2_with (go_at_call 34; refine OF.out.mono ?_; rintro r w1 ⟨fb, fo, fc, rfl, F1, b1⟩; have R1 := hide (R0.out.later b1); have I1 := hide (I0.out.later b1); have FF1 := hide F1; clear OF R0 I0 F1)
        clear b1
        go_wp2_with (first
          | (at_builtin; refine wpList_app_bytes _ rfl _ _ rfl w1.heap.size g2 c2 (Enc.leb k) xk L2 XL ic HL2.out HXL.out rfl (rb_own HL2.out P2.out) ia rfl I2.out hin rm2.out P2.out.size ?_; intro g3 c3 L3 w3 HL3 x3; have P3 : Hid (Rb w1.heap.size w1 w3 _ (Enc.leb k ++ xk)) := P2.out.grown x3.own x3.grown; have f2 : ¬ (L3 : Int) > 1048576 := (by have h1 := HL3.out; have h2 := xr.out; omega); clear x3)
          | (go_at_call 35; refine (NB.out _).mono ?_; rintro r w2 ⟨g2, c2, L2, rfl, HL2, x2⟩; have I2 := hide (I1.out.later (below_of x2.out.grown)); have P2 : Hid (Rb w1.heap.size w1 w2 (.slice (some ⟨g2, 0, none⟩) L2 c2) (Enc.leb k)) := ⟨x2.out.own, below_of x2.out.grown, Nat.le_refl _⟩; clear NB x2))
        have hgo : Hid (go < w1.heap.size) := (R1.out.own.lt go rfl).2
        have R3 := hide (R1.out.later P3.out.bel)
        have FF3 := hide (FF1.out.later P3.out.bel)
        clear R1 FF1 P2 I2 I1
        go_wp2_with (first
          | (at_builtin; refine wpList_append_bytes _ rfl _ _ rfl w.heap.size _ o (frm ft) rfl R4.out.own ⟨g4, 0, none⟩ L4 c4 rfl HL4.out (own_cells (rb_own HL4.out P4.out)) (FP.out _) rm4.out R4.out.size ?_; intro g5 c5 L5 w5 HL5 x5 lt5; have R5 : Hid (Rb w.heap.size w w5 (.slice (some ⟨g5, 0, none⟩) L5 c5) (o ++ frm ft)) := R4.out.grown x5.own x5.grown; have x5' := hide x5; clear x5)
          | (go_at_call 32; refine (FRM.out ft FL _ _ _ HFL.out FF3.out (fun e => by cases e) ftr.out).mono ?_; rintro r w4 ⟨g4, c4, L4, rfl, HL4, x4⟩; have R4 := hide (R3.out.later (below_of x4.out.grown)); have I4 := hide (P3.out.later (below_of x4.out.grown)); have P4 : Hid (Rb w3.heap.size w3 w4 (.slice (some ⟨g4, 0, none⟩) L4 c4) (frm ft)) := ⟨x4.out.own, below_of x4.out.grown, Nat.le_refl _⟩; clear x4 R3 FF3))
        have I5 : Hid (BytesIn w5 (.slice (some ⟨g3, 0, none⟩) L3 c3) (Enc.leb k ++ xk)) := by
          refine bytes_of_own (own_far I4.out.own x5'.out.grown (fun i hi e => ?_)) (by have := xr.out; omega)
          have h1 := (I4.out.own.lt i hi).1
          have h2 := hgo.out
          have e1 : g3 = i := Option.some.inj hi
          have e2 : go = i := Option.some.inj e
          omega
        clear x5' I4 P4 P3 R4 hgo lt5 HL4
        go_wp2_with (first
          | (at_builtin; refine wpList_append_bytes _ rfl _ _ rfl w.heap.size _ (o ++ frm ft) (frm (Enc.leb k ++ xk)) rfl R6.out.own ⟨g6, 0, none⟩ L6 c6 rfl HL6.out (own_cells (rb_own HL6.out P6.out)) (FP.out _) rm5.out R6.out.size ?_; intro g7 c7 L7 w7 HL7 x7 lt7; have R7 : Hid (Rb w.heap.size w w7 (.slice (some ⟨g7, 0, none⟩) L7 c7) (o ++ frm ft ++ frm (Enc.leb k ++ xk))) := R6.out.grown x7.own x7.grown; clear x7)
          | (go_at_call 32; refine (FRM.out (Enc.leb k ++ xk) L3 _ _ _ HL3.out I5.out (fun e => by cases e) xr.out).mono ?_; rintro r w6 ⟨g6, c6, L6, rfl, HL6, x6⟩; have R6 := hide (R5.out.later (below_of x6.out.grown)); have P6 : Hid (Rb w5.heap.size w5 w6 (.slice (some ⟨g6, 0, none⟩) L6 c6) (frm (Enc.leb k ++ xk))) := ⟨x6.out.own, below_of x6.out.grown, Nat.le_refl _⟩; clear x6 R5 I5))
        clear R6 P6 HL6 lt7 HL3
        have E8 : Hid (∀ wx y, Calls Tryz.prog 36 #[.int .i64 (y : Nat)] wx fun e w' => ∃ g cap, e = .returned (.slice (some ⟨g, 0, none⟩) 8 cap) ∧ Hid (Rb wx.heap.size wx w' (.slice (some ⟨g, 0, none⟩) 8 cap) (Ss.le8 y))) := fun wx y => by
          refine (reight_any wx y).mono ?_
          rintro e w' ⟨g, cap, rfl, ho, hb⟩
          refine ⟨g, cap, rfl, ?_, hb, Nat.le_refl _⟩
          rw [Ss.le8_length]
          exact ho.out
        have T1 : Hid True := trivial
        have T2 : Hid True := trivial
        have Q8 : Hid (∀ y, 8 = (Ss.le8 y).length) := fun y => (Ss.le8_length y).symm
        have r8 : Hid (∀ x y : Nat, (Ss.le8 x).length + (Ss.le8 y).length ≤ 140737488355328) := fun x y => by rw [Ss.le8_length, Ss.le8_length]; omega
        have r9 : Hid (∀ x y z : Nat, (Ss.le8 x ++ Ss.le8 y).length + (Ss.le8 z).length ≤ 140737488355328) := fun x y z => by rw [List.length_append, Ss.le8_length, Ss.le8_length, Ss.le8_length]; omega
        go_wp2_with (go_at_call 36; have ta := T1.out; refine (E8.out _ OL).mono ?_; rintro r w8 ⟨g8, c8, rfl, P8⟩; clear T1 ta)
        go_wp2_with (first
          | (at_builtin; refine wpList_app_bytes _ rfl _ _ rfl w7.heap.size g8 c8 (Ss.le8 OL) (Ss.le8 L5) 8 8 c9 (Q8.out _) (Q8.out _) rfl (rb_own (Q8.out _) P8b.out) (some ⟨g9, 0, none⟩) rfl (bytes_of_own P9.out.own (by rw [Ss.le8_length]; omega)) (fun e => by cases e) (r8.out _ _) P8b.out.size ?_; intro g10 c10 L10 w10 HL10 x10; have P10 : Hid (Rb w7.heap.size w7 w10 (.slice (some ⟨g10, 0, none⟩) L10 c10) (Ss.le8 OL ++ Ss.le8 L5)) := P8b.out.grown x10.own x10.grown; clear x10)
          | (go_at_call 36; have ta := T2.out; refine (E8.out _ L5).mono ?_; rintro r w9 ⟨g9, c9, rfl, P9⟩; have P8b := hide (P8.out.later P9.out.bel); clear T2 ta))
        clear P8 P8b P9
        go_wp2_with (first
          | (at_builtin; refine wpList_app_bytes _ rfl _ _ rfl w7.heap.size g10 c10 (Ss.le8 OL ++ Ss.le8 L5) (Ss.le8 n) L10 8 c11 HL10.out (Q8.out _) rfl (rb_own HL10.out P10b.out) (some ⟨g11, 0, none⟩) rfl (bytes_of_own P11.out.own (by rw [Ss.le8_length]; omega)) (fun e => by cases e) (r9.out _ _ _) P10b.out.size ?_; intro g12 c12 L12 w12 HL12 x12; have P12 : Hid (Rb w7.heap.size w7 w12 (.slice (some ⟨g12, 0, none⟩) L12 c12) (Ss.le8 OL ++ Ss.le8 L5 ++ Ss.le8 n)) := P10b.out.grown x12.own x12.grown; clear x12)
          | (go_at_call 36; refine (E8.out _ n).mono ?_; rintro r w11 ⟨g11, c11, rfl, P11⟩; have P10b := hide (P10.out.later P11.out.bel)))
        clear P10 P10b P11 HL10
        have ER : Hid (Ss.le8 OL ++ Ss.le8 L5 ++ Ss.le8 n = rec3 OL L5 n) := by show _ = _; unfold rec3; rw [List.append_assoc]
        have RL : Hid ((rec3 OL L5 n).length = 24) := rec3_length _ _ _
        rw [ER.out] at P12 HL12
        have R12 := hide (R7.out.later P12.out.bel)
        clear R7
        go_wp2_with (first
          | (at_builtin; refine wpList_append_bytes _ rfl _ _ rfl w.heap.size _ (o ++ frm ft ++ frm (Enc.leb k ++ xk)) (frm (rec3 OL L5 n)) rfl R13.out.own ⟨g13, 0, none⟩ L13 c13 rfl HL13.out (own_cells (rb_own HL13.out P13.out)) (FP.out _) (rm6.out _ RL.out) R13.out.size ?_; intro g14 c14 L14 w14 HL14 x14 lt14; have R14 : Hid (Rb w.heap.size w w14 (.slice (some ⟨g14, 0, none⟩) L14 c14) (o ++ frm ft ++ frm (Enc.leb k ++ xk) ++ frm (rec3 OL L5 n))) := R13.out.grown x14.own x14.grown; clear x14)
          | (go_at_call 32; refine (FRM.out (rec3 OL L5 n) L12 _ _ _ HL12.out (bytes_of_own P12.out.own (by rw [RL.out]; omega)) (fun e => by cases e) (by rw [RL.out]; omega)).mono ?_; rintro r w13 ⟨g13, c13, L13, rfl, HL13, x13⟩; have R13 := hide (R12.out.later (below_of x13.out.grown)); have P13 : Hid (Rb w12.heap.size w12 w13 (.slice (some ⟨g13, 0, none⟩) L13 c13) (frm (rec3 OL L5 n))) := ⟨x13.out.own, below_of x13.out.grown, Nat.le_refl _⟩; clear x13 R12))
        go_ret2
        refine ⟨_, rfl, ?_, R14.out.bel⟩
        rw [HB.out, ← HL5.out]
        exact R14.out.own
end Go.Proofs.YtolalicliojkfaaGreat
