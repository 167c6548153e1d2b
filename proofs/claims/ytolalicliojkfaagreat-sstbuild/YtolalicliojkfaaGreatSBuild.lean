/-
  Build: what the call answers, of entries that make a table.
-/
import Derived.Test.YtolalicliojkfaaGreatSP
namespace Go.Proofs.YtolalicliojkfaaGreat
open Go.RowKit

theorem leaves_two {A : World} {D n : Nat} {fn : Func} {tmps : Array Value} {v : Value} {R : Ending → World → Prop} (h1 : A.heap[D]? = some (.deferred (some []))) (hr : (results fn tmps).run Tryz.prog (A.putObj D (.deferred none)) = .ok v (A.putObj D (.deferred none))) (hR : R (.returned v) (A.putObj D (.deferred none))) :
    bodyPostM Fence.wide n Tryz.prog fn R .ret { tmps := tmps, defers := [{ target := .collected D, args := #[] }] } A :=
  ⟨by simp, .inl ⟨_, _, rfl, run_takeDeferred h1, v, hr, hR⟩⟩

abbrev fO (F X N : Int) : Obj := .cells #[.int .u64 F, .int .u64 X, .int .u64 N] 57 (0, 0)
/-- What Build has behind its pieces. -/
structure TlV (w0 W A : World) (Wb Ib gi Fb : Nat) (vo vi : Value) (o x : List UInt8) (F X N : Int) : Prop where
  bu : BuV w0 A W.heap.size Wb Ib gi vo vi o x
  kb : Kb (bS Wb Ib gi) W.heap.size W A
  df : A.heap[W.heap.size]? = some (.deferred (some []))
  ft : A.heap[Fb]? = some (fO F X N)
  hi : W.heap.size + 1 < Fb
  off : ∀ i, vo.ownBlock = some i → i ≠ Fb
  offX : ∀ i, vi.ownBlock = some i → i ≠ Fb
theorem TlV.later {w0 W A B : World} {Wb Ib gi Fb : Nat} {vo vi : Value} {o x : List UInt8} {F X N : Int} (h : TlV w0 W A Wb Ib gi Fb vo vi o x F X N) (b : Below A.heap.size A B) : TlV w0 W B Wb Ib gi Fb vo vi o x F X N :=
  ⟨h.bu.later b, h.kb.trans (Kb.later h.kb.size b), keepB b h.df, keepB b h.ft, h.hi, h.off, h.offX⟩
theorem TlV.put {w0 W A B : World} {Wb Ib gi Fb : Nat} {vo vi : Value} {o x q : List UInt8} {F X N : Int} (h : TlV w0 W A Wb Ib gi Fb vo vi o x F X N) (p : PutAns A w0.heap.size Wb vo q B) : ∃ vo', TlV w0 W B Wb Ib gi Fb vo' vi q x F X N := by
  have lF := (Array.getElem?_eq_some_iff.1 h.ft).1
  have hhi := h.hi
  obtain ⟨vo1, p1, p2, p3, p4⟩ := p
  obtain ⟨⟨n1, n2, n3⟩, _⟩ := h.bu.nums
  have fB : B.heap[Fb]? = some (fO F X N) := (p3.block Fb lF (fun e => by rcases e with e | e; omega; exact h.off Fb e rfl)).trans h.ft
  obtain ⟨vo', v1, v2, v3, v4⟩ := h.bu.put (by omega) ⟨vo1, p1, p2, p3, p4⟩
  have e1 : vo' = vo1 := by
    have := v1.wr
    rw [p1] at this
    have := (Obj.cells.inj (Option.some.inj this)).1
    simp at this
    exact this.symm
  subst e1
  refine ⟨vo', v1, h.kb.trans v2, v3.trans h.df, fB, hhi, fun i hi => ?_, h.offX⟩
  rcases p4 with e | ⟨g, e, hg⟩
  · rw [e] at hi; exact h.off i hi
  · rw [e] at hi; cases hi; omega
theorem TlV.set {w0 W A : World} {Wb Ib gi Fb : Nat} {vo vi : Value} {o x : List UInt8} {F X N : Int} (h : TlV w0 W A Wb Ib gi Fb vo vi o x F X N) (Y : Int) : TlV w0 W (A.setCell ⟨Fb, 1, none⟩ (.int .u64 Y)) Wb Ib gi Fb vo vi o x F Y N := by
  have hhi := h.hi
  obtain ⟨⟨n1, n2, n3⟩, _⟩ := h.bu.nums
  have st : ∀ i, i ≠ Fb → (A.setCell ⟨Fb, 1, none⟩ (.int .u64 Y)).heap[i]? = A.heap[i]? := fun i hi => Below.heap_setCell _ _ _ _ hi
  exact ⟨⟨(st _ (by omega)).trans h.bu.wr, (st _ (by omega)).trans h.bu.ix, own_kept h.bu.ownO (fun i hi => st i (h.off i hi)), own_kept h.bu.ownX (fun i hi => st i (h.offX i hi)), h.bu.offO, h.bu.offX, h.bu.apart, h.bu.nums⟩,
    ⟨h.kb.os, h.kb.tape, h.kb.output, Nat.le_trans h.kb.size (by simp [World.setCell]), fun i h1 h2 => (st i (by omega)).trans (h.kb.block i h1 h2)⟩, (st _ (by omega)).trans h.df, (Joins.block_setCell h.ft _).trans rfl, h.hi, h.off, h.offX⟩

set_option maxRecDepth 100000 in
set_option maxHeartbeats 1000000 in
theorem sbuild_bad (w : World) (a : Option Addr) (c n : Nat) (l : List Mm.Ent) (h : EntsAt w (.slice a n c) l) (hn : n = l.length) (hl : n ≤ 1000000) (hk : ∀ x ∈ l, x.key.length ≤ 1000000 ∧ x.value.length ≤ 1000000) (per bits : Int) (hc : Ss.checkE l per bits ≠ 0) :
    Calls Tryz.prog 7 #[.slice a n c, .int .i64 per, .int .i64 bits] w fun e w' => e = .returned (.tuple #[.slice none 0 0, .int .i64 (Ss.checkE l per bits)]) ∧ Below w.heap.size w w' := by
  have CK := scheck_any w a c n l h hn hl hk per bits
  have hq : (Ss.checkE l per bits != 0) = true := by simpa using hc
  generalize Ss.checkE l per bits = E at *
  clear h hk hc hn hl
  go_enter Tryz.func7, Tryz.ntmps7
  go_wp2_with (first
    | (go_at_call 19; refine CK.mono ?_; rintro r w8 ⟨rfl, b8⟩))
  go_ret2
  exact ⟨rfl, b8⟩

attribute [local go_sem] Oper.semAt_some

set_option maxRecDepth 100000 in
set_option maxHeartbeats 8000000 in
theorem sbuild_ok (w : World) (a : Option Addr) (c n : Nat) (l : List Mm.Ent) (h : EntsAt w (.slice a n c) l) (hn : n = l.length) (hcap : n ≤ c) (hl : n ≤ 1000) (hk : ∀ x ∈ l, x.key.length ≤ 1000000 ∧ x.value.length ≤ 1000000) (p d : Nat) (hc : Ss.checkE l p d = 0) :
    Calls Tryz.prog 7 #[.slice a n c, .int .i64 (p : Int), .int .i64 (d : Int)] w fun e w' => ∃ v, e = .returned (.tuple #[v, .int .i64 0]) ∧ w'.ownsRow w.heap.size 5 1 v (Ss.buildB l p d).length (bc (Ss.buildB l p d)) ∧ Below w.heap.size w w' := by
  have CK := scheck_any w a c n l h hn (by omega) hk p d
  rw [hc] at CK
  have hp1 : 1 ≤ p ∧ p ≤ 64 ∧ 1 ≤ d ∧ d ≤ 16 ∧ 1 ≤ n := by
    unfold Ss.checkE at hc
    by_cases hs : Ss.shapeOk l p d = false
    · rw [if_pos hs] at hc; cases hc
    · have hs' : Ss.shapeOk l p d = true := by simpa using hs
      unfold Ss.shapeOk at hs'
      simp only [Bool.and_eq_true, decide_eq_true_eq] at hs'
      omega
  obtain ⟨hp1, hp2, hd1, hd2, hn1⟩ := hp1
  obtain ⟨eb, off, rfl⟩ := h.some (by omega)
  have H := hide h
  have HN := hide hn
  have HC := hide hc
  have DV : Hid ((((n + p - 1) / p : Nat) : Int) = ((n : Int) + (p : Int) - 1).tdiv (p : Int)) := by
    show _ = _
    rw [show ((n : Int) + (p : Int) - 1) = ((n + p - 1 : Nat) : Int) by omega]
    exact (Int.ofNat_tdiv _ _).symm
  have hcn : (n + p - 1) / p ≤ 1000 := by
    have : (n + p - 1) / p ≤ n := by
      rw [Nat.div_le_iff_le_mul_add_pred (by omega)]
      have := Nat.mul_le_mul_right n hp1
      omega
    omega
  have q1 : ¬ (p : Int) = 0 := by omega
  have q2 : ((p : Int) == 0) = false := by simp; omega
  have q3 : ¬ (p : Int) = -1 := by omega
  have dv := DV.out.symm
  obtain ⟨N, hN⟩ : ∃ N, N = (n + p - 1) / p := ⟨_, rfl⟩
  rw [← hN] at dv hcn
  have wq : IntKind.i64.wrap (N : Int) = (N : Int) := by rw [IntKind.wrap_i64]; omega
  have HNN := hide hN
  clear h hk DV hn hN hc
  refine (callsIn_wide (n := 5)).1 ?_
  refine callsIn_of_wp_marks Tryz.func7 rfl trivial ?_ rfl
  simp only [Tryz.ntmps7, List.size_toArray, List.length_cons, List.length_nil, Nat.reduceAdd, Nat.reduceSub, Array.replicate_succ, Array.replicate_zero, List.push_toArray, List.append_toArray, List.nil_append, List.cons_append]
  rw [wpIn_wide]
  go_wp2_with (first
    | (go_at_call 19; refine CK.mono ?_; rintro r w1 ⟨rfl, b1⟩; clear CK))
  obtain ⟨W1, hW1⟩ : ∃ W1, W1 = w1.alloc (.cells #[.slice none 0 0, .int .i64 0] 47) := ⟨_, rfl⟩
  have a1 : Below w.heap.size w W1 := by rw [hW1]; exact b1.alloc b1.size _
  have P1 : W1.heap[w1.heap.size]? = some (wrO (.slice none 0 0)) := by rw [hW1]; exact World.alloc_heap_new w1 _
  have z1 : W1.heap.size = w1.heap.size + 1 := by rw [hW1]; simp
  have SN := snum_any W1 w.heap.size (.slice none 0 0) [] N (by omega) (World.ownsRow_nil _ _ _ _) a1.size (by simp)
  rw [← hW1]
  refine SN.mono ?_
  rintro e w2 ⟨vi, rfl, x2⟩
  rw [List.nil_append] at x2
  obtain ⟨gi, icap, rfl⟩ := x2.some (by have := Enc.leb_pos N; intro e; rw [e] at this; simp at this)
  have b2 := below_of x2.grown
  have P2 := keepB b2 P1
  have gil : W1.heap.size ≤ gi := by
    rcases x2.lies with e | ⟨g, e, hg⟩
    · cases e
    · cases e; exact hg
  have gi2 := (x2.own.lt gi rfl).2
  have B2 := a1.trans (b2.mono a1.size)
  have X2 := hide x2.own
  have zW := b1.size
  clear SN x2 hW1
  go_wp2_with (fail)
  obtain ⟨W3, hW3⟩ : ∃ W3, W3 = w2.alloc (ixO (.slice (some ⟨gi, 0, none⟩) (Enc.leb N).length icap)) := ⟨_, rfl⟩
  have a3 : Below w2.heap.size w2 W3 := by rw [hW3]; exact (Below.refl _ _).alloc (Nat.le_refl _) _
  have P3 : W3.heap[w2.heap.size]? = some (ixO (.slice (some ⟨gi, 0, none⟩) (Enc.leb N).length icap)) := by rw [hW3]; exact World.alloc_heap_new w2 _
  have z3 : W3.heap.size = w2.heap.size + 1 := by rw [hW3]; simp
  have CH := chunk_any W3 (some ⟨eb, off, none⟩) n c p hp1 hp2
  rw [← hW3]
  refine CH.mono ?_
  rintro e W ⟨rfl, hW⟩
  have aW : Below W3.heap.size W3 W := by rw [hW]; exact ((Below.refl _ _).alloc (Nat.le_refl _) _).alloc (by simp) _
  have zZ : W.heap.size = w2.heap.size + 3 := by rw [hW]; simp; omega
  have cB1 : W.cell? ⟨W3.heap.size, 0, none⟩ = some (.slice (some ⟨eb, off, none⟩) n c) := by
    rw [hW]
    exact Joins.cell_of_block ((Below.heap_alloc _ _ _ (by simp)).trans (World.alloc_heap_new W3 _)) 0
  have cB2 : W.cell? ⟨W3.heap.size + 1, 0, none⟩ = some (.int .i64 (p : Int)) := by
    rw [hW]
    have := World.alloc_heap_new (W3.alloc (.cells #[.slice (some ⟨eb, off, none⟩) n c] 22)) (.cells #[.int .i64 (p : Int)] 3)
    rw [World.size_alloc] at this
    exact Joins.cell_of_block this 0
  have bW2 : Below w2.heap.size w2 W := a3.trans (aW.mono a3.size)
  have BW : Below w.heap.size w W := B2.trans (bW2.mono B2.size)
  obtain ⟨Wb, hWb⟩ : ∃ Wb, Wb = w1.heap.size := ⟨_, rfl⟩
  obtain ⟨Ib, hIb⟩ : ∃ Ib, Ib = w2.heap.size := ⟨_, rfl⟩
  have bz2 := b2.size
  have V0 : BuV w W W.heap.size Wb Ib gi (.slice none 0 0) (.slice (some ⟨gi, 0, none⟩) (Enc.leb N).length icap) [] (Enc.leb N) :=
    ⟨by rw [hWb]; exact keepB bW2 P2, by rw [hIb]; exact keepB aW P3, World.ownsRow_nil _ _ _ _, own_after X2.out bW2, (fun i hi => by cases hi), (fun i hi => by cases hi; exact .inl rfl), (fun i hi => by cases hi), ⟨by omega, by omega, by omega⟩⟩
  have CB : Hid (∀ A, Kb (bS Wb Ib gi) W.heap.size W A → A.cell? ⟨W3.heap.size, 0, none⟩ = some (.slice (some ⟨eb, off, none⟩) n c) ∧ A.cell? ⟨W3.heap.size + 1, 0, none⟩ = some (.int .i64 (p : Int))) := fun A hA => by
    refine ⟨?_, ?_⟩
    · refine (World.cell?_of_block (hA.block W3.heap.size (by omega) (fun e => ?_))).trans cB1
      rcases e with e | e | e <;> omega
    · refine (World.cell?_of_block (hA.block (W3.heap.size + 1) (by omega) (fun e => ?_))).trans cB2
      rcases e with e | e | e <;> omega
  rw [← hWb, ← hIb]
  have zI : w.heap.size ≤ Wb ∧ Ib < W.heap.size ∧ Wb < W.heap.size := by omega
  clear CH a3 P3 aW cB1 cB2 P2 X2 a1 P1 b2 bW2 B2 z1 z3 hW hW3 hWb hIb gil gi2 bz2 zZ b1
  go_wp2_with (fail)
  rw [← wpIn_wide (n := 5)]
  have HK := chunk_hands (5 - 1) W3.heap.size (W3.heap.size + 1) W eb off n c p hp1 hp2 (Kb (bS Wb Ib gi) W.heap.size) (fun h k => h.trans k) (fun A => Kb.drew _ _ A) (fun A hA => (CB.out A hA).1) (fun A hA => (CB.out A hA).2) hcap (by omega)
  rw [← HNN.out] at HK
  have HID : Hid (Ss.idxB l p 0 = Enc.leb N) := by show Enc.leb (Ss.cnt l p) = _; unfold Ss.cnt; rw [← HN.out, ← HNN.out]
  refine wpIn_handsK rfl (by decide) (gf := 54) (lb := #[.pointer (some ⟨W3.heap.size, 0, none⟩), .pointer (some ⟨W3.heap.size + 1, 0, none⟩)]) rfl trivial (enters_of Tryz.func54 (by kernel_rfl) rfl) HK (Kb.refl _ _ _) (fun h k => h.trans k) (fun A o hA => Kb.later hA ((Below.refl _ _).alloc (Nat.le_refl _) _)) (fun A o => Kb.put _ _ A o) (fun _ => rfl)
    (fun k A => ∃ vo vi, BuV w A W.heap.size Wb Ib gi vo vi (Ss.outB l p k) (Ss.idxB l p k) ∧ Kb (bS Wb Ib gi) W.heap.size W A ∧ W.heap.size + 1 < A.heap.size) (fun _ _ _ => False)
    (fun k A B h hg => by obtain ⟨vo, vi, hv, hb, hz⟩ := h; exact ⟨vo, vi, hv.grown hg, hb.trans (Kb.grown hb.size hg), Nat.lt_of_lt_of_le hz hg.size⟩) (fun _ _ _ _ h _ => h)
    (fun k A o h => by obtain ⟨vo, vi, hv, hb, hz⟩ := h; exact ⟨vo, vi, hv.putO (.inr rfl) o, hb.trans (Kb.put _ _ A o), by simp [World.putObj]; exact hz⟩) (fun _ _ _ _ h => h)
    (fun o => by
      have g1 : W.grownBy ((W.alloc (.deferred (some []))).alloc o) none := grownBy_trans (World.grownBy_alloc W _ none) (World.grownBy_alloc _ o none) (.inl rfl)
      refine ⟨.slice none 0 0, .slice (some ⟨gi, 0, none⟩) (Enc.leb N).length icap, ?_, Kb.grown (Nat.le_refl _) g1, by simp⟩
      rw [HID.out]
      exact V0.grown g1) ?_ ?_ ?_ ?_ ?_
  rotate_left
  · intro L' j A K hK
    simp only [chunkAt]
    gi_wp2_with (fail)
    exact hK
  · rintro L' k A hk ⟨vo, vi, hv, _, _⟩ hKp hA
    have hcnt : Ss.cnt l p = N := by unfold Ss.cnt; rw [← HN.out, ← HNN.out]
    have BK : Hid (∀ B, Kb (bS Wb Ib gi) W.heap.size W B → Below w.heap.size w B) := fun B hB => by
      obtain ⟨_, _, m1, m2, m3⟩ := hv.nums
      exact ⟨hB.os.trans BW.os, hB.tape.trans BW.tape, hB.output.trans BW.output, Nat.le_trans BW.size hB.size, fun i hi => (hB.block i (Nat.lt_of_lt_of_le hi BW.size) (fun e => by rcases e with e | e | e <;> omega)).trans (BW.block i hi)⟩
    have hck := Ss.piece_check HC.out (show k < Ss.cnt l p by omega)
    obtain ⟨M, hM⟩ : ∃ M, M = min p (n - k * p) := ⟨_, rfl⟩
    have hM' : M = min p (l.length - k * p) := by rw [hM, HN.out]
    have EP := ents_piece (H.out.later (BK.out A hKp)) p k M hM'
    have hpl : (Ss.piece l p k).length = M := by rw [Ss.piece_length, hM']
    obtain ⟨n1, n2, _, _⟩ := Bk.checkE_ok hck
    rw [hpl] at n1 n2
    obtain ⟨m, hm⟩ : ∃ m, M = m + 1 := ⟨M - 1, by omega⟩
    have hbl := Ss.blockB_len hck
    have hol := Ss.outB_len HC.out k (by omega)
    have hil := Ss.idxB_len HC.out k (by omega)
    have hmay := Bk.may_parts (Ss.last_may hck)
    have hlast : Ss.lastOf (Ss.piece l p k) = (Ss.piece l p k)[m]'(by omega) := by rw [Ss.last_get (by omega)]; congr 1; omega
    have EC : Hid (∀ B, Below w.heap.size w B → B.cell? ⟨eb, off + k * p * 4 + m * 4, none⟩ = some (str (Ss.lastOf (Ss.piece l p k)).key) ∧ B.cell? ⟨eb, off + k * p * 4 + m * 4 + 1, none⟩ = some (str (Ss.lastOf (Ss.piece l p k)).value) ∧ B.cell? ⟨eb, off + k * p * 4 + m * 4 + 2, none⟩ = some (.int .i64 (Ss.lastOf (Ss.piece l p k)).seq) ∧ B.cell? ⟨eb, off + k * p * 4 + m * 4 + 3, none⟩ = some (.bool (Ss.lastOf (Ss.piece l p k)).del)) := fun B hB => by
      rw [hlast]
      exact (ents_piece (H.out.later hB) p k M hM').cells m (by omega)
    have EN := bencode_ok A _ M M (Ss.piece l p k) EP hck
    have OB : Hid (Ss.outB l p (k + 1) = Ss.outB l p k ++ frm (Bk.blockB (Ss.piece l p k))) := rfl
    have XB : Hid (Ss.idxB l p (k + 1) = Ss.idxB l p k ++ Ss.partB ((Bk.blockB (Ss.piece l p k)).length + 12) (Ss.lastOf (Ss.piece l p k)).key (Ss.lastOf (Ss.piece l p k)).seq.toNat) := rfl
    rw [← hM]
    generalize Ss.lastOf (Ss.piece l p k) = x at *
    generalize Bk.blockB (Ss.piece l p k) = bb at *
    obtain ⟨XK, XV, XQ, XD⟩ := x
    simp only at EC XB hmay
    obtain ⟨q, hq⟩ := Int.eq_ofNat_of_zero_le (show 0 ≤ XQ by omega)
    subst hq
    rw [Int.toNat_natCast] at XB
    generalize Ss.outB l p k = ok at *
    generalize Ss.idxB l p k = xk at *
    have HV := hide hv
    have KW := hide hKp
    have hbl' : Hid (bb.length ≤ 330000) := hbl
    have hil' : Hid (xk.length ≤ 600000) := by show _ ≤ _; omega
    have PU : Hid (∀ A1 g1 cap1, Below A.heap.size A A1 → A1.ownsRow A.heap.size 5 1 (.slice (some ⟨g1, 0, none⟩) bb.length cap1) bb.length (bc bb) → Calls Tryz.prog 22 #[.pointer (some ⟨Wb, 0, none⟩), .slice (some ⟨g1, 0, none⟩) bb.length cap1, .int .i64 0] A1 fun e w' => e = .returned (.int .i64 ((bb.length + 12 : Nat) : Int)) ∧ PutAns A1 w.heap.size Wb vo (ok ++ frm bb) w') := fun A1 g1 cap1 hb ho => sput_any A1 w.heap.size Wb vo ok bb _ cap1 (HV.out.later hb).wr (HV.out.later hb).ownO (bytes_of_own ho (by omega)) (by omega) (by have := KW.out.size; have := hb.size; have := BW.size; omega) (by omega)
    clear hv hKp EP hck hpl hlast hM hM' HK V0 hcnt
    subst hm
    clear hbl hol hil
    refine wpIn_block (wpIn_seq ?_)
    gi_wp2_with (first
      | (refine ⟨trivial, ?_⟩; gi_at_call 23; refine (CallsIn.inRound L' (callsIn_wide.2 EN)).mono ?_; rintro e A1 ⟨g1, cap1, rfl, o1, b1⟩; clear EN)
      | (refine ⟨trivial, ?_⟩; gi_at_call 22; refine (CallsIn.inRound L' (callsIn_wide.2 (PU.out A1 g1 cap1 b1 o1))).mono ?_; rintro e A2 ⟨rfl, pa⟩; clear PU))
    have V1 := HV.out.later b1
    obtain ⟨vo2, V2, K2, D1, D2⟩ := V1.put (by have := b1.size; omega) pa
    have zA := b1.size
    have KA : Kb (bS Wb Ib gi) W.heap.size A A2 := (Kb.later (by have := KW.out.size; omega) b1).trans K2
    have E2 := EC.out A2 (BK.out A2 (KW.out.trans KA))
    have E2' : A2.drew.cell? ⟨eb, off + k * p * 4 + m * 4, none⟩ = some (str XK) ∧ A2.drew.cell? ⟨eb, off + k * p * 4 + m * 4 + 1, none⟩ = some (str XV) ∧ A2.drew.cell? ⟨eb, off + k * p * 4 + m * 4 + 2, none⟩ = some (.int .i64 (q : Int)) ∧ A2.drew.cell? ⟨eb, off + k * p * 4 + m * 4 + 3, none⟩ = some (.bool XD) := E2
    obtain ⟨e0, e1, e2, e3⟩ := E2
    have i0 : A2.cell? ⟨Ib, 0, none⟩ = some vi := Joins.cell_of_block V2.ix 0
    have V2d := hide (V2.later (Below.refl _ _).drew)
    have qm : (0 : Int) ≤ (m : Int) := by omega
    have qm1 : (m : Int) < (m : Int) + 1 := by omega
    have wm : IntKind.i64.wrap (m : Int) = (m : Int) := by rw [IntKind.wrap_i64]; omega
    have wm1 : IntKind.i64.wrap ((m : Int) + 1) = (m : Int) + 1 := by rw [IntKind.wrap_i64]; omega
    have AP : Hid (Calls Tryz.prog 24 #[vi, .int .i64 ((bb.length : Int) + 12), entV ⟨XK, XV, q, XD⟩] A2.drew fun r w' => ∃ v', r = .returned v' ∧ Ext w.heap.size A2.drew vi w' v' (xk ++ Ss.partB (bb.length + 12) XK q)) := spart_any A2.drew w.heap.size vi xk (bb.length + 12) XK XV q XD (by have := hbl'.out; omega) (by omega) (by omega) V2d.out.ownX (by show _ ≤ A2.heap.size; have := K2.size; have := KW.out.size; have := BW.size; omega) (by have := hil'.out; omega)
    obtain ⟨nx, hnx⟩ : ∃ nx, nx = xk ++ Ss.partB (bb.length + 12) XK q := ⟨_, rfl⟩
    rw [← hnx] at AP XB
    clear hnx
    -- <<<
    refine region_round (by kernel_rfl) (by kernel_rfl) (by rintro ⟨a, w, h⟩; exact h) ?_
    simp only [List.size_toArray, List.length_cons, List.length_nil, Nat.reduceAdd, Array.replicate_succ, Array.replicate_zero, List.push_toArray, List.nil_append, List.cons_append]
    refine anyTake (oi := ?oi0) 1 39 (.int .i64 ((bb.length : Int) + 12)) ?hi0 ?hd0 ?hw0 ?hy0 (by kernel_rfl) (by kernel_rfl) (by kernel_rfl) ?hQ0 ?_
    case hi0 => simp only [List.getElem?_toArray, List.getElem?_cons_zero, List.getElem?_cons_succ]; rfl
    case hd0 => rfl
    case hw0 => rfl
    case hy0 => (intro w; go_simp)
    case hQ0 => exact fun _ _ _ h => h
    simp only [Act.put, List.setIfInBounds_toArray, List.set_cons_zero, List.set_cons_succ]
    refine anyTake (oi := ?oi1) 2 40 (.slice (some ⟨eb, off + k * p * 4, none⟩) (m + 1) (m + 1)) ?hi1 ?hd1 ?hw1 ?hy1 (by kernel_rfl) (by kernel_rfl) (by kernel_rfl) ?hQ1 ?_
    case hi1 => simp only [List.getElem?_toArray, List.getElem?_cons_zero, List.getElem?_cons_succ]; rfl
    case hd1 => rfl
    case hw1 => rfl
    case hy1 => (intro w; go_simp)
    case hQ1 => exact fun _ _ _ h => h
    simp only [Act.put, List.setIfInBounds_toArray, List.set_cons_zero, List.set_cons_succ]
    refine anyTake (oi := ?oi2) 3 41 (.slice (some ⟨eb, off + k * p * 4, none⟩) (m + 1) (m + 1)) ?hi2 ?hd2 ?hw2 ?hy2 (by kernel_rfl) (by kernel_rfl) (by kernel_rfl) ?hQ2 ?_
    case hi2 => simp only [List.getElem?_toArray, List.getElem?_cons_zero, List.getElem?_cons_succ]; rfl
    case hd2 => rfl
    case hw2 => rfl
    case hy2 => (intro w; go_simp)
    case hQ2 => exact fun _ _ _ h => h
    simp only [Act.put, List.setIfInBounds_toArray, List.set_cons_zero, List.set_cons_succ]
    refine anyTake (oi := ?oi3) 4 42 (.int .i64 ((m : Int) + 1)) ?hi3 ?hd3 ?hw3 ?hy3 (by kernel_rfl) (by kernel_rfl) (by kernel_rfl) ?hQ3 ?_
    case hi3 => simp only [List.getElem?_toArray, List.getElem?_cons_zero, List.getElem?_cons_succ]; rfl
    case hd3 => rfl
    case hw3 => rfl
    case hy3 => (intro w; go_simp)
    case hQ3 => exact fun _ _ _ h => h
    simp only [Act.put, List.setIfInBounds_toArray, List.set_cons_zero, List.set_cons_succ]
    refine anyTake (oi := ?oi4) 5 43 (.int .i64 (m : Int)) ?hi4 ?hd4 ?hw4 ?hy4 (by kernel_rfl) (by kernel_rfl) (by kernel_rfl) ?hQ4 ?_
    case hi4 => simp only [List.getElem?_toArray, List.getElem?_cons_zero, List.getElem?_cons_succ]; rfl
    case hd4 => rfl
    case hw4 => rfl
    case hy4 => (intro w; go_simp)
    case hQ4 => exact fun _ _ _ h => h
    simp only [Act.put, List.setIfInBounds_toArray, List.set_cons_zero, List.set_cons_succ]
    refine anyTake (oi := ?oi5) 6 44 (.pointer (some ⟨eb, off + k * p * 4 + m * 4, none⟩)) ?hi5 ?hd5 ?hw5 ?hy5 (by kernel_rfl) (by kernel_rfl) (by kernel_rfl) ?hQ5 ?_
    case hi5 => simp only [List.getElem?_toArray, List.getElem?_cons_zero, List.getElem?_cons_succ]; rfl
    case hd5 => rfl
    case hw5 => rfl
    case hy5 => (intro w; go_simp)
    case hQ5 => exact fun _ _ _ h => h
    simp only [Act.put, List.setIfInBounds_toArray, List.set_cons_zero, List.set_cons_succ]
    refine wpAny_all (rs := [0, 7]) (by kernel_rfl) (by simp) ?_
    intro i hi
    simp only [List.mem_cons, List.not_mem_nil, or_false] at hi
    rcases hi with rfl | rfl
    · refine opStep rfl (fun KK hK => ?_)
      go_simp
      refine hK.out _ _ ?_
      clear hK KK
      refine wpAny_all (rs := [7]) (by kernel_rfl) (by simp) ?_
      intro i hi
      simp only [List.mem_cons, List.not_mem_nil, or_false] at hi
      subst hi
      refine opStep rfl (fun KK hK => ?_)
      go_simp
      refine hK.out _ _ ?_
      clear hK KK
      refine wpAny_all (rs := [8]) (by kernel_rfl) (by simp) ?_
      intro i hi
      simp only [List.mem_cons, List.not_mem_nil, or_false] at hi
      subst hi
      refine opStep rfl (fun KK hK => ?_)
      go_simp
      refine AP.out.mono ?_
      rintro e A3 ⟨v3, rfl, x3⟩
      obtain ⟨a3, c3x, hv3⟩ := row_shape x3.own
      subst hv3
      obtain ⟨j1, j2, j3, j4, j5⟩ := V2d.out.idx (by show _ < A2.heap.size; have := K2.size; omega) x3
      have c3 : A3.cell? ⟨Ib, 0, none⟩ = some vi := Joins.cell_of_block j1 0
      have f3 : A3.frozen? ⟨Ib, 0, none⟩ = false := Joins.unfrozen_of_block j1 0
      go_wp2_with (fail)
      refine hK.out _ _ ?_
      clear hK KK
      refine wpAny_all (rs := [9]) (by kernel_rfl) (by simp) ?_
      intro i hi
      simp only [List.mem_cons, List.not_mem_nil, or_false] at hi
      subst hi
      refine opStep rfl (fun KK hK => ?_)
      go_simp
      refine hK.out _ _ ?_
      clear hK KK
      refine wpAny_done (by kernel_rfl) ?_ _
      have kk : Kb (bS Wb Ib gi) W.heap.size A (A3.setCell ⟨Ib, 0, none⟩ _) := (KA.trans (Kb.drew _ _ _)).trans j3
      refine ⟨⟨j4.trans ?_, j5.trans ?_⟩, kk, vo2, .slice a3 nx.length c3x, ?_, KW.out.trans kk, Nat.lt_of_lt_of_le hA kk.size⟩
      · exact D1.trans (b1.block _ (by omega))
      · exact D2.trans (b1.block _ hA)
      · rw [OB.out, XB.out]
        exact j2
    · refine opStep rfl (fun KK hK => ?_)
      go_simp
      refine hK.out _ _ ?_
      clear hK KK
      refine wpAny_all (rs := [0]) (by kernel_rfl) (by simp) ?_
      intro i hi
      simp only [List.mem_cons, List.not_mem_nil, or_false] at hi
      subst hi
      refine opStep rfl (fun KK hK => ?_)
      go_simp
      refine hK.out _ _ ?_
      clear hK KK
      refine wpAny_all (rs := [8]) (by kernel_rfl) (by simp) ?_
      intro i hi
      simp only [List.mem_cons, List.not_mem_nil, or_false] at hi
      subst hi
      refine opStep rfl (fun KK hK => ?_)
      go_simp
      refine AP.out.mono ?_
      rintro e A3 ⟨v3, rfl, x3⟩
      obtain ⟨a3, c3x, hv3⟩ := row_shape x3.own
      subst hv3
      obtain ⟨j1, j2, j3, j4, j5⟩ := V2d.out.idx (by show _ < A2.heap.size; have := K2.size; omega) x3
      have c3 : A3.cell? ⟨Ib, 0, none⟩ = some vi := Joins.cell_of_block j1 0
      have f3 : A3.frozen? ⟨Ib, 0, none⟩ = false := Joins.unfrozen_of_block j1 0
      go_wp2_with (fail)
      refine hK.out _ _ ?_
      clear hK KK
      refine wpAny_all (rs := [9]) (by kernel_rfl) (by simp) ?_
      intro i hi
      simp only [List.mem_cons, List.not_mem_nil, or_false] at hi
      subst hi
      refine opStep rfl (fun KK hK => ?_)
      go_simp
      refine hK.out _ _ ?_
      clear hK KK
      refine wpAny_done (by kernel_rfl) ?_ _
      have kk : Kb (bS Wb Ib gi) W.heap.size A (A3.setCell ⟨Ib, 0, none⟩ _) := (KA.trans (Kb.drew _ _ _)).trans j3
      refine ⟨⟨j4.trans ?_, j5.trans ?_⟩, kk, vo2, .slice a3 nx.length c3x, ?_, KW.out.trans kk, Nat.lt_of_lt_of_le hA kk.size⟩
      · exact D1.trans (b1.block _ (by omega))
      · exact D2.trans (b1.block _ hA)
      · rw [OB.out, XB.out]
        exact j2
    -- >>>
  · rintro B ⟨vo, vi, hv, hb, hzB⟩ hD
    have hcnt : Ss.cnt l p = N := by unfold Ss.cnt; rw [← HN.out, ← HNN.out]
    have BK : Hid (∀ B, Kb (bS Wb Ib gi) W.heap.size W B → Below w.heap.size w B) := fun B hB => by
      obtain ⟨_, _, m1, m2, m3⟩ := hv.nums
      exact ⟨hB.os.trans BW.os, hB.tape.trans BW.tape, hB.output.trans BW.output, Nat.le_trans BW.size hB.size, fun i hi => (hB.block i (Nat.lt_of_lt_of_le hi BW.size) (fun e => by rcases e with e | e | e <;> omega)).trans (BW.block i hi)⟩
    have hol := Ss.outB_len HC.out N (by omega)
    have hil := Ss.idxB_len HC.out N (by omega)
    have hfl := Bm.filt_length (Ss.keysB l) d
    have HB1 : Hid (Ss.b1 l p = Ss.outB l p N) := by show Ss.outB l p (Ss.cnt l p) = _; rw [hcnt]
    have HB3 : Hid (Ss.buildB l p d = (Ss.outB l p N ++ frm (Bm.filt (Ss.keysB l) d) ++ frm (Ss.idxB l p N)) ++ frm (rec3 (Ss.outB l p N).length (Ss.outB l p N ++ frm (Bm.filt (Ss.keysB l) d)).length n)) := by
      show _ = _
      unfold Ss.buildB Ss.b3 Ss.b2 Ss.b1
      rw [hcnt, ← HN.out]
    have hkl : (Ss.keysB l).length = n := by unfold Ss.keysB; rw [List.length_map]; exact HN.out.symm
    have hfb : (Bm.filt (Ss.keysB l) d).length ≤ 10000 := by
      rw [hfl, hkl]
      unfold Bm.bytes
      have := Nat.mul_le_mul hl hd2
      omega
    have KE : Hid (keysOf (l.map fun x => (⟨x.key.toArray⟩ : ByteArray)) = Ss.keysB l) := by
      show _ = _
      unfold keysOf Ss.keysB
      rw [List.map_map]
      refine List.map_congr_left (fun x _ => ?_)
      simp
    obtain ⟨FL, hFL⟩ : ∃ FL, FL = Bm.filt (Ss.keysB l) d := ⟨_, rfl⟩
    rw [← hFL] at hfb HB3
    have HFL := hide hFL
    clear hFL
    generalize Ss.outB l p N = o at *
    generalize Ss.idxB l p N = x at *
    obtain ⟨Fb, hFb⟩ : ∃ Fb, Fb = B.heap.size := ⟨_, rfl⟩
    have c0 : B.cell? ⟨Wb, 0, none⟩ = some vo := Joins.cell_of_block hv.wr 0
    have hvs := row_shape hv.ownO
    clear HK V0 hcnt hfl hkl HID
    obtain ⟨oa, oc, rfl⟩ := hvs
    simp only [Exit.inBlock, Exit.then]
    apply_assumption
    go_wp2_with (fail)
    obtain ⟨B1, hB1⟩ : ∃ B1, B1 = B.alloc (.cells #[.int .u64 (o.length : Int), .int .u64 0, .int .u64 (n : Int)] 57) := ⟨_, rfl⟩
    have a1 : Below B.heap.size B B1 := by rw [hB1]; exact (Below.refl _ _).alloc (Nat.le_refl _) _
    have T1 : TlV w W B1 Wb Ib gi Fb (.slice oa o.length oc) vi o x (o.length : Int) 0 (n : Int) := ⟨hv.later a1, hb.trans (Kb.later hb.size a1), keepB a1 hD, by rw [hFb, hB1]; exact World.alloc_heap_new B _, by omega, fun i hi => by have := (hv.ownO.lt i hi).2; omega, fun i hi => by have := (hv.ownX.lt i hi).2; omega⟩
    have KO := keysOf_any B1 (some ⟨eb, off, none⟩) c n l (H.out.later (BK.out B1 T1.kb)) HN.out (by omega)
    rw [← hB1, ← hFb]
    clear hFb
    refine KO.mono ?_
    rintro e B2 ⟨v2, rfl, t2, b2⟩
    have T2 := T1.later b2
    have OF := of_ok B2 v2 _ d t2 (by rw [List.length_map]; have := HN.out; omega) (fun s hs => by
      obtain ⟨y, hy, rfl⟩ := List.mem_map.1 hs
      have := Bk.may_parts (List.all_eq_true.1 (Ss.check_parts HC.out).2.2.2.1 y hy)
      show y.key.toArray.size ≤ _
      simp
      omega) hd1 hd2
    rw [KE.out, ← HFL.out] at OF
    clear KO a1 hB1 T1 c0 hv hb hD
    go_wp2_with (fail)
    refine OF.mono ?_
    rintro e B3 ⟨n3, rfl, hn3, x3⟩
    subst hn3
    have b3 := below_of x3.grown
    have T3 := T2.later b3
    have zw : w.heap.size ≤ B3.heap.size := (BK.out B3 T3.kb).size
    have PU1 := sput_any B3 w.heap.size Wb _ o FL _ _ T3.bu.wr T3.bu.ownO (bytes_of_own x3.own (by omega)) (by omega) zw (by omega)
    clear OF T2 x3 b2 b3 t2
    go_wp2_with (fail)
    refine PU1.mono ?_
    rintro e B4 ⟨rfl, pa4⟩
    obtain ⟨vo4, T4⟩ := T3.put pa4
    clear PU1 T3 pa4
    have hvs4 := row_shape T4.bu.ownO
    obtain ⟨o4a, o4c, rfl⟩ := hvs4
    have c4 : B4.cell? ⟨Wb, 0, none⟩ = some _ := Joins.cell_of_block T4.bu.wr 0
    obtain ⟨f40, f41, f42, g40, g41, g42, _⟩ := slot3 T4.ft
    have T5 := T4.set (((o ++ frm FL).length : Nat) : Int)
    have hl4 : (o ++ frm FL).length ≤ 400000000 := by rw [List.length_append, frm_length]; omega
    obtain ⟨o2, ho2⟩ : ∃ o2, o2 = o ++ frm FL := ⟨_, rfl⟩
    rw [← ho2] at T5 hl4 c4 HB3
    have HO2 := hide ho2
    clear ho2 T4
    have ci : (B4.setCell ⟨Fb, 1, none⟩ (.int .u64 (o2.length : Int))).cell? ⟨Ib, 0, none⟩ = some vi := Joins.cell_of_block T5.bu.ix 0
    have hvs5 := row_shape T5.bu.ownX
    obtain ⟨xa, xc, rfl⟩ := hvs5
    have zw5 : w.heap.size ≤ (B4.setCell ⟨Fb, 1, none⟩ (.int .u64 (o2.length : Int))).heap.size := (BK.out _ T5.kb).size
    have PU2 := sput_any _ w.heap.size Wb _ o2 x xa xc T5.bu.wr T5.bu.ownO (bytes_of_own T5.bu.ownX (by omega)) (by omega) zw5 (by omega)
    go_wp2_with (fail)
    refine PU2.mono ?_
    rintro e B6 ⟨rfl, pa6⟩
    obtain ⟨vo6, T6⟩ := T5.put pa6
    clear PU2 T5 pa6 c4 ci f40 f41 f42 g40 g41 g42 zw5
    obtain ⟨f60, f61, f62, _⟩ := slot3 T6.ft
    have hl6 : (o2 ++ frm x).length ≤ 500000000 := by rw [List.length_append, frm_length]; omega
    obtain ⟨o3, ho3⟩ : ∃ o3, o3 = o2 ++ frm x := ⟨_, rfl⟩
    rw [← ho3] at T6 hl6 HB3
    clear ho3
    have RC := record_any B6 o.length o2.length n (by omega) (by omega) (by omega)
    go_wp2_with (fail)
    refine RC.mono ?_
    rintro e B7 ⟨v7, rfl, o7, b7⟩
    have T7 := T6.later b7
    have hr24 := rec3_length o.length o2.length n
    obtain ⟨ra, rc, rfl⟩ := row_shape o7
    have o7' : B7.ownsRow B6.heap.size 5 1 (.slice ra (rec3 o.length o2.length n).length rc) (rec3 o.length o2.length n).length (bc (rec3 o.length o2.length n)) := by rw [hr24]; exact o7
    have zw7 : w.heap.size ≤ B7.heap.size := (BK.out B7 T7.kb).size
    have PU3 := sput_any B7 w.heap.size Wb _ o3 (rec3 o.length o2.length n) ra rc T7.bu.wr T7.bu.ownO (bytes_of_own o7' (by omega)) (by omega) zw7 (by omega)
    rw [hr24] at PU3
    clear RC T6 o7 o7' b7 f60 f61 f62
    go_wp2_with (fail)
    refine PU3.mono ?_
    rintro e B8 ⟨rfl, pa8⟩
    obtain ⟨vo8, T8⟩ := T7.put pa8
    clear PU3 T7 pa8
    rw [← HB3.out] at T8
    have WE := wend_any B8 Wb vo8 T8.bu.wr
    go_wp2_with (fail)
    refine WE.mono ?_
    rintro e B9 ⟨rfl, rfl⟩
    go_wp2_with (fail)
    refine leaves_two T8.df (v := .tuple #[vo8, .int .i64 0]) (by simp [results, Tryz.results7, go_sem]) ⟨vo8, rfl, ?_, ?_⟩
    · refine own_kept T8.bu.ownO (fun i hi => World.putObj_heap_other ?_)
      have := T8.bu.offO i hi
      omega
    · have b8 := BK.out _ T8.kb
      have bs := BW.size
      exact ⟨b8.os, b8.tape, b8.output, Nat.le_trans b8.size (by simp [World.putObj]), fun i hi => (World.putObj_heap_other (by omega)).trans (b8.block i hi)⟩
  · rintro co k B hk h
    exact h.elim
end Go.Proofs.YtolalicliojkfaaGreat
