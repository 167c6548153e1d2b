/-
  Opening some bytes: what the call answers, of any bytes.
-/
import Derived.Test.YtolalicliojkfaaGreatSTab
namespace Go.Proofs.YtolalicliojkfaaGreat
open Go.RowKit

def OpenAns (w : World) (b : List UInt8) (e : Ending) (w' : World) : Prop :=
  ∃ p E, e = .returned (.tuple #[p, .int .i64 E]) ∧ Hid ((Ss.openOk b = true ∧ E = 0 ∧ ∃ B, p = .pointer (some ⟨B, 0, none⟩) ∧ TabAt w' w.heap.size B (Ss.openT b) 0) ∨ (Ss.openOk b = false ∧ E = 6 ∧ p = .pointer none)) ∧ Below w.heap.size w w'
theorem OpenAns.bad {w w' : World} {b : List UInt8} (h : Ss.openOk b = false) (hb : Below w.heap.size w w') : OpenAns w b (.returned (.tuple #[.pointer none, .int .i64 6])) w' := ⟨_, _, rfl, .inr ⟨h, rfl, rfl⟩, hb⟩

theorem onward_len (b : List UInt8) (x : Nat) : (Ss.onward b x).length ≤ 1048576 := by
  unfold Ss.onward
  split
  · rename_i h9
    unfold Ss.onOk Ss.wholeOk at h9
    rw [Bool.and_eq_true, Bool.and_eq_true, decide_eq_true_eq, decide_eq_true_eq] at h9
    rw [rdR_length h9.2.1]
    exact (rdE_good h9.2.1).2
  · exact Nat.zero_le _
theorem row_form {w : World} {base e size n c : Nat} {a : Option Addr} {xs : List Value} (h : w.ownsRow base e size (.slice a n c) n xs) : ((a = none ∧ c = 0) ∨ ∃ g off, a = some ⟨g, off, none⟩) ∧ n ≤ c := by
  rcases h.2 with ⟨e, h0⟩ | ⟨g9, cap9, cur9, e, _, _, h9, _⟩
  · simp only [Value.slice.injEq] at e
    obtain ⟨rfl, h1, rfl⟩ := e
    exact ⟨.inl ⟨rfl, rfl⟩, by omega⟩
  · simp only [Value.slice.injEq, true_and] at e
    obtain ⟨rfl, rfl⟩ := e
    exact ⟨.inr ⟨_, _, rfl⟩, by omega⟩

set_option maxRecDepth 100000 in
set_option maxHeartbeats 8000000 in
theorem open_any (w : World) (a : Option Addr) (c n : Nat) (b : List UInt8) (hn : n = b.length) (h : BytesIn w (.slice a n c) b) (hc : n ≤ c) (hl : n ≤ 1000000000) :
    Calls Tryz.prog 13 #[.slice a n c] w fun e w' => OpenAns w b e w' := by
  subst hn
  have FO := footerOf_any w a c b.length b rfl h hc hl
  have DEF : Hid (Ss.openOk b = (Ss.footOk b && (decide (1 ≤ Ss.footN b) && (decide (Ss.footN b ≤ 65536) && (Ss.onOk (b.take (b.length - 36)) (Ss.footX b) && (Ss.onOk (b.take (Ss.footX b)) (Ss.footF b) && (Bm.ok (Ss.onward (b.take (Ss.footX b)) (Ss.footF b)) &&
    (Ss.indexOk (Ss.onward (b.take (b.length - 36)) (Ss.footX b)) && decide (Ss.lastFin (Ss.indexR (Ss.onward (b.take (b.length - 36)) (Ss.footX b))).2 = Ss.footF b))))))))) := rfl
  obtain ⟨L, hL⟩ : ∃ L, L = b.length := ⟨_, rfl⟩
  have H := hide h
  have HL := hide hL
  rw [← hL] at FO hc hl ⊢
  clear h hL
  go_enter Tryz.func13, Tryz.ntmps13
  go_wp2_with (fail)
  refine FO.mono ?_
  rintro e w1 ⟨F, X, N, rfl, HF, b1⟩
  clear FO
  cases hok : Ss.footOk b with
  | false =>
    have HO : Hid (Ss.openOk b = false) := by show _ = _; rw [DEF.out, hok, Bool.false_and]
    clear DEF HF hok
    go_wp2_with (fail)
    go_ret2
    exact OpenAns.bad HO.out (b1.alloc b1.size _)
  | true =>
    have h36 : 36 ≤ L := by
      rw [HL.out]
      unfold Ss.footOk at hok
      rw [Bool.and_eq_true, decide_eq_true_eq] at hok
      exact hok.1
    obtain ⟨e1, e2, e3⟩ := HF.out hok
    rw [hok, Bool.true_and, ← e1, ← e2, ← e3, ← HL.out] at DEF
    have HT : Hid (Ss.openT b = ⟨b.take F, Ss.onward (b.take X) F, (Ss.indexR (Ss.onward (b.take (L - 36)) X)).2, N⟩) := by show _ = _; unfold Ss.openT; rw [← e1, ← e2, ← e3, ← HL.out]
    clear HF hok e1 e2 e3
    by_cases hN1 : (N : Int) < 1
    · have HO : Hid (Ss.openOk b = false) := by show _ = _; rw [DEF.out, decide_eq_false (by omega), Bool.false_and]
      clear DEF
      go_wp2_with (fail)
      go_ret2
      exact OpenAns.bad HO.out (b1.alloc b1.size _)
    · by_cases hN2 : (N : Int) > 65536
      · have HO : Hid (Ss.openOk b = false) := by show _ = _; rw [DEF.out, decide_eq_false (by omega : ¬ N ≤ 65536), Bool.false_and, Bool.and_false]
        clear DEF
        go_wp2_with (fail)
        go_ret2
        exact OpenAns.bad HO.out (b1.alloc b1.size _)
      · rw [decide_eq_true (by omega : 1 ≤ N), decide_eq_true (by omega : N ≤ 65536), Bool.true_and, Bool.true_and] at DEF
        go_wp2_with (fail)
        have hne : b ≠ [] := by intro e; have := HL.out; rw [e] at this; simp at this; omega
        obtain ⟨g, off, rfl⟩ : ∃ g off, a = some ⟨g, off, none⟩ := by
          obtain ⟨⟨a', cap, e, hf⟩, _⟩ := H.out
          cases e
          obtain ⟨g, off, e, _⟩ := hf hne
          exact ⟨g, off, e⟩
        obtain ⟨W1, hW1⟩ : ∃ W1, W1 = w1.alloc (.cells #[.int .u64 (F : Int), .int .u64 (X : Int), .int .u64 (N : Int)] 57) := ⟨_, rfl⟩
        have P1 : W1.heap[w1.heap.size]? = some (.cells #[.int .u64 (F : Int), .int .u64 (X : Int), .int .u64 (N : Int)] 57 (0, 0)) := by rw [hW1]; exact World.alloc_heap_new w1 _
        have B1 : Below w.heap.size w W1 := by rw [hW1]; exact b1.alloc b1.size _
        rw [← hW1]
        obtain ⟨G, hG⟩ : ∃ G, G = w1.heap.size := ⟨_, rfl⟩
        rw [← hG] at P1 ⊢
        clear hW1 b1 hne hG
        obtain ⟨y, hy⟩ : ∃ y, y = L - 36 := ⟨_, rfl⟩
        rw [← hy] at DEF HT
        have ly : Hid (y ≤ b.length) := by show _ ≤ _; rw [← HL.out]; omega
        have hlt : Hid ((b.take y).length = y) := by show _ = _; rw [List.length_take, Nat.min_eq_left ly.out]
        have ON : Hid (∀ wx, Below w.heap.size w wx → Calls Tryz.prog 41 #[.slice (some ⟨g, off, none⟩) y c, .int .u64 (X : Int)] wx fun e w' => ∃ v, e = .returned (.tuple #[v, .bool (Ss.onOk (b.take y) X)]) ∧ Ext wx.heap.size wx (.slice none 0 0) w' v (Ss.onward (b.take y) X)) := fun wx hx => onward_any wx _ c y (b.take y) X hlt.out.symm (bytes_to (H.out.later hx) y y ly.out rfl c) (by omega) (.inr ⟨g, off, rfl⟩) (by omega)
        have k1 : (L : Int) - 36 = (y : Int) := by omega
        have k2 : (y : Int) ≤ (L : Int) := by omega
        have k3 : (L : Int) ≤ (c : Int) := by omega
        have k4 : (y : Int) ≤ (c : Int) := by omega
        have k5 : (0 : Int) ≤ (y : Int) := by omega
        have wy : IntKind.i64.wrap (y : Int) = (y : Int) := by rw [IntKind.wrap_i64]; omega
        obtain ⟨c0, c1, c2, _⟩ := slot3 P1
        have Q1 := hide c1
        clear c0 c1 c2 hy
        go_region_held3 (fun wx => wx.cell? ⟨G, 1, none⟩ = some (.int .u64 (X : Int)))
          (first | exact Q1.out | exact q2)
          (first
            | (go_at_call 41; refine (ON.out _ B1.drew).mono ?_; rintro e w2 ⟨v2, rfl, x2⟩; have b2 := (Below.refl W1.heap.size W1).drew.trans (x2.below (Nat.le_refl _) (by simp [Value.ownBlock])); have q2 := keepC b2 Q1.out))
        clear ON Q1
        have P2 := keepB b2 P1
        have B2 := B1.trans (b2.mono B1.size)
        have X2 := hide x2.own
        cases hok2 : Ss.onOk (b.take y) X with
        | false =>
          have HO : Hid (Ss.openOk b = false) := by show _ = _; rw [DEF.out, hok2, Bool.false_and]
          clear DEF hok2
          go_wp2_with (fail)
          go_ret2
          exact OpenAns.bad HO.out B2
        | true =>
          have hXy : X ≤ y := by
            unfold Ss.onOk at hok2
            rw [Bool.and_eq_true, decide_eq_true_eq, hlt.out] at hok2
            exact hok2.1
          rw [hok2, Bool.true_and] at DEF
          clear hok2 b2 x2 P1 q2 B1
          go_wp2_with (fail)
          have lX : Hid (X ≤ b.length) := by show _ ≤ _; have := ly.out; omega
          have hlX : Hid ((b.take X).length = X) := by show _ = _; rw [List.length_take, Nat.min_eq_left lX.out]
          have ON : Hid (∀ wx, Below w.heap.size w wx → Calls Tryz.prog 41 #[.slice (some ⟨g, off, none⟩) X c, .int .u64 (F : Int)] wx fun e w' => ∃ v, e = .returned (.tuple #[v, .bool (Ss.onOk (b.take X) F)]) ∧ Ext wx.heap.size wx (.slice none 0 0) w' v (Ss.onward (b.take X) F)) := fun wx hx => onward_any wx _ c X (b.take X) F hlX.out.symm (bytes_to (H.out.later hx) X X lX.out rfl c) (by omega) (.inr ⟨g, off, rfl⟩) (by omega)
          have m1 : (X : Int) ≤ (L : Int) := by omega
          have m2 : (X : Int) ≤ (c : Int) := by omega
          have m3 : (0 : Int) ≤ (X : Int) := by omega
          obtain ⟨c0, c1, c2, _⟩ := slot3 P2
          have Q1 : Hid (w2.drew.cell? ⟨G, 0, none⟩ = some (.int .u64 (F : Int)) ∧ w2.drew.cell? ⟨G, 1, none⟩ = some (.int .u64 (X : Int))) := ⟨c0, c1⟩
          clear c2
          go_region_held3 (fun wx => wx.cell? ⟨G, 0, none⟩ = some (.int .u64 (F : Int)) ∧ wx.cell? ⟨G, 1, none⟩ = some (.int .u64 (X : Int)))
            (first | exact Q1.out | exact q3)
            (first
              | (go_at_call 41; refine (ON.out _ B2.drew).mono ?_; rintro e w3 ⟨v3, rfl, x3⟩; have b3 := (Below.refl w2.heap.size w2).drew.trans (x3.below (Nat.le_refl _) (by simp [Value.ownBlock])); have q3 := And.intro (keepC b3 c0) (keepC b3 c1)))
          clear ON Q1 c0 c1
          have P3 := keepB b3 P2
          have B3 := B2.trans (b3.mono B2.size)
          have Y2 := hide (own_after X2.out b3)
          have X3 := hide x3.own
          have z2' := B2.size
          cases hok3 : Ss.onOk (b.take X) F with
          | false =>
            have HO : Hid (Ss.openOk b = false) := by show _ = _; rw [DEF.out, hok3, Bool.false_and]
            clear DEF hok3
            go_wp2_with (fail)
            go_ret2
            exact OpenAns.bad HO.out B3
          | true =>
            have hFX : F ≤ X := by
              unfold Ss.onOk at hok3
              rw [Bool.and_eq_true, decide_eq_true_eq, hlX.out] at hok3
              exact hok3.1
            rw [hok3, Bool.true_and] at DEF
            have ix := onward_len (b.take y) X
            have fx := onward_len (b.take X) F
            generalize Ss.onward (b.take y) X = IX at *
            generalize Ss.onward (b.take X) F = FL at *
            obtain ⟨fa, fc, rfl⟩ := row_shape X3.out
            have CK := bcheckF_any w3 fa fc FL (bytes_of_own X3.out (by omega))
            have OE : Hid (okE FL = if Bm.ok FL = true then 0 else 5) := rfl
            clear hok3 b3 x3 P2 q3 B2 X2
            cases hok4 : Bm.ok FL with
            | false =>
              have HO : Hid (Ss.openOk b = false) := by show _ = _; rw [DEF.out, hok4, Bool.false_and]
              have e5 : okE FL = 5 := by rw [OE.out, hok4]; rfl
              rw [e5] at CK
              clear DEF hok4 OE e5
              go_wp2_with (first
                | (go_at_call 42; refine CK.mono ?_; rintro e w4 ⟨rfl, rfl⟩))
              go_ret2
              exact OpenAns.bad HO.out B3
            | true =>
              have e5 : okE FL = 0 := by rw [OE.out, hok4]; rfl
              rw [e5] at CK
              rw [hok4, Bool.true_and] at DEF
              clear hok4 OE e5
              have hs2 := row_shape Y2.out
              obtain ⟨ia, ic, rfl⟩ := hs2
              obtain ⟨hia, hic⟩ := row_form Y2.out
              have PA := parts_any w3 ia ic IX (bytes_of_own Y2.out (by omega)) hic hia (by omega)
              go_wp2_with (first
                | (go_at_call 42; refine CK.mono ?_; rintro e w4 ⟨rfl, rfl⟩))
              refine PA.mono ?_
              rintro e w4 ⟨v4, rfl, o4, b4⟩
              clear PA CK
              have P4 := keepB b4 P3
              have B4 := B3.trans (b4.mono B3.size)
              have Y3 := hide (own_after X3.out b4)
              have O4 := hide o4
              have z4 := B3.size
              have IS := hide (@index_some IX)
              cases hok5 : Ss.indexOk IX with
              | false =>
                have HO : Hid (Ss.openOk b = false) := by show _ = _; rw [DEF.out, hok5, Bool.false_and]
                clear DEF hok5 IS
                go_wp2_with (fail)
                go_quiet (fail)
                go_wp2_with (fail)
                go_ret2
                exact OpenAns.bad HO.out (below_drewN B4 _)
              | true =>
                obtain ⟨i1, i2, i3⟩ := IS.out hok5
                rw [hok5, Bool.true_and] at DEF
                clear hok5 IS Y2 X3 P3 b4 B3
                generalize (Ss.indexR IX).2 = ps at *
                rcases List.eq_nil_or_concat ps with ho | ⟨p', q, ho⟩
                · rw [ho] at i1; simp at i1
                rw [List.concat_eq_append] at ho
                have hfin : Ss.lastFin ps = q.fin := by rw [ho, Ss.lastFin_snoc]
                have hlen : ps.length = p'.length + 1 := by rw [ho]; simp
                obtain ⟨⟨pa, pc, hv, hpc, hpf⟩⟩ := PartsAt.own o4
                obtain ⟨pg, rfl, hg1, hcell⟩ := hpf (by intro e; rw [e] at i1; simp at i1)
                obtain ⟨d0, d1, d2, d3, d4, d5⟩ := hcell p'.length (by omega)
                clear d0 d2 d3 d4 d5
                have hq : ps[p'.length]'(by omega) = q := by simp [ho]
                rw [hq, ← hfin] at d1
                rw [hfin] at i3 d1 DEF
                have HPS := hide hlen
                rw [hlen] at hv
                subst hv
                rw [hlen] at hpc i2
                clear hcell hpf hq hg1 hfin ho o4 hlen i1
                generalize p'.length = k at *
                generalize q.fin = fin at *
                have q1 : ((k + 1 : Nat) : Int) > 0 := by omega
                have q2 : (k : Int) < ((k + 1 : Nat) : Int) := by omega
                have q3 : (0 : Int) ≤ (k : Int) := by omega
                have q4 : (k : Int) < (k : Int) + 1 := by omega
                have wm : IntKind.i64.wrap (k : Int) = (k : Int) := by rw [IntKind.wrap_i64]; omega
                have wm1 : IntKind.i64.wrap ((k : Int) + 1) = (k : Int) + 1 := by rw [IntKind.wrap_i64]; omega
                have wf : IntKind.u64.wrap (fin : Int) = (fin : Int) := by rw [IntKind.wrap_u64]; omega
                obtain ⟨c0, c1, c2, _⟩ := slot3 P4
                by_cases hfF : fin = F
                · have HO : Hid (Ss.openOk b = true) := by show _ = _; rw [DEF.out, decide_eq_true hfF]
                  subst hfF
                  clear DEF
                  go_wp2_with (fail)
                  go_quiet (fail)
                  go_wp2_with (fail)
                  obtain ⟨W5, hW5⟩ : ∃ W5, W5 = w4.drewN nq := ⟨_, rfl⟩
                  have b5 : Below w4.heap.size w4 W5 := by rw [hW5]; exact below_drewN (Below.refl _ _) _
                  rw [← hW5]
                  have B5 := B4.trans (b5.mono B4.size)
                  have P5 := keepB b5 P4
                  have Z3 := hide (own_after Y3.out b5)
                  have Z4 := hide (own_after O4.out b5)
                  clear hW5 b5 B4 P4 Y3 O4 c0 c1 c2 d1
                  obtain ⟨c0, c1, c2, _⟩ := slot3 P5
                  have lF : Hid (fin ≤ b.length) := by show _ ≤ _; have := lX.out; omega
                  have hlF : Hid ((b.take fin).length = fin) := by show _ = _; rw [List.length_take, Nat.min_eq_left lF.out]
                  have CL : Hid (∀ wx, Below w.heap.size w wx → Calls Tryz.prog 44 #[.slice (some ⟨g, off, none⟩) fin c] wx fun e w' => ∃ g1 cap, e = .returned (.slice (some ⟨g1, 0, none⟩) (b.take fin).length cap) ∧ Ext wx.heap.size wx (.slice none 0 0) w' (.slice (some ⟨g1, 0, none⟩) (b.take fin).length cap) (b.take fin)) := fun wx hx => bclone_any wx g off c fin (b.take fin) hlF.out.symm (bytes_to (H.out.later hx) fin fin lF.out rfl c)
                  have n1 : (fin : Int) ≤ (L : Int) := by omega
                  have n2 : (fin : Int) ≤ (c : Int) := by omega
                  have n3 : (0 : Int) ≤ (fin : Int) := by omega
                  have wN : IntKind.i64.wrap (N : Int) = (N : Int) := by rw [IntKind.wrap_i64]; omega
                  have Q1 : Hid (W5.drew.cell? ⟨G, 0, none⟩ = some (.int .u64 (fin : Int)) ∧ W5.drew.cell? ⟨G, 2, none⟩ = some (.int .u64 (N : Int))) := ⟨c0, c2⟩
                  generalize b.take fin = BL at *
                  go_region_held3 (fun wx => wx.cell? ⟨G, 0, none⟩ = some (.int .u64 (fin : Int)) ∧ wx.cell? ⟨G, 2, none⟩ = some (.int .u64 (N : Int)))
                    (first | exact Q1.out | exact q6 | (go_keep; done))
                    (first
                      | (go_at_call 44; refine (CL.out _ B5.drew).mono ?_; rintro e w6 ⟨g6, cap6, rfl, x6⟩; have b6 := (Below.refl W5.heap.size W5).drew.trans (x6.below (Nat.le_refl _) (by simp [Value.ownBlock])); have q6 := And.intro (keepC b6 c0) (keepC b6 c2)))
                  clear CL Q1
                  go_wp2_with (fail)
                  go_ret2
                  have o6 := x6.own
                  have u3 := own_after Z3.out b6
                  have u4 := own_after Z4.out b6
                  have B6 := B5.trans (b6.mono B5.size)
                  have bA : Below w6.heap.size w6 (w6.alloc (.cells #[.pointer (some ⟨w6.heap.size, 0, none⟩), .slice (some ⟨g6, 0, none⟩) BL.length cap6, .slice fa FL.length fc, .slice (some ⟨pg, 0, none⟩) (k + 1) pc, .int .i64 (N : Int), .int .i64 0] 80)) := (Below.refl _ _).alloc (Nat.le_refl _) _
                  refine ⟨_, _, rfl, .inl ⟨HO.out, rfl, w6.heap.size, rfl, ?_⟩, B6.trans (bA.mono B6.size)⟩
                  rw [HT.out]
                  refine ⟨⟨_, _, _, World.alloc_heap_new w6 _, ⟨own_after (own_lift o6 B5.size) bA, own_after (own_lift u3 z2') bA, ?_⟩, fun i hi => ?_, fun i hi => ?_, fun i hi => ?_⟩, B6.size⟩
                  · show World.ownsRow _ _ _ _ _ ps.length _
                    rw [HPS.out]
                    have := own_lift u4 z4
                    rw [HPS.out] at this
                    exact own_after this bA
                  · have := (o6.lt i hi).2; omega
                  · have := (u3.lt i hi).2; omega
                  · have := u4; rw [HPS.out] at this; have := (this.lt i hi).2; omega
                · have HO : Hid (Ss.openOk b = false) := by show _ = _; rw [DEF.out, decide_eq_false hfF]
                  have hq : ((fin : Int) != (F : Int)) = true := by simp; omega
                  clear DEF hfF
                  go_wp2_with (fail)
                  go_quiet (fail)
                  go_wp2_with (fail)
                  go_ret2
                  exact OpenAns.bad HO.out (below_drewN B4 _)
end Go.Proofs.YtolalicliojkfaaGreat
