/-
  What an index says, of one block or more: what the call answers of any bytes.
-/
import Derived.Test.YtolalicliojkfaaGreatSJ
import Derived.Test.YtolalicliojkfaaGreatSH
namespace Go.Proofs.YtolalicliojkfaaGreat
open Go.RowKit

theorem infoP : (Tryz.prog.info? 78).map (fun i => (i.zero, i.size, i.bytes)) = some (some (.agg #[.int .i64 0, .int .i64 0, .string ⟨#[]⟩, .string ⟨#[]⟩, .int .i64 0, .bool false]), 6, 64) := by kernel_rfl
def pcs (l : List Ss.Prt) : List Value := l.flatMap prtC
theorem pcs_length (l : List Ss.Prt) : (pcs l).length = l.length * 6 := by
  induction l with
  | nil => rfl
  | cons x r ih =>
    have : pcs (x :: r) = prtC x ++ pcs r := rfl
    rw [this, List.length_append, ih, List.length_cons]
    show 6 + _ = _
    omega
theorem pcs_append (l m : List Ss.Prt) : pcs (l ++ m) = pcs l ++ pcs m := by simp [pcs]
theorem pcs_get (l : List Ss.Prt) (j : Nat) (h : j < l.length) : (pcs l)[j * 6]? = some (.int .i64 (l[j].size : Int)) ∧ (pcs l)[j * 6 + 1]? = some (.int .i64 (l[j].fin : Int)) ∧ (pcs l)[j * 6 + 2]? = some (str l[j].key) ∧ (pcs l)[j * 6 + 3]? = some (str []) ∧ (pcs l)[j * 6 + 4]? = some (.int .i64 (l[j].seq : Int)) ∧ (pcs l)[j * 6 + 5]? = some (.bool false) := by
  have e : pcs l = pcs (l.take j) ++ (prtC l[j] ++ pcs (l.drop (j + 1))) := by
    have h1 : l = l.take j ++ l[j] :: l.drop (j + 1) := by rw [List.getElem_cons_drop, List.take_append_drop]
    conv => lhs; rw [h1]
    rw [pcs_append]; rfl
  have hl : (pcs (l.take j)).length = j * 6 := by rw [pcs_length, List.length_take, Nat.min_eq_left (by omega)]
  rw [e]
  refine ⟨?_, ?_, ?_, ?_, ?_, ?_⟩ <;> (rw [List.getElem?_append_right (by omega)]; rw [hl]; simp [prtC])
theorem pcs_one (l : List Ss.Prt) : ∀ u ∈ pcs l, u.oneCell' = true := by
  intro u hu
  simp only [pcs, List.mem_flatMap, prtC] at hu
  obtain ⟨x, _, hx⟩ := hu
  simp only [List.mem_cons, List.not_mem_nil, or_false] at hx
  rcases hx with rfl | rfl | rfl | rfl | rfl | rfl <;> rfl
theorem pc_new (W : World) (x : Ss.Prt) (B : Nat) (hB : B = W.heap.size) : ∀ j u, (pcs [x])[j]? = some u → (W.alloc (.cells #[.int .i64 (x.size : Int), .int .i64 (x.fin : Int), str x.key, str [], .int .i64 (x.seq : Int), .bool false] 78)).cell? ((⟨B, 0, none⟩ : Addr).add j) = some u := by
  subst hB
  intro j u hu
  have hadd : (⟨W.heap.size, 0, none⟩ : Addr).add j = ⟨W.heap.size, j, none⟩ := by unfold Addr.add; split <;> simp_all
  rw [hadd]
  refine (Joins.cell_of_block (World.alloc_heap_new W _) j).trans ?_
  have : (pcs [x]) = [.int .i64 (x.size : Int), .int .i64 (x.fin : Int), str x.key, str [], .int .i64 (x.seq : Int), .bool false] := rfl
  rw [this] at hu
  rw [← hu]
  rcases j with _ | _ | _ | _ | _ | _ | j <;> rfl

/-- Where parts lie, to be read. -/
structure PartsAt (w : World) (v : Value) (l : List Ss.Prt) : Prop where
  form : ∃ a cap, v = .slice a l.length cap ∧ l.length ≤ cap ∧ (l ≠ [] → ∃ b, a = some ⟨b, 0, none⟩ ∧ b < w.heap.size ∧ ∀ j (h : j < l.length), w.cell? ⟨b, j * 6, none⟩ = some (.int .i64 (l[j].size : Int)) ∧ w.cell? ⟨b, j * 6 + 1, none⟩ = some (.int .i64 (l[j].fin : Int)) ∧ w.cell? ⟨b, j * 6 + 2, none⟩ = some (str l[j].key) ∧ w.cell? ⟨b, j * 6 + 3, none⟩ = some (str []) ∧ w.cell? ⟨b, j * 6 + 4, none⟩ = some (.int .i64 (l[j].seq : Int)) ∧ w.cell? ⟨b, j * 6 + 5, none⟩ = some (.bool false))
theorem PartsAt.own {w : World} {base : Nat} {v : Value} {l : List Ss.Prt} (h : w.ownsRow base 78 6 v l.length (pcs l)) : PartsAt w v l := by
  have ho := h
  rcases h.2 with ⟨rfl, h0⟩ | ⟨g, cap, cur, rfl, hb, hg, hnc, _⟩
  · exact ⟨⟨none, 0, by rw [h0], by omega, fun hne => absurd (List.eq_nil_of_length_eq_zero h0) hne⟩⟩
  · refine ⟨⟨_, cap, rfl, by omega, fun _ => ⟨g, rfl, (Array.getElem?_eq_some_iff.1 hg).1, fun j hj => ?_⟩⟩⟩
    obtain ⟨h1, h2, h3, h4, h5, h6⟩ := pcs_get l j hj
    have hc := ho.cellAt
    exact ⟨(hc _ (by omega)).trans h1, (hc _ (by omega)).trans h2, (hc _ (by omega)).trans h3, (hc _ (by omega)).trans h4, (hc _ (by omega)).trans h5, (hc _ (by omega)).trans h6⟩

theorem SRdAt.grown {w w' : World} {rb top : Nat} {r : Option Nat} {s : Ss.Rd} (h : SRdAt w rb top s) (hg : w.grownBy w' r) (hr : ∀ i, r = some i → rb < i) : SRdAt w' rb top s := by
  have hl := h.lt
  obtain ⟨⟨ao, cap, g1, g2, g3, g4⟩, h5, h6⟩ := h
  refine ⟨⟨ao, cap, (hg.block rb hl (fun e => by have := hr rb e.symm; omega)).trans g1, g2, g3, fun h0 => ?_⟩, h5, h6⟩
  obtain ⟨b, off, e, hlt, hat⟩ := g4 h0
  exact ⟨b, off, e, hlt, fun j hj => hg.cell (hat j hj) (fun e => by have := hr b e.symm; omega)⟩
/-- What the loop has behind some parts. -/
structure PsL (w wr : World) (s : Ss.Rd) (l : List Ss.Prt) (v : Value) : Prop where
  rd : SRdAt wr w.heap.size w.heap.size s
  own : wr.ownsRow (w.heap.size + 1) 78 6 v l.length (pcs l)
  bel : Below w.heap.size w wr

theorem goesOn_nil (p : Ss.Prt) : Ss.goesOn [] p = true := rfl
theorem goesOn_snoc (l : List Ss.Prt) (y p : Ss.Prt) : Ss.goesOn (l ++ [y]) p = Mm.ahead y.ent p.ent := by unfold Ss.goesOn; rw [List.getLast?_concat]
theorem loop_bad {n : Nat} {s : Ss.Rd} {l : List Ss.Prt} (h : (Ss.step s l).bad = true) : Ss.loop (n + 1) s l = (Ss.step s l, l) := by rw [Ss.loop, if_pos h]
theorem loop_on {n : Nat} {s : Ss.Rd} {l : List Ss.Prt} (h : (Ss.step s l).bad = false) : Ss.loop (n + 1) s l = Ss.loop n (Ss.step s l) (l ++ [Ss.partX s (Ss.lastFin l)]) := by rw [Ss.loop, h]; rfl
theorem step_on {s : Ss.Rd} {l : List Ss.Prt} (h : Ss.goesOn l (Ss.partX s (Ss.lastFin l)) = true) : Ss.step s l = Ss.part s := by unfold Ss.step; rw [if_pos h]
theorem step_off {s : Ss.Rd} {l : List Ss.Prt} (h : Ss.goesOn l (Ss.partX s (Ss.lastFin l)) = false) : Ss.step s l = ⟨[], true⟩ := by unfold Ss.step; rw [h]; rfl

set_option maxRecDepth 100000 in
set_option maxHeartbeats 8000000 in
theorem parts_any (w : World) (a : Option Addr) (c : Nat) (b : List UInt8) (h : BytesIn w (.slice a b.length c) b) (hcap : b.length ≤ c) (ha : (a = none ∧ c = 0) ∨ ∃ g off, a = some ⟨g, off, none⟩) (hlen : b.length ≤ 1000000000) :
    Calls Tryz.prog 43 #[.slice a b.length c] w fun e w' => ∃ v, e = .returned (.tuple #[v, .bool (Ss.indexOk b)]) ∧ w'.ownsRow w.heap.size 78 6 v (Ss.indexR b).2.length (pcs (Ss.indexR b).2) ∧ Below w.heap.size w w' := by
  obtain ⟨i0, hi, hz0, hz1, hz2⟩ := info_parts infoP
  have R0 : SRdAt (w.alloc (.cells #[.slice a b.length c, .bool false] 110)) w.heap.size w.heap.size ⟨b, false⟩ := by
    refine ⟨⟨a, c, World.alloc_heap_new w _, hcap, ha, fun h0 => ?_⟩, hlen, Nat.le_refl _⟩
    obtain ⟨⟨a', c', e, hf⟩, _⟩ := h
    cases e
    obtain ⟨g, off, rfl, hat⟩ := hf h0
    refine ⟨g, off, rfl, World.block_lt_of_cell? w _ (hat 0 (List.length_pos_iff.mpr h0)), hat.later ((Below.refl _ _).alloc (Nat.le_refl _) _)⟩
  have NM := rnumber_any _ _ _ _ 1 65536 R0 (by decide) (by decide)
  have HI : Hid (Ss.loop (Ss.numX ⟨b, false⟩ 1 65536) (Ss.num ⟨b, false⟩ 1 65536) [] = Ss.indexR b) := rfl
  have HK : Hid (Ss.indexOk b = (!(Ss.indexR b).1.bad && decide ((Ss.indexR b).1.rest.length = 0))) := rfl
  have hN := Ss.numX_le ⟨b, false⟩ 1 65536
  clear h hcap ha hlen
  generalize Ss.indexOk b = OB at HK ⊢
  generalize Ss.num ⟨b, false⟩ 1 65536 = S0 at NM HI
  generalize Ss.numX ⟨b, false⟩ 1 65536 = N at NM HI hN
  generalize Ss.indexR b = IR at HI HK ⊢
  go_enter Tryz.func43, Tryz.ntmps43
  go_wp2_with (first
    | (go_at_call 72; refine NM.mono ?_; rintro e w1 ⟨rfl, r1, g1, z1⟩; clear NM))
  have D0 : PsL w w1 S0 [] (.slice none 0 0) := ⟨r1, World.ownsRow_nil _ _ _ _, ((Below.refl _ _).alloc (Nat.le_refl _) _).grown g1 (by simp) (fun k hk => by cases hk; exact Nat.le_refl _)⟩
  clear r1 g1 z1 R0
  go_loopw [5, 6, 11] (fun v t i wr => ∃ (j : Nat) (s : Ss.Rd) (l : List Ss.Prt), j ≤ N ∧ i = .int .i64 j ∧ t = .int .i64 (Ss.lastFin l : Int) ∧ Ss.lastFin l ≤ j * 1048588 ∧ l.length = j ∧ Hid (Ss.loop (N - j) s l = IR) ∧ PsL w wr s l v) (fun _ _ i _ => N - (intOf i).toNat)
  case atStart => exact ⟨0, S0, [], Nat.zero_le _, rfl, rfl, Nat.zero_le _, rfl, HI.out, D0⟩
  case round =>
    obtain ⟨j, s, l, hj, rfl, rfl, hfin, hlj, HL, D⟩ := hrel
    clear D0 HI
    by_cases hlt : j < N
    · have RP := rpart_any wr w.heap.size w.heap.size s (Ss.lastFin l) (by omega) D.rd
      obtain ⟨n, hn⟩ : ∃ n, N - j = n + 1 := ⟨N - j - 1, by omega⟩
      have HN1 : Hid (N - (j + 1) = n) := by show _ = _; omega
      rw [hn] at HL
      have SB : Hid ((Ss.step s l).bad = true → (Ss.step s l, l) = IR) := fun e => by rw [← HL.out, loop_bad e]
      have SG : Hid ((Ss.step s l).bad = false → Ss.loop n (Ss.step s l) (l ++ [Ss.partX s (Ss.lastFin l)]) = IR) := fun e => by rw [← HL.out, loop_on e]
      have S1 := hide (@step_on s l)
      have S2 := hide (@step_off s l)
      have hF : (Ss.partX s (Ss.lastFin l)).fin = Ss.lastFin l + Ss.numX s 13 1048588 := rfl
      have hX := Ss.numX_le s 13 1048588
      have hF2 : (Ss.partX s (Ss.lastFin l)).fin ≤ (j + 1) * 1048588 := by rw [hF]; omega
      have LF : Hid (Ss.lastFin (l ++ [Ss.partX s (Ss.lastFin l)]) = (Ss.partX s (Ss.lastFin l)).fin) := Ss.lastFin_snoc _ _
      have HP : Hid (pcs (l ++ [Ss.partX s (Ss.lastFin l)]) = pcs l ++ pcs [Ss.partX s (Ss.lastFin l)]) := pcs_append _ _
      have AH : Hid (∀ y wx, Calls Tryz.prog 48 #[entV (Ss.Prt.ent y), entV (Ss.Prt.ent (Ss.partX s (Ss.lastFin l)))] wx fun r w' => r = .returned (.bool (Mm.ahead y.ent (Ss.partX s (Ss.lastFin l)).ent)) ∧ Below wx.heap.size wx w') := fun y wx => ahead_any wx _ _
      have CN := hide (fun W B hB => pc_new W (Ss.partX s (Ss.lastFin l)) B hB)
      have HLJ := hide hlj
      have GS := hide (fun l' y (e : l = l' ++ [y]) => show Ss.goesOn l (Ss.partX s (Ss.lastFin l)) = Mm.ahead y.ent (Ss.partX s (Ss.lastFin l)).ent by rw [e]; exact goesOn_snoc l' y _)
      have GN := hide (fun (e : l = []) => show Ss.goesOn l (Ss.partX s (Ss.lastFin l)) = true by rw [e, goesOn_nil])
      unfold prtV at RP
      generalize Ss.goesOn l (Ss.partX s (Ss.lastFin l)) = A at *
      generalize Ss.partX s (Ss.lastFin l) = p at *
      generalize Ss.step s l = S3 at *
      generalize Ss.part s = S4 at *
      obtain ⟨X, F, K, Q⟩ := p
      simp only at hF hF2 RP LF
      obtain ⟨d1, d2, d3⟩ := D
      have z0 : w.heap.size < wr.heap.size := d1.lt
      have O2 := hide d2
      clear hF hX HL hfin d1 hn hlj
      go_wp2_with (first
        | (go_at_call 73; refine RP.mono ?_; rintro e w3 ⟨rfl, r3, g3⟩; clear RP))
      obtain ⟨W4, hW4⟩ : ∃ W4, W4 = w3.alloc (.cells #[.int .i64 (X : Int), .int .i64 (F : Int), str K, str [], .int .i64 (Q : Int), .bool false] 78) := ⟨_, rfl⟩
      have a4 : Below w3.heap.size w3 W4 := by rw [hW4]; exact (Below.refl _ _).alloc (Nat.le_refl _) _
      have p4 : W4.heap[w3.heap.size]? = some (.cells #[.int .i64 (X : Int), .int .i64 (F : Int), str K, str [], .int .i64 (Q : Int), .bool false] 78 (0, 0)) := by rw [hW4]; exact World.alloc_heap_new w3 _
      have HG := hide (fun i hi => Nat.lt_of_lt_of_le (O2.out.lt i hi).2 g3.size)
      have o3 := own_moved O2.out (grown_moved g3) (fun i hi => by cases hi; omega)
      have o4 := own_after o3 a4
      have R4 := hide (r3.later a4)
      have B4 := (d3.grown g3 d3.size (fun k hk => by cases hk; exact Nat.le_refl _))
      have B5 := B4.trans (a4.mono B4.size)
      obtain ⟨G, hG⟩ : ∃ G, G = w3.heap.size := ⟨_, rfl⟩
      have gz : w.heap.size < G := by rw [hG]; exact r3.lt
      have gl : G < W4.heap.size := by rw [hG]; exact (Array.getElem?_eq_some_iff.1 p4).1
      rw [← hW4]
      rw [← hG] at p4 HG ⊢
      have O4 := hide o4
      have P4 := hide p4
      clear O2 o3 r3 g3 a4 d3 B4 hW4 d2 hG
      go_cut [30] from 15 to 30 (fun q wx => q = .bool (!A) ∧ Below W4.heap.size W4 wx)
      case first =>
        rcases List.eq_nil_or_concat l with ho | ⟨l', y, ho⟩
        · have hA := GN.out ho
          have hl0 : l.length = 0 := by rw [ho]; rfl
          obtain ⟨a', c', rfl⟩ := row_shape o4
          rw [hl0] at *
          subst hA
          clear o4 p4 GN GS S1 S2 SB SG AH CN HP LF HLJ O4 P4 R4 ho B5
          go_quiet (fail)
          go_wp2_with (fail)
          go_meet
          case rel => exact ⟨rfl, below_drewN (Below.refl _ _) _⟩
        · rw [List.concat_eq_append] at ho
          have hA := GS.out l' y ho
          have AY := hide (AH.out y)
          rw [← hA] at AY
          subst ho
          have hol : (l' ++ [y]).length = l'.length + 1 := by simp
          obtain ⟨⟨pa, pc, hv, hpc, hpf⟩⟩ := PartsAt.own o4
          obtain ⟨g, rfl, hg1, hcell⟩ := hpf (by simp)
          rw [hol] at hv
          subst hv
          obtain ⟨c0, c1, c2, c3, c4, c5⟩ := hcell l'.length (by simp)
          clear c0 c1
          have hy : (l' ++ [y])[l'.length]'(by simp) = y := by simp
          rw [hy] at c2 c4
          obtain ⟨_, _, e2, e3, e4, e5, _⟩ := slot6 p4
          have hlj := HLJ.out
          rw [hol] at hlj
          rw [hol] at hpc
          obtain ⟨YX, YF, YK, YQ⟩ := y
          simp only [Ss.Prt.ent] at AY c2 c3 c4 c5
          clear hA GN GS S1 S2 SB SG AH CN HP LF HLJ O4 P4 R4 B5 hcell hpf o4 hy hol
          generalize l'.length = k at *
          have q0 : (0 : Int) ≤ (k : Int) := by omega
          have q1 : ((k + 1 : Nat) : Int) > 0 := by omega
          have q2 : (k : Int) < ((k + 1 : Nat) : Int) := by omega
          have q3 : (k : Int) < (k : Int) + 1 := by omega
          have q4 : (0 : Int) < (k : Int) + 1 := by omega
          have wm : IntKind.i64.wrap (k : Int) = (k : Int) := by rw [IntKind.wrap_i64]; omega
          have wm1 : IntKind.i64.wrap ((k : Int) + 1) = (k : Int) + 1 := by rw [IntKind.wrap_i64]; omega
          have KC : Hid (∀ wx, Below W4.heap.size W4 wx → (wx.cell? ⟨g, k * 6 + 2, none⟩ = some (str YK) ∧ wx.cell? ⟨g, k * 6 + 3, none⟩ = some (str []) ∧ wx.cell? ⟨g, k * 6 + 4, none⟩ = some (.int .i64 (YQ : Int)) ∧ wx.cell? ⟨g, k * 6 + 5, none⟩ = some (.bool false)) ∧ wx.cell? ⟨G, 2, none⟩ = some (str K) ∧ wx.cell? ⟨G, 3, none⟩ = some (str []) ∧ wx.cell? ⟨G, 4, none⟩ = some (.int .i64 (Q : Int)) ∧ wx.cell? ⟨G, 5, none⟩ = some (.bool false)) := fun wx hw => ⟨⟨keepC hw c2, keepC hw c3, keepC hw c4, keepC hw c5⟩, keepC hw e2, keepC hw e3, keepC hw e4, keepC hw e5⟩
          have P1 := KC.out W4.drew (Below.refl _ _).drew
          clear c2 c3 c4 c5 e2 e3 e4 e5 p4 hlj
          go_region_held3 (fun wx => (wx.cell? ⟨g, k * 6 + 2, none⟩ = some (str YK) ∧ wx.cell? ⟨g, k * 6 + 3, none⟩ = some (str []) ∧ wx.cell? ⟨g, k * 6 + 4, none⟩ = some (.int .i64 (YQ : Int)) ∧ wx.cell? ⟨g, k * 6 + 5, none⟩ = some (.bool false)) ∧ wx.cell? ⟨G, 2, none⟩ = some (str K) ∧ wx.cell? ⟨G, 3, none⟩ = some (str []) ∧ wx.cell? ⟨G, 4, none⟩ = some (.int .i64 (Q : Int)) ∧ wx.cell? ⟨G, 5, none⟩ = some (.bool false))
            (first | exact P1 | exact P2)
            (first
              | (go_at_call 48; refine (AY.out _).mono ?_; rintro r w8 ⟨rfl, b8⟩; have D8 := (Below.refl W4.heap.size W4).drew.trans b8; have P2 := KC.out _ D8))
          go_wp2_with (fail)
          go_meet
          case rel => exact ⟨rfl, D8⟩
      case rest =>
        obtain ⟨rfl, b6⟩ := hcut
        have o6 := hide (own_after O4.out b6)
        have p6 := keepB b6 P4.out
        have r6 := R4.out.later b6
        have B6 := B5.trans (b6.mono B5.size)
        obtain ⟨e0, e1, e2, e3, e4, e5, _⟩ := slot6 p6
        clear AH GS GN O4 P4 R4 B5 b6 o4 p4
        cases A with
        | false =>
          have e3' : S3 = ⟨[], true⟩ := S2.out rfl
          subst e3'
          have e4' := hide (SB.out rfl)
          obtain ⟨⟨ao, cap, hb, _⟩, _, hle⟩ := r6
          have FA := hide (rfail_any _ w.heap.size w.heap.size hle _ _ hb)
          clear SB SG S1 S2 CN HP LF hb
          go_wp2_with (first
            | (go_at_call 74; refine FA.out.mono ?_; rintro e w7 ⟨⟨u7, rfl⟩, r7, g7, z7⟩; obtain ⟨⟨ao', cap', hb', _⟩, _, _⟩ := r7; have c1 : w7.cell? ⟨w.heap.size, 1, none⟩ = some (.bool true) := Joins.cell_of_block hb' 1; clear FA))
          have o7 := hide (own_lift (own_moved o6.out (grown_moved g7) (fun i hi => by cases hi; omega)) (Nat.le_succ w.heap.size))
          have B7 := B6.grown g7 B6.size (fun k hk => by cases hk; exact Nat.le_refl _)
          have K0 : Hid (OB = false) := by show _ = _; rw [HK.out, ← e4'.out]; rfl
          have K1 : Hid (IR.2 = l) := by show _ = _; rw [← e4'.out]
          clear HK e4' o6 B6 g7 hb' HN1 HLJ HG p6 e0 e1 e2 e3 e4 e5
          go_quiet (fail)
          go_wp2_with (fail)
          go_ret2
          rw [K1.out, K0.out]
          exact ⟨_, rfl, own_after o7.out (below_drewN (Below.refl _ _) _), below_drewN B7 _⟩
        | true =>
          have e3' : S3 = S4 := S1.out rfl
          subst e3'
          have R6 := hide r6
          obtain ⟨⟨ao, cap, hb, hc, hno, hf⟩, hlen, hle⟩ := r6
          have c1 : _ = some (Value.bool S3.bad) := Joins.cell_of_block hb 1
          obtain ⟨sr, sb⟩ := S3
          cases sb with
          | true =>
            have e4' := hide (SB.out rfl)
            have o7 := hide (own_lift o6.out (Nat.le_succ w.heap.size))
            have K0 : Hid (OB = false) := by show _ = _; rw [HK.out, ← e4'.out]; rfl
            have K1 : Hid (IR.2 = l) := by show _ = _; rw [← e4'.out]
            clear HK e4' o6 HN1 HLJ HG p6 e0 e1 e2 e3 e4 e5 SB SG S1 S2 CN HP LF hb hno hf hc R6
            go_wp2_with (fail)
            go_quiet (fail)
            go_wp2_with (fail)
            go_ret2
            rw [K1.out, K0.out]
            exact ⟨_, rfl, own_after o7.out (below_drewN (Below.refl _ _) _), below_drewN B6 _⟩
          | false =>
            have e4' := hide (SG.out rfl)
            have HL1 : Hid ((pcs [⟨X, F, K, Q⟩]).length = 1 * 6) := rfl
            have HO : Hid (∀ u ∈ pcs [⟨X, F, K, Q⟩], u.oneCell' = true) := pcs_one _
            have hlj := HLJ.out
            have Z1 : Hid (l.length + 1 ≤ maxLen) := by show _ ≤ _; unfold maxLen; omega
            have Z2 : Hid ((l.length + 1) * 64 ≤ 140737488355328) := by show _ ≤ _; omega
            clear hlj SB SG S1 S2 HK hb hno hf hc
            go_wp2_with (first
              | (at_builtin; refine wpList_append_lies _ rfl _ _ 74 rfl (w.heap.size + 1) 78 i0 _ 6 64 Tryz.underlying74 hi hz0 hz1 hz2 rfl (by decide) _ l.length _ rfl (o6.out.alloc _) ⟨_, 0, none⟩ 1 1 (pcs [⟨X, F, K, Q⟩]) rfl HL1.out (CN.out _ _ rfl) HO.out (by decide) Z1.out Z2.out (by have := B6.size; simp; omega) _ rfl ?_; intro g8 cap8 w8 o8 h8 l8 lt8; have kx : w8.cell? ⟨G, 1, none⟩ = some (.int .i64 (F : Int)) := h8.cell (keepC ((Below.refl _ _).alloc (Nat.le_refl _) _) e1) (fun e => Nat.lt_irrefl G (HG.out G e.symm))))
            have RA := (R6.out.later ((Below.refl _ _).alloc (Nat.le_refl _) _)).grown h8 (fun i hi => (o6.out.lt i hi).1)
            have B8 := (B6.alloc B6.size _).grown h8 (by have := B6.size; simp; omega) (fun k hk => by have := (o6.out.lt k hk).1; omega)
            refine ⟨⟨j + 1, ⟨sr, false⟩, l ++ [⟨X, F, K, Q⟩], by omega, by go_num, ?_, ?_, ?_, ?_, ⟨RA, ?_, B8⟩⟩, by simp [intOf]; omega⟩
            · rw [LF.out]
            · rw [LF.out]; exact hF2
            · rw [List.length_append, HLJ.out]; rfl
            · show _ = _; rw [HN1.out]; exact e4'.out
            · rw [HP.out, List.length_append]; exact o8
    · have e : j = N := by omega
      subst e
      have i3 : ¬ (j : Int) < (j : Int) := by omega
      have e1 : (s, l) = IR := by have := HL.out; rw [Nat.sub_self] at this; exact this
      subst e1
      obtain ⟨d1, d2, d3⟩ := D
      obtain ⟨⟨ao, cap, hb, hc, hno, hf⟩, hlen, hle⟩ := d1
      have c0 : wr.cell? ⟨w.heap.size, 0, none⟩ = some (.slice ao s.rest.length cap) := Joins.cell_of_block hb 0
      have c1 : wr.cell? ⟨w.heap.size, 1, none⟩ = some (.bool s.bad) := Joins.cell_of_block hb 1
      have O := hide (own_lift d2 (Nat.le_succ _))
      obtain ⟨va, vc, rfl⟩ := row_shape d2
      rw [hlj] at O
      obtain ⟨sr, sb⟩ := s
      cases sb with
      | true =>
        have K0 : Hid (OB = false) := HK.out
        have HLJ := hide hlj
        clear d2 hb hno hf HL hfin HK hlj
        go_wp2_with (fail)
        go_quiet (fail)
        go_wp2_with (fail)
        go_ret2
        exact ⟨_, by rw [K0.out]; rfl, (by show World.ownsRow _ _ _ _ _ l.length _; rw [HLJ.out]; exact own_after O.out (below_drewN (Below.refl _ _) _)), below_drewN d3 _⟩
      | false =>
        have K0 : Hid (OB = ((sr.length : Int) == 0)) := by
          show _ = _
          rw [HK.out]
          show decide (sr.length = 0) = _
          by_cases h0 : sr.length = 0
          · rw [h0]; rfl
          · rw [decide_eq_false h0]; symm; simpa using h0
        have HLJ := hide hlj
        clear d2 hb hno hf HL hfin HK hlj
        go_wp2_with (fail)
        go_quiet (fail)
        go_wp2_with (fail)
        go_ret2
        exact ⟨_, by rw [K0.out]; rfl, (by show World.ownsRow _ _ _ _ _ l.length _; rw [HLJ.out]; exact own_after O.out (below_drewN (Below.refl _ _) _)), below_drewN d3 _⟩
end Go.Proofs.YtolalicliojkfaaGreat
