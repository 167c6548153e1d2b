/-
  What the document's own package answers of entries in spans.
-/
import Derived.Test.YtbdgdigpnfpnhaaBRef7
namespace Go.Proofs.Ytbdgdigpnfpnhaa
open Go.RowKit

theorem skipH {P : Program} {md : Region.Mode} {ops : Array Oper} {Q : Exit → Act → World → Prop} {S : World → Prop} (i d : Nat) {fuel : Nat} {listed : Array Bool} {a : Act} {w : World}
    (ho : ∃ o, ops[i]? = some o ∧ o.dst = some d ∧ Region.wanted o (yielded ops a.tmps) = false)
    (hs : Region.noSelect ops = true) (hf : Region.free md ops listed i = true) (hr : (Region.ready md ops listed).contains i = true)
    (hQ : ∀ c a w, Q (.panic c) (a.put (some d) undef) w → Q (.panic c) a w) (hS : S w)
    (h : wpAnyH P md ops Q S fuel (listed.setIfInBounds i true) (a.put (some d) undef) w) : wpAnyH P md ops Q S (fuel + 1) listed a w := by
  obtain ⟨o, h1, h2, h3⟩ := ho
  refine wpAnyH_take h1 hs hf hr ?_ (Or.inr ⟨h3, rfl⟩) hS ?_
  · rw [h2]; exact hQ
  · rw [h2]; exact h
theorem takeH {P : Program} {md : Region.Mode} {ops : Array Oper} {Q : Exit → Act → World → Prop} {S : World → Prop} (i d : Nat) (v : Value) {fuel : Nat} {listed : Array Bool} {a : Act} {w : World} {oi : Oper}
    (ho : ops[i]? = some oi) (hd : oi.dst = some d) (hw : Region.wanted oi (yielded ops a.tmps) = true)
    (hy : ∀ w, S w → (execOp a.eval oi).run P w = .ok (.value v) w)
    (hs : Region.noSelect ops = true) (hf : Region.free md ops listed i = true) (hr : (Region.ready md ops listed).contains i = true)
    (hQ : ∀ c a w, Q (.panic c) (a.put (some d) v) w → Q (.panic c) a w) (hS : S w)
    (h : wpAnyH P md ops Q S fuel (listed.setIfInBounds i true) (a.put (some d) v) w) : wpAnyH P md ops Q S (fuel + 1) listed a w := by
  refine wpAnyH_take ho hs hf hr ?_ (Or.inl ⟨hw, hy⟩) hS ?_
  · rw [hd]; exact hQ
  · rw [hd]; exact h

theorem span_next (f t : List UInt8) (l : List Mm.Ent) (j : Nat) (h : j < l.length) : Mm.spanL f t (l.take (j + 1)) = if Mm.inB l[j].key f t then Mm.spanL f t (l.take j) ++ [l[j]] else Mm.spanL f t (l.take j) := by
  unfold Mm.spanL
  rw [List.take_succ_eq_append_getElem h, List.filter_append]
  cases hb : Mm.inB l[j].key f t <;> simp [hb]

set_option maxRecDepth 100000 in
set_option maxHeartbeats 8000000 in
theorem rspan_any (w : World) (a : Option Addr) (c n : Nat) (l : List Mm.Ent) (h : EntsAt w (.slice a n c) l) (hn : n = l.length) (hl : n ≤ 100000) (f t : List UInt8) (seq : Int) :
    Calls Try.prog 74 #[.slice a n c, .agg #[str f, str t], .int .i64 seq] w fun e w' => ∃ v, e = .returned v ∧ w'.ownsRow w.heap.size 38 4 v (Mm.told seq (Mm.spanL f t l)).length (ecs (Mm.told seq (Mm.spanL f t l))) ∧ Below w.heap.size w w' := by
  obtain ⟨i0, hi, hz0, hz1, hz2⟩ := info_parts infoE
  obtain ⟨W, hW⟩ : ∃ W, W = w.alloc (.cells #[str f, str t] 46) := ⟨_, rfl⟩
  have b0 : Below w.heap.size w W := by rw [hW]; exact (Below.refl _ _).alloc (Nat.le_refl _) _
  have y0 : W.heap[w.heap.size]? = some (.cells #[str f, str t] 46 (0, 0)) := by rw [hW]; exact World.alloc_heap_new w _
  have HA := hide (h.later b0)
  have HN : Hid (n = l.length) := hn
  have HW := hide hW
  have HY := hide y0
  have HB := hide b0
  have WZ : Hid (W.heap.size = w.heap.size + 1) := by show _ = _; rw [hW]; simp
  have IN : Hid (∀ wx k, Calls Try.prog 87 #[str k, .agg #[str f, str t]] wx fun e w' => e = .returned (.bool (Mm.inB k f t)) ∧ Below wx.heap.size wx w') := fun wx k => rin_any wx k f t
  clear h hn b0 y0 hW
  go_enter Try.func74, Try.ntmps74
  go_wp2_with (fail)
  rw [← HW.out]
  go_loopw [7, 8] (fun v i wr => ∃ j : Nat, j ≤ n ∧ i = .int .i64 j ∧ Below W.heap.size W wr ∧ wr.ownsRow W.heap.size 38 4 v (Mm.told seq (Mm.spanL f t (l.take j))).length (ecs (Mm.told seq (Mm.spanL f t (l.take j))))) (fun _ i _ => n - (intOf i).toNat)
  case atStart => exact ⟨0, Nat.zero_le _, rfl, Below.refl _ _, World.ownsRow_nil _ _ _ _⟩
  case round =>
    obtain ⟨j, hj, rfl, bx, o⟩ := hrel
    by_cases hlt : j < n
    · have jl : j < l.length := by have := HN.out; omega
      obtain ⟨b, off, rfl⟩ := (HA.out).some (by omega)
      have KC : Hid (∀ wx, Below W.heap.size W wx → (wx.cell? ⟨b, off + j * 4, none⟩ = some (str l[j].key) ∧ wx.cell? ⟨b, off + j * 4 + 2, none⟩ = some (.int .i64 l[j].seq)) ∧ wx.cell? ⟨w.heap.size, 0, none⟩ = some (str f) ∧ wx.cell? ⟨w.heap.size, 1, none⟩ = some (str t)) := fun wx hx => by
        obtain ⟨c0, _, c2, _⟩ := (HA.out.later hx).cells j jl
        have := keepB hx HY.out
        exact ⟨⟨c0, c2⟩, Joins.cell_of_block this 0, Joins.cell_of_block this 1⟩
      obtain ⟨e0, e1, e2, e3⟩ := (HA.out.later bx).cells j jl
      have CE : Hid (∀ wx, Below W.heap.size W wx → wx.cell? ⟨b, off + j * 4, none⟩ = some (str l[j].key) ∧ wx.cell? ⟨b, off + j * 4 + 1, none⟩ = some (str l[j].value) ∧ wx.cell? ⟨b, off + j * 4 + 2, none⟩ = some (.int .i64 l[j].seq) ∧ wx.cell? ⟨b, off + j * 4 + 3, none⟩ = some (.bool l[j].del)) := fun wx hx => (HA.out.later hx).cells j jl
      have hsp := span_next f t l j jl
      have TS : Hid (Mm.told seq (Mm.spanL f t (l.take (j + 1))) = if Mm.inB l[j].key f t then Mm.tell seq (Mm.told seq (Mm.spanL f t (l.take j))) l[j] else Mm.told seq (Mm.spanL f t (l.take j))) := by
        show _ = _
        rw [hsp]
        split
        · rw [Mm.told_snoc]
        · rfl
      have hlo : (Mm.told seq (Mm.spanL f t (l.take j))).length ≤ n := by
        have h1 := Mm.told_len seq (Mm.spanL f t (l.take j))
        have h2 : (Mm.spanL f t (l.take j)).length ≤ (l.take j).length := List.length_filter_le _ _
        rw [List.length_take] at h2
        omega
      have IX := hide (fun wx => IN.out wx l[j].key)
      have j1 : (j : Int) < (n : Int) := by omega
      have j2 : (0 : Int) ≤ (j : Int) := by omega
      generalize l[j] = x at *
      generalize Mm.told seq (Mm.spanL f t (l.take j)) = out at *
      generalize hIB : Mm.inB x.key f t = ib at *
      obtain ⟨K, V, Q, D⟩ := x
      simp only at KC CE TS e0 e1 e2 e3 IX
      obtain ⟨va, vc, rfl⟩ := row_shape o
      have O := hide o
      clear hIB hsp HA IN e0 e1 e2 e3
      obtain ⟨⟨p0, p2⟩, p4, p5⟩ := KC.out wr bx
      obtain ⟨tb, TB⟩ : ∃ tb, Hid (tb = (ib && decide (Q ≤ seq) && !toldB out ⟨K, V, Q, D⟩)) := ⟨_, rfl⟩
      go_wp2_with (fail)
      go_cut [51] from 18 to 51 (fun q wx => q = .bool tb ∧ Below wr.heap.size wr wx)
      case first =>
        clear TS CE
        have SH : Hid (∀ wx, Below wr.heap.size wr wx → (fun wx => (wx.cell? ⟨b, off + j * 4, none⟩ = some (str K) ∧ wx.cell? ⟨b, off + j * 4 + 2, none⟩ = some (.int .i64 Q)) ∧ (wx.cell? ⟨w.heap.size, 0, none⟩ = some (str f) ∧ wx.cell? ⟨w.heap.size, 1, none⟩ = some (str t)) ∧ Hid (Below wr.heap.size wr wx)) wx) := fun wx hx => by obtain ⟨h1, h2, h3⟩ := KC.out wx (bx.trans (hx.mono bx.size)); exact ⟨h1, ⟨h2, h3⟩, hx⟩
        have P0 := SH.out wr.drew (Below.refl _ _).drew
        refine wp_region_held_drew (S := (fun wx => (wx.cell? ⟨b, off + j * 4, none⟩ = some (str K) ∧ wx.cell? ⟨b, off + j * 4 + 2, none⟩ = some (.int .i64 Q)) ∧ (wx.cell? ⟨w.heap.size, 0, none⟩ = some (str f) ∧ wx.cell? ⟨w.heap.size, 1, none⟩ = some (str t)) ∧ Hid (Below wr.heap.size wr wx))) (by kernel_rfl) P0 (fun hHeld => ?_)
        refine takeH (oi := ?oi1) 0 18 (.slice (some ⟨b, off, none⟩) n c) ?hi1 ?hd1 ?hw1 ?hy1 (by kernel_rfl) (by kernel_rfl) (by kernel_rfl) ?hQ1 (by assumption) ?_
        case hi1 => simp only [List.getElem?_toArray, List.getElem?_cons_zero]; rfl
        case hd1 => rfl
        case hw1 => rfl
        case hy1 => (intro w hSw; (try dsimp only at hSw); go_simp)
        case hQ1 => exact fun _ _ _ h => h
        simp only [Act.put, List.setIfInBounds_toArray, List.set_cons_zero, List.set_cons_succ]
        refine takeH (oi := ?oi2) 1 19 (.int .i64 (j : Int)) ?hi2 ?hd2 ?hw2 ?hy2 (by kernel_rfl) (by kernel_rfl) (by kernel_rfl) ?hQ2 (by assumption) ?_
        case hi2 => simp only [List.getElem?_toArray, List.getElem?_cons_zero, List.getElem?_cons_succ]; rfl
        case hd2 => rfl
        case hw2 => rfl
        case hy2 => (intro w hSw; (try dsimp only at hSw); go_simp)
        case hQ2 => exact fun _ _ _ h => h
        simp only [Act.put, List.setIfInBounds_toArray, List.set_cons_zero, List.set_cons_succ]
        refine takeH (oi := ?oi3) 2 20 (.pointer (some ⟨b, off + j * 4, none⟩)) ?hi3 ?hd3 ?hw3 ?hy3 (by kernel_rfl) (by kernel_rfl) (by kernel_rfl) ?hQ3 (by assumption) ?_
        case hi3 => simp only [List.getElem?_toArray, List.getElem?_cons_zero, List.getElem?_cons_succ]; rfl
        case hd3 => rfl
        case hw3 => rfl
        case hy3 => (intro w hSw; (try dsimp only at hSw); go_simp)
        case hQ3 => exact fun _ _ _ h => h
        simp only [Act.put, List.setIfInBounds_toArray, List.set_cons_zero, List.set_cons_succ]
        refine takeH (oi := ?oi4) 3 21 (.pointer (some ⟨b, off + j * 4, none⟩)) ?hi4 ?hd4 ?hw4 ?hy4 (by kernel_rfl) (by kernel_rfl) (by kernel_rfl) ?hQ4 (by assumption) ?_
        case hi4 => simp only [List.getElem?_toArray, List.getElem?_cons_zero, List.getElem?_cons_succ]; rfl
        case hd4 => rfl
        case hw4 => rfl
        case hy4 => (intro w hSw; (try dsimp only at hSw); go_simp)
        case hQ4 => exact fun _ _ _ h => h
        simp only [Act.put, List.setIfInBounds_toArray, List.set_cons_zero, List.set_cons_succ]
        refine takeH (oi := ?oi5) 4 22 (str K) ?hi5 ?hd5 ?hw5 ?hy5 (by kernel_rfl) (by kernel_rfl) (by kernel_rfl) ?hQ5 (by assumption) ?_
        case hi5 => simp only [List.getElem?_toArray, List.getElem?_cons_zero, List.getElem?_cons_succ]; rfl
        case hd5 => rfl
        case hw5 => rfl
        case hy5 => (intro w hSw; (try dsimp only at hSw); go_simp)
        case hQ5 => exact fun _ _ _ h => h
        simp only [Act.put, List.setIfInBounds_toArray, List.set_cons_zero, List.set_cons_succ]
        refine takeH (oi := ?oi6) 5 23 (.agg #[str f, str t]) ?hi6 ?hd6 ?hw6 ?hy6 (by kernel_rfl) (by kernel_rfl) (by kernel_rfl) ?hQ6 (by assumption) ?_
        case hi6 => simp only [List.getElem?_toArray, List.getElem?_cons_zero, List.getElem?_cons_succ]; rfl
        case hd6 => rfl
        case hw6 => rfl
        case hy6 => (intro w hSw; (try dsimp only at hSw); go_simp)
        case hQ6 => exact fun _ _ _ h => h
        simp only [Act.put, List.setIfInBounds_toArray, List.set_cons_zero, List.set_cons_succ]
        refine wpAnyH_ready (rs := [6]) (by kernel_rfl) (by simp) ?_
        refine AllReadyH.cons rfl (fun KK hK => ?_) AllReadyH.nil
        go_simp
        refine (IX.out _).mono ?_
        rintro e w2 ⟨rfl, b2⟩
        have B2 : Below wr.heap.size wr w2 := (Below.refl _ _).drew.trans b2
        go_wp2_with (fail)
        refine hK.out _ _ (SH.out _ B2) (fun hHeld2 => ?_)
        clear hK KK hHeld P0
        refine takeH (oi := ?oi7) 7 25 (.bool ib) ?hi7 ?hd7 ?hw7 ?hy7 (by kernel_rfl) (by kernel_rfl) (by kernel_rfl) ?hQ7 (by assumption) ?_
        case hi7 => simp only [List.getElem?_toArray, List.getElem?_cons_zero, List.getElem?_cons_succ]; rfl
        case hd7 => rfl
        case hw7 => rfl
        case hy7 => (intro w hSw; (try dsimp only at hSw); go_simp)
        case hQ7 => exact fun _ _ _ h => h
        simp only [Act.put, List.setIfInBounds_toArray, List.set_cons_zero, List.set_cons_succ]
        cases ib with
        | false =>
          have HB2 : Hid (tb = false) := TB.out
          clear TB o O
          refine skipH 8 26 ⟨_, rfl, rfl, by rfl⟩ (by kernel_rfl) (by kernel_rfl) (by kernel_rfl) (fun _ _ _ h => h) (by assumption) ?_
          simp only [Act.put, List.setIfInBounds_toArray, List.set_cons_zero, List.set_cons_succ]
          refine skipH 9 27 ⟨_, rfl, rfl, by rfl⟩ (by kernel_rfl) (by kernel_rfl) (by kernel_rfl) (fun _ _ _ h => h) (by assumption) ?_
          simp only [Act.put, List.setIfInBounds_toArray, List.set_cons_zero, List.set_cons_succ]
          refine skipH 10 28 ⟨_, rfl, rfl, by rfl⟩ (by kernel_rfl) (by kernel_rfl) (by kernel_rfl) (fun _ _ _ h => h) (by assumption) ?_
          simp only [Act.put, List.setIfInBounds_toArray, List.set_cons_zero, List.set_cons_succ]
          refine skipH 11 29 ⟨_, rfl, rfl, by rfl⟩ (by kernel_rfl) (by kernel_rfl) (by kernel_rfl) (fun _ _ _ h => h) (by assumption) ?_
          simp only [Act.put, List.setIfInBounds_toArray, List.set_cons_zero, List.set_cons_succ]
          refine skipH 12 30 ⟨_, rfl, rfl, by rfl⟩ (by kernel_rfl) (by kernel_rfl) (by kernel_rfl) (fun _ _ _ h => h) (by assumption) ?_
          simp only [Act.put, List.setIfInBounds_toArray, List.set_cons_zero, List.set_cons_succ]
          refine skipH 13 31 ⟨_, rfl, rfl, by rfl⟩ (by kernel_rfl) (by kernel_rfl) (by kernel_rfl) (fun _ _ _ h => h) (by assumption) ?_
          simp only [Act.put, List.setIfInBounds_toArray, List.set_cons_zero, List.set_cons_succ]
          refine skipH 14 32 ⟨_, rfl, rfl, by rfl⟩ (by kernel_rfl) (by kernel_rfl) (by kernel_rfl) (fun _ _ _ h => h) (by assumption) ?_
          simp only [Act.put, List.setIfInBounds_toArray, List.set_cons_zero, List.set_cons_succ]
          refine takeH (oi := ?oi8) 15 33 (.bool false) ?hi8 ?hd8 ?hw8 ?hy8 (by kernel_rfl) (by kernel_rfl) (by kernel_rfl) ?hQ8 (by assumption) ?_
          case hi8 => simp only [List.getElem?_toArray, List.getElem?_cons_zero, List.getElem?_cons_succ]; rfl
          case hd8 => rfl
          case hw8 => rfl
          case hy8 => (intro w hSw; (try dsimp only at hSw); go_simp)
          case hQ8 => exact fun _ _ _ h => h
          simp only [Act.put, List.setIfInBounds_toArray, List.set_cons_zero, List.set_cons_succ]
          refine takeH (oi := ?oi9) 16 34 (.bool false) ?hi9 ?hd9 ?hw9 ?hy9 (by kernel_rfl) (by kernel_rfl) (by kernel_rfl) ?hQ9 (by assumption) ?_
          case hi9 => simp only [List.getElem?_toArray, List.getElem?_cons_zero, List.getElem?_cons_succ]; rfl
          case hd9 => rfl
          case hw9 => rfl
          case hy9 => (intro w hSw; (try dsimp only at hSw); go_simp)
          case hQ9 => exact fun _ _ _ h => h
          simp only [Act.put, List.setIfInBounds_toArray, List.set_cons_zero, List.set_cons_succ]
          refine skipH 17 35 ⟨_, rfl, rfl, by rfl⟩ (by kernel_rfl) (by kernel_rfl) (by kernel_rfl) (fun _ _ _ h => h) (by assumption) ?_
          simp only [Act.put, List.setIfInBounds_toArray, List.set_cons_zero, List.set_cons_succ]
          refine skipH 18 36 ⟨_, rfl, rfl, by rfl⟩ (by kernel_rfl) (by kernel_rfl) (by kernel_rfl) (fun _ _ _ h => h) (by assumption) ?_
          simp only [Act.put, List.setIfInBounds_toArray, List.set_cons_zero, List.set_cons_succ]
          refine skipH 19 37 ⟨_, rfl, rfl, by rfl⟩ (by kernel_rfl) (by kernel_rfl) (by kernel_rfl) (fun _ _ _ h => h) (by assumption) ?_
          simp only [Act.put, List.setIfInBounds_toArray, List.set_cons_zero, List.set_cons_succ]
          refine skipH 20 38 ⟨_, rfl, rfl, by rfl⟩ (by kernel_rfl) (by kernel_rfl) (by kernel_rfl) (fun _ _ _ h => h) (by assumption) ?_
          simp only [Act.put, List.setIfInBounds_toArray, List.set_cons_zero, List.set_cons_succ]
          refine skipH 21 39 ⟨_, rfl, rfl, by rfl⟩ (by kernel_rfl) (by kernel_rfl) (by kernel_rfl) (fun _ _ _ h => h) (by assumption) ?_
          simp only [Act.put, List.setIfInBounds_toArray, List.set_cons_zero, List.set_cons_succ]
          refine skipH 22 40 ⟨_, rfl, rfl, by rfl⟩ (by kernel_rfl) (by kernel_rfl) (by kernel_rfl) (fun _ _ _ h => h) (by assumption) ?_
          simp only [Act.put, List.setIfInBounds_toArray, List.set_cons_zero, List.set_cons_succ]
          refine skipH 23 41 ⟨_, rfl, rfl, by rfl⟩ (by kernel_rfl) (by kernel_rfl) (by kernel_rfl) (fun _ _ _ h => h) (by assumption) ?_
          simp only [Act.put, List.setIfInBounds_toArray, List.set_cons_zero, List.set_cons_succ]
          refine skipH 24 42 ⟨_, rfl, rfl, by rfl⟩ (by kernel_rfl) (by kernel_rfl) (by kernel_rfl) (fun _ _ _ h => h) (by assumption) ?_
          simp only [Act.put, List.setIfInBounds_toArray, List.set_cons_zero, List.set_cons_succ]
          refine skipH 25 43 ⟨_, rfl, rfl, by rfl⟩ (by kernel_rfl) (by kernel_rfl) (by kernel_rfl) (fun _ _ _ h => h) (by assumption) ?_
          simp only [Act.put, List.setIfInBounds_toArray, List.set_cons_zero, List.set_cons_succ]
          refine skipH 26 44 ⟨_, rfl, rfl, by rfl⟩ (by kernel_rfl) (by kernel_rfl) (by kernel_rfl) (fun _ _ _ h => h) (by assumption) ?_
          simp only [Act.put, List.setIfInBounds_toArray, List.set_cons_zero, List.set_cons_succ]
          refine skipH 27 45 ⟨_, rfl, rfl, by rfl⟩ (by kernel_rfl) (by kernel_rfl) (by kernel_rfl) (fun _ _ _ h => h) (by assumption) ?_
          simp only [Act.put, List.setIfInBounds_toArray, List.set_cons_zero, List.set_cons_succ]
          refine skipH 28 46 ⟨_, rfl, rfl, by rfl⟩ (by kernel_rfl) (by kernel_rfl) (by kernel_rfl) (fun _ _ _ h => h) (by assumption) ?_
          simp only [Act.put, List.setIfInBounds_toArray, List.set_cons_zero, List.set_cons_succ]
          refine skipH 29 47 ⟨_, rfl, rfl, by rfl⟩ (by kernel_rfl) (by kernel_rfl) (by kernel_rfl) (fun _ _ _ h => h) (by assumption) ?_
          simp only [Act.put, List.setIfInBounds_toArray, List.set_cons_zero, List.set_cons_succ]
          refine skipH 30 48 ⟨_, rfl, rfl, by rfl⟩ (by kernel_rfl) (by kernel_rfl) (by kernel_rfl) (fun _ _ _ h => h) (by assumption) ?_
          simp only [Act.put, List.setIfInBounds_toArray, List.set_cons_zero, List.set_cons_succ]
          refine skipH 31 49 ⟨_, rfl, rfl, by rfl⟩ (by kernel_rfl) (by kernel_rfl) (by kernel_rfl) (fun _ _ _ h => h) (by assumption) ?_
          simp only [Act.put, List.setIfInBounds_toArray, List.set_cons_zero, List.set_cons_succ]
          refine skipH 32 50 ⟨_, rfl, rfl, by rfl⟩ (by kernel_rfl) (by kernel_rfl) (by kernel_rfl) (fun _ _ _ h => h) (by assumption) ?_
          simp only [Act.put, List.setIfInBounds_toArray, List.set_cons_zero, List.set_cons_succ]
          refine takeH (oi := ?oi10) 33 51 (.bool false) ?hi10 ?hd10 ?hw10 ?hy10 (by kernel_rfl) (by kernel_rfl) (by kernel_rfl) ?hQ10 (by assumption) ?_
          case hi10 => simp only [List.getElem?_toArray, List.getElem?_cons_zero, List.getElem?_cons_succ]; rfl
          case hd10 => rfl
          case hw10 => rfl
          case hy10 => (intro w hSw; (try dsimp only at hSw); go_simp)
          case hQ10 => exact fun _ _ _ h => h
          simp only [Act.put, List.setIfInBounds_toArray, List.set_cons_zero, List.set_cons_succ]
          refine wpAnyH_done (by kernel_rfl) ?_ _
          go_wp2_with (fail)
          go_meet
          case rel => exact ⟨by rw [HB2.out], B2⟩
        | true =>
          refine takeH (oi := ?oi11) 8 26 (.slice (some ⟨b, off, none⟩) n c) ?hi11 ?hd11 ?hw11 ?hy11 (by kernel_rfl) (by kernel_rfl) (by kernel_rfl) ?hQ11 (by assumption) ?_
          case hi11 => simp only [List.getElem?_toArray, List.getElem?_cons_zero, List.getElem?_cons_succ]; rfl
          case hd11 => rfl
          case hw11 => rfl
          case hy11 => (intro w hSw; (try dsimp only at hSw); go_simp)
          case hQ11 => exact fun _ _ _ h => h
          simp only [Act.put, List.setIfInBounds_toArray, List.set_cons_zero, List.set_cons_succ]
          refine takeH (oi := ?oi12) 9 27 (.int .i64 (j : Int)) ?hi12 ?hd12 ?hw12 ?hy12 (by kernel_rfl) (by kernel_rfl) (by kernel_rfl) ?hQ12 (by assumption) ?_
          case hi12 => simp only [List.getElem?_toArray, List.getElem?_cons_zero, List.getElem?_cons_succ]; rfl
          case hd12 => rfl
          case hw12 => rfl
          case hy12 => (intro w hSw; (try dsimp only at hSw); go_simp)
          case hQ12 => exact fun _ _ _ h => h
          simp only [Act.put, List.setIfInBounds_toArray, List.set_cons_zero, List.set_cons_succ]
          refine takeH (oi := ?oi13) 10 28 (.pointer (some ⟨b, off + j * 4, none⟩)) ?hi13 ?hd13 ?hw13 ?hy13 (by kernel_rfl) (by kernel_rfl) (by kernel_rfl) ?hQ13 (by assumption) ?_
          case hi13 => simp only [List.getElem?_toArray, List.getElem?_cons_zero, List.getElem?_cons_succ]; rfl
          case hd13 => rfl
          case hw13 => rfl
          case hy13 => (intro w hSw; (try dsimp only at hSw); go_simp)
          case hQ13 => exact fun _ _ _ h => h
          simp only [Act.put, List.setIfInBounds_toArray, List.set_cons_zero, List.set_cons_succ]
          refine takeH (oi := ?oi14) 11 29 (.pointer (some ⟨b, off + j * 4 + 2, none⟩)) ?hi14 ?hd14 ?hw14 ?hy14 (by kernel_rfl) (by kernel_rfl) (by kernel_rfl) ?hQ14 (by assumption) ?_
          case hi14 => simp only [List.getElem?_toArray, List.getElem?_cons_zero, List.getElem?_cons_succ]; rfl
          case hd14 => rfl
          case hw14 => rfl
          case hy14 => (intro w hSw; (try dsimp only at hSw); go_simp)
          case hQ14 => exact fun _ _ _ h => h
          simp only [Act.put, List.setIfInBounds_toArray, List.set_cons_zero, List.set_cons_succ]
          refine takeH (oi := ?oi15) 12 30 (.int .i64 Q) ?hi15 ?hd15 ?hw15 ?hy15 (by kernel_rfl) (by kernel_rfl) (by kernel_rfl) ?hQ15 (by assumption) ?_
          case hi15 => simp only [List.getElem?_toArray, List.getElem?_cons_zero, List.getElem?_cons_succ]; rfl
          case hd15 => rfl
          case hw15 => rfl
          case hy15 => (intro w hSw; (try dsimp only at hSw); go_simp)
          case hQ15 => exact fun _ _ _ h => h
          simp only [Act.put, List.setIfInBounds_toArray, List.set_cons_zero, List.set_cons_succ]
          refine takeH (oi := ?oi16) 13 31 (.int .i64 seq) ?hi16 ?hd16 ?hw16 ?hy16 (by kernel_rfl) (by kernel_rfl) (by kernel_rfl) ?hQ16 (by assumption) ?_
          case hi16 => simp only [List.getElem?_toArray, List.getElem?_cons_zero, List.getElem?_cons_succ]; rfl
          case hd16 => rfl
          case hw16 => rfl
          case hy16 => (intro w hSw; (try dsimp only at hSw); go_simp)
          case hQ16 => exact fun _ _ _ h => h
          simp only [Act.put, List.setIfInBounds_toArray, List.set_cons_zero, List.set_cons_succ]
          refine takeH (oi := ?oi17) 14 32 (.bool (decide (Q ≤ seq))) ?hi17 ?hd17 ?hw17 ?hy17 (by kernel_rfl) (by kernel_rfl) (by kernel_rfl) ?hQ17 (by assumption) ?_
          case hi17 => simp only [List.getElem?_toArray, List.getElem?_cons_zero, List.getElem?_cons_succ]; rfl
          case hd17 => rfl
          case hw17 => rfl
          case hy17 => (intro w hSw; (try dsimp only at hSw); go_simp)
          case hQ17 => exact fun _ _ _ h => h
          simp only [Act.put, List.setIfInBounds_toArray, List.set_cons_zero, List.set_cons_succ]
          refine takeH (oi := ?oi18) 15 33 (.bool (decide (Q ≤ seq))) ?hi18 ?hd18 ?hw18 ?hy18 (by kernel_rfl) (by kernel_rfl) (by kernel_rfl) ?hQ18 (by assumption) ?_
          case hi18 => simp only [List.getElem?_toArray, List.getElem?_cons_zero, List.getElem?_cons_succ]; rfl
          case hd18 => rfl
          case hw18 => rfl
          case hy18 => (intro w hSw; (try dsimp only at hSw); go_simp)
          case hQ18 => exact fun _ _ _ h => h
          simp only [Act.put, List.setIfInBounds_toArray, List.set_cons_zero, List.set_cons_succ]
          refine takeH (oi := ?oi19) 16 34 (.bool (decide (Q ≤ seq))) ?hi19 ?hd19 ?hw19 ?hy19 (by kernel_rfl) (by kernel_rfl) (by kernel_rfl) ?hQ19 (by assumption) ?_
          case hi19 => simp only [List.getElem?_toArray, List.getElem?_cons_zero, List.getElem?_cons_succ]; rfl
          case hd19 => rfl
          case hw19 => rfl
          case hy19 => (intro w hSw; (try dsimp only at hSw); go_simp)
          case hQ19 => exact fun _ _ _ h => h
          simp only [Act.put, List.setIfInBounds_toArray, List.set_cons_zero, List.set_cons_succ]
          cases hd : decide (Q ≤ seq) with
          | false =>
            have HB2 : Hid (tb = false) := by show _ = _; rw [TB.out, hd]; rfl
            clear TB o O
            refine skipH 17 35 ⟨_, rfl, rfl, by rfl⟩ (by kernel_rfl) (by kernel_rfl) (by kernel_rfl) (fun _ _ _ h => h) (by assumption) ?_
            simp only [Act.put, List.setIfInBounds_toArray, List.set_cons_zero, List.set_cons_succ]
            refine skipH 18 36 ⟨_, rfl, rfl, by rfl⟩ (by kernel_rfl) (by kernel_rfl) (by kernel_rfl) (fun _ _ _ h => h) (by assumption) ?_
            simp only [Act.put, List.setIfInBounds_toArray, List.set_cons_zero, List.set_cons_succ]
            refine skipH 19 37 ⟨_, rfl, rfl, by rfl⟩ (by kernel_rfl) (by kernel_rfl) (by kernel_rfl) (fun _ _ _ h => h) (by assumption) ?_
            simp only [Act.put, List.setIfInBounds_toArray, List.set_cons_zero, List.set_cons_succ]
            refine skipH 20 38 ⟨_, rfl, rfl, by rfl⟩ (by kernel_rfl) (by kernel_rfl) (by kernel_rfl) (fun _ _ _ h => h) (by assumption) ?_
            simp only [Act.put, List.setIfInBounds_toArray, List.set_cons_zero, List.set_cons_succ]
            refine skipH 21 39 ⟨_, rfl, rfl, by rfl⟩ (by kernel_rfl) (by kernel_rfl) (by kernel_rfl) (fun _ _ _ h => h) (by assumption) ?_
            simp only [Act.put, List.setIfInBounds_toArray, List.set_cons_zero, List.set_cons_succ]
            refine skipH 22 40 ⟨_, rfl, rfl, by rfl⟩ (by kernel_rfl) (by kernel_rfl) (by kernel_rfl) (fun _ _ _ h => h) (by assumption) ?_
            simp only [Act.put, List.setIfInBounds_toArray, List.set_cons_zero, List.set_cons_succ]
            refine skipH 23 41 ⟨_, rfl, rfl, by rfl⟩ (by kernel_rfl) (by kernel_rfl) (by kernel_rfl) (fun _ _ _ h => h) (by assumption) ?_
            simp only [Act.put, List.setIfInBounds_toArray, List.set_cons_zero, List.set_cons_succ]
            refine skipH 24 42 ⟨_, rfl, rfl, by rfl⟩ (by kernel_rfl) (by kernel_rfl) (by kernel_rfl) (fun _ _ _ h => h) (by assumption) ?_
            simp only [Act.put, List.setIfInBounds_toArray, List.set_cons_zero, List.set_cons_succ]
            refine skipH 25 43 ⟨_, rfl, rfl, by rfl⟩ (by kernel_rfl) (by kernel_rfl) (by kernel_rfl) (fun _ _ _ h => h) (by assumption) ?_
            simp only [Act.put, List.setIfInBounds_toArray, List.set_cons_zero, List.set_cons_succ]
            refine skipH 26 44 ⟨_, rfl, rfl, by rfl⟩ (by kernel_rfl) (by kernel_rfl) (by kernel_rfl) (fun _ _ _ h => h) (by assumption) ?_
            simp only [Act.put, List.setIfInBounds_toArray, List.set_cons_zero, List.set_cons_succ]
            refine skipH 27 45 ⟨_, rfl, rfl, by rfl⟩ (by kernel_rfl) (by kernel_rfl) (by kernel_rfl) (fun _ _ _ h => h) (by assumption) ?_
            simp only [Act.put, List.setIfInBounds_toArray, List.set_cons_zero, List.set_cons_succ]
            refine skipH 28 46 ⟨_, rfl, rfl, by rfl⟩ (by kernel_rfl) (by kernel_rfl) (by kernel_rfl) (fun _ _ _ h => h) (by assumption) ?_
            simp only [Act.put, List.setIfInBounds_toArray, List.set_cons_zero, List.set_cons_succ]
            refine skipH 29 47 ⟨_, rfl, rfl, by rfl⟩ (by kernel_rfl) (by kernel_rfl) (by kernel_rfl) (fun _ _ _ h => h) (by assumption) ?_
            simp only [Act.put, List.setIfInBounds_toArray, List.set_cons_zero, List.set_cons_succ]
            refine skipH 30 48 ⟨_, rfl, rfl, by rfl⟩ (by kernel_rfl) (by kernel_rfl) (by kernel_rfl) (fun _ _ _ h => h) (by assumption) ?_
            simp only [Act.put, List.setIfInBounds_toArray, List.set_cons_zero, List.set_cons_succ]
            refine skipH 31 49 ⟨_, rfl, rfl, by rfl⟩ (by kernel_rfl) (by kernel_rfl) (by kernel_rfl) (fun _ _ _ h => h) (by assumption) ?_
            simp only [Act.put, List.setIfInBounds_toArray, List.set_cons_zero, List.set_cons_succ]
            refine skipH 32 50 ⟨_, rfl, rfl, by rfl⟩ (by kernel_rfl) (by kernel_rfl) (by kernel_rfl) (fun _ _ _ h => h) (by assumption) ?_
            simp only [Act.put, List.setIfInBounds_toArray, List.set_cons_zero, List.set_cons_succ]
            refine takeH (oi := ?oi20) 33 51 (.bool false) ?hi20 ?hd20 ?hw20 ?hy20 (by kernel_rfl) (by kernel_rfl) (by kernel_rfl) ?hQ20 (by assumption) ?_
            case hi20 => simp only [List.getElem?_toArray, List.getElem?_cons_zero, List.getElem?_cons_succ]; rfl
            case hd20 => rfl
            case hw20 => rfl
            case hy20 => (intro w hSw; (try dsimp only at hSw); go_simp)
            case hQ20 => exact fun _ _ _ h => h
            simp only [Act.put, List.setIfInBounds_toArray, List.set_cons_zero, List.set_cons_succ]
            refine wpAnyH_done (by kernel_rfl) ?_ _
            go_wp2_with (fail)
            go_meet
            case rel => exact ⟨by rw [HB2.out], B2⟩
          | true =>
            rcases List.eq_nil_or_concat out with ho | ⟨o', y, ho⟩
            · subst ho
              have HB2 : Hid (tb = true) := by show _ = _; rw [TB.out, hd]; rfl
              clear TB o O
              refine takeH (oi := ?oi21) 17 35 (.int .i64 0) ?hi21 ?hd21 ?hw21 ?hy21 (by kernel_rfl) (by kernel_rfl) (by kernel_rfl) ?hQ21 (by assumption) ?_
              case hi21 => simp only [List.getElem?_toArray, List.getElem?_cons_zero, List.getElem?_cons_succ]; rfl
              case hd21 => rfl
              case hw21 => rfl
              case hy21 => (intro w hSw; (try dsimp only at hSw); go_simp)
              case hQ21 => exact fun _ _ _ h => h
              simp only [Act.put, List.setIfInBounds_toArray, List.set_cons_zero, List.set_cons_succ]
              refine takeH (oi := ?oi22) 18 36 (.bool true) ?hi22 ?hd22 ?hw22 ?hy22 (by kernel_rfl) (by kernel_rfl) (by kernel_rfl) ?hQ22 (by assumption) ?_
              case hi22 => simp only [List.getElem?_toArray, List.getElem?_cons_zero, List.getElem?_cons_succ]; rfl
              case hd22 => rfl
              case hw22 => rfl
              case hy22 => (intro w hSw; (try dsimp only at hSw); go_simp)
              case hQ22 => exact fun _ _ _ h => h
              simp only [Act.put, List.setIfInBounds_toArray, List.set_cons_zero, List.set_cons_succ]
              refine takeH (oi := ?oi23) 19 37 (.bool true) ?hi23 ?hd23 ?hw23 ?hy23 (by kernel_rfl) (by kernel_rfl) (by kernel_rfl) ?hQ23 (by assumption) ?_
              case hi23 => simp only [List.getElem?_toArray, List.getElem?_cons_zero, List.getElem?_cons_succ]; rfl
              case hd23 => rfl
              case hw23 => rfl
              case hy23 => (intro w hSw; (try dsimp only at hSw); go_simp)
              case hQ23 => exact fun _ _ _ h => h
              simp only [Act.put, List.setIfInBounds_toArray, List.set_cons_zero, List.set_cons_succ]
              refine skipH 20 38 ⟨_, rfl, rfl, by rfl⟩ (by kernel_rfl) (by kernel_rfl) (by kernel_rfl) (fun _ _ _ h => h) (by assumption) ?_
              simp only [Act.put, List.setIfInBounds_toArray, List.set_cons_zero, List.set_cons_succ]
              refine skipH 21 39 ⟨_, rfl, rfl, by rfl⟩ (by kernel_rfl) (by kernel_rfl) (by kernel_rfl) (fun _ _ _ h => h) (by assumption) ?_
              simp only [Act.put, List.setIfInBounds_toArray, List.set_cons_zero, List.set_cons_succ]
              refine skipH 22 40 ⟨_, rfl, rfl, by rfl⟩ (by kernel_rfl) (by kernel_rfl) (by kernel_rfl) (fun _ _ _ h => h) (by assumption) ?_
              simp only [Act.put, List.setIfInBounds_toArray, List.set_cons_zero, List.set_cons_succ]
              refine skipH 23 41 ⟨_, rfl, rfl, by rfl⟩ (by kernel_rfl) (by kernel_rfl) (by kernel_rfl) (fun _ _ _ h => h) (by assumption) ?_
              simp only [Act.put, List.setIfInBounds_toArray, List.set_cons_zero, List.set_cons_succ]
              refine skipH 24 42 ⟨_, rfl, rfl, by rfl⟩ (by kernel_rfl) (by kernel_rfl) (by kernel_rfl) (fun _ _ _ h => h) (by assumption) ?_
              simp only [Act.put, List.setIfInBounds_toArray, List.set_cons_zero, List.set_cons_succ]
              refine skipH 25 43 ⟨_, rfl, rfl, by rfl⟩ (by kernel_rfl) (by kernel_rfl) (by kernel_rfl) (fun _ _ _ h => h) (by assumption) ?_
              simp only [Act.put, List.setIfInBounds_toArray, List.set_cons_zero, List.set_cons_succ]
              refine skipH 26 44 ⟨_, rfl, rfl, by rfl⟩ (by kernel_rfl) (by kernel_rfl) (by kernel_rfl) (fun _ _ _ h => h) (by assumption) ?_
              simp only [Act.put, List.setIfInBounds_toArray, List.set_cons_zero, List.set_cons_succ]
              refine skipH 27 45 ⟨_, rfl, rfl, by rfl⟩ (by kernel_rfl) (by kernel_rfl) (by kernel_rfl) (fun _ _ _ h => h) (by assumption) ?_
              simp only [Act.put, List.setIfInBounds_toArray, List.set_cons_zero, List.set_cons_succ]
              refine skipH 28 46 ⟨_, rfl, rfl, by rfl⟩ (by kernel_rfl) (by kernel_rfl) (by kernel_rfl) (fun _ _ _ h => h) (by assumption) ?_
              simp only [Act.put, List.setIfInBounds_toArray, List.set_cons_zero, List.set_cons_succ]
              refine skipH 29 47 ⟨_, rfl, rfl, by rfl⟩ (by kernel_rfl) (by kernel_rfl) (by kernel_rfl) (fun _ _ _ h => h) (by assumption) ?_
              simp only [Act.put, List.setIfInBounds_toArray, List.set_cons_zero, List.set_cons_succ]
              refine skipH 30 48 ⟨_, rfl, rfl, by rfl⟩ (by kernel_rfl) (by kernel_rfl) (by kernel_rfl) (fun _ _ _ h => h) (by assumption) ?_
              simp only [Act.put, List.setIfInBounds_toArray, List.set_cons_zero, List.set_cons_succ]
              refine skipH 31 49 ⟨_, rfl, rfl, by rfl⟩ (by kernel_rfl) (by kernel_rfl) (by kernel_rfl) (fun _ _ _ h => h) (by assumption) ?_
              simp only [Act.put, List.setIfInBounds_toArray, List.set_cons_zero, List.set_cons_succ]
              refine takeH (oi := ?oi24) 32 50 (.bool true) ?hi24 ?hd24 ?hw24 ?hy24 (by kernel_rfl) (by kernel_rfl) (by kernel_rfl) ?hQ24 (by assumption) ?_
              case hi24 => simp only [List.getElem?_toArray, List.getElem?_cons_zero, List.getElem?_cons_succ]; rfl
              case hd24 => rfl
              case hw24 => rfl
              case hy24 => (intro w hSw; (try dsimp only at hSw); go_simp)
              case hQ24 => exact fun _ _ _ h => h
              simp only [Act.put, List.setIfInBounds_toArray, List.set_cons_zero, List.set_cons_succ]
              refine takeH (oi := ?oi25) 33 51 (.bool true) ?hi25 ?hd25 ?hw25 ?hy25 (by kernel_rfl) (by kernel_rfl) (by kernel_rfl) ?hQ25 (by assumption) ?_
              case hi25 => simp only [List.getElem?_toArray, List.getElem?_cons_zero, List.getElem?_cons_succ]; rfl
              case hd25 => rfl
              case hw25 => rfl
              case hy25 => (intro w hSw; (try dsimp only at hSw); go_simp)
              case hQ25 => exact fun _ _ _ h => h
              simp only [Act.put, List.setIfInBounds_toArray, List.set_cons_zero, List.set_cons_succ]
              refine wpAnyH_done (by kernel_rfl) ?_ _
              go_wp2_with (fail)
              go_meet
              case rel => exact ⟨by rw [HB2.out], B2⟩
            · rw [List.concat_eq_append] at ho
              have hL : out.length = o'.length + 1 := by rw [ho]; simp
              obtain ⟨g, cap, hv⟩ := own_someE o (by omega)
              cases hv
              have LD : Hid (∀ wx, Hid (Below wr.heap.size wr wx) → wx.cell? ⟨g, o'.length * 4, none⟩ = some (str y.key)) := fun wx hx => by
                have hcl : EntsAt wr (.slice (some ⟨g, 0, none⟩) out.length vc) (o' ++ [y]) := by rw [← ho]; exact EntsAt.own o
                exact last_cell (hcl.later hx.out)
              have HB2 : Hid (tb = !(y.key == K)) := by show _ = _; rw [TB.out, hd, ho, toldB_snoc]; rfl
              have q2 : (o'.length : Int) < (out.length : Int) := by omega
              have q3 : (0 : Int) ≤ (o'.length : Int) := by omega
              have q4 : ((out.length : Int) == 0) = false := by rw [beq_eq_false_iff_ne]; omega
              have q6 : IntKind.i64.wrap ((out.length : Int) - 1) = (o'.length : Int) := by rw [IntKind.wrap_i64]; omega
              clear o O TB ho hL
              generalize o'.length = k at *
              generalize y.key = YK at *
              refine takeH (oi := ?oi26) 17 35 (.int .i64 (out.length : Int)) ?hi26 ?hd26 ?hw26 ?hy26 (by kernel_rfl) (by kernel_rfl) (by kernel_rfl) ?hQ26 (by assumption) ?_
              case hi26 => simp only [List.getElem?_toArray, List.getElem?_cons_zero, List.getElem?_cons_succ]; rfl
              case hd26 => rfl
              case hw26 => rfl
              case hy26 => (intro w hSw; (try dsimp only at hSw); go_simp)
              case hQ26 => exact fun _ _ _ h => h
              simp only [Act.put, List.setIfInBounds_toArray, List.set_cons_zero, List.set_cons_succ]
              refine takeH (oi := ?oi27) 18 36 (.bool false) ?hi27 ?hd27 ?hw27 ?hy27 (by kernel_rfl) (by kernel_rfl) (by kernel_rfl) ?hQ27 (by assumption) ?_
              case hi27 => simp only [List.getElem?_toArray, List.getElem?_cons_zero, List.getElem?_cons_succ]; rfl
              case hd27 => rfl
              case hw27 => rfl
              case hy27 => (intro w hSw; (try dsimp only at hSw); go_simp)
              case hQ27 => exact fun _ _ _ h => h
              simp only [Act.put, List.setIfInBounds_toArray, List.set_cons_zero, List.set_cons_succ]
              refine takeH (oi := ?oi28) 19 37 (.bool false) ?hi28 ?hd28 ?hw28 ?hy28 (by kernel_rfl) (by kernel_rfl) (by kernel_rfl) ?hQ28 (by assumption) ?_
              case hi28 => simp only [List.getElem?_toArray, List.getElem?_cons_zero, List.getElem?_cons_succ]; rfl
              case hd28 => rfl
              case hw28 => rfl
              case hy28 => (intro w hSw; (try dsimp only at hSw); go_simp)
              case hQ28 => exact fun _ _ _ h => h
              simp only [Act.put, List.setIfInBounds_toArray, List.set_cons_zero, List.set_cons_succ]
              refine takeH (oi := ?oi29) 20 38 (.slice (some ⟨g, 0, none⟩) out.length vc) ?hi29 ?hd29 ?hw29 ?hy29 (by kernel_rfl) (by kernel_rfl) (by kernel_rfl) ?hQ29 (by assumption) ?_
              case hi29 => simp only [List.getElem?_toArray, List.getElem?_cons_zero, List.getElem?_cons_succ]; rfl
              case hd29 => rfl
              case hw29 => rfl
              case hy29 => (intro w hSw; (try dsimp only at hSw); go_simp)
              case hQ29 => exact fun _ _ _ h => h
              simp only [Act.put, List.setIfInBounds_toArray, List.set_cons_zero, List.set_cons_succ]
              refine takeH (oi := ?oi30) 21 39 (.int .i64 (out.length : Int)) ?hi30 ?hd30 ?hw30 ?hy30 (by kernel_rfl) (by kernel_rfl) (by kernel_rfl) ?hQ30 (by assumption) ?_
              case hi30 => simp only [List.getElem?_toArray, List.getElem?_cons_zero, List.getElem?_cons_succ]; rfl
              case hd30 => rfl
              case hw30 => rfl
              case hy30 => (intro w hSw; (try dsimp only at hSw); go_simp)
              case hQ30 => exact fun _ _ _ h => h
              simp only [Act.put, List.setIfInBounds_toArray, List.set_cons_zero, List.set_cons_succ]
              refine takeH (oi := ?oi31) 22 40 (.int .i64 (k : Int)) ?hi31 ?hd31 ?hw31 ?hy31 (by kernel_rfl) (by kernel_rfl) (by kernel_rfl) ?hQ31 (by assumption) ?_
              case hi31 => simp only [List.getElem?_toArray, List.getElem?_cons_zero, List.getElem?_cons_succ]; rfl
              case hd31 => rfl
              case hw31 => rfl
              case hy31 => (intro w hSw; (try dsimp only at hSw); go_simp)
              case hQ31 => exact fun _ _ _ h => h
              simp only [Act.put, List.setIfInBounds_toArray, List.set_cons_zero, List.set_cons_succ]
              refine takeH (oi := ?oi32) 23 41 (.pointer (some ⟨g, k * 4, none⟩)) ?hi32 ?hd32 ?hw32 ?hy32 (by kernel_rfl) (by kernel_rfl) (by kernel_rfl) ?hQ32 (by assumption) ?_
              case hi32 => simp only [List.getElem?_toArray, List.getElem?_cons_zero, List.getElem?_cons_succ]; rfl
              case hd32 => rfl
              case hw32 => rfl
              case hy32 => (intro w hSw; (try dsimp only at hSw); go_simp)
              case hQ32 => exact fun _ _ _ h => h
              simp only [Act.put, List.setIfInBounds_toArray, List.set_cons_zero, List.set_cons_succ]
              refine takeH (oi := ?oi33) 24 42 (.pointer (some ⟨g, k * 4, none⟩)) ?hi33 ?hd33 ?hw33 ?hy33 (by kernel_rfl) (by kernel_rfl) (by kernel_rfl) ?hQ33 (by assumption) ?_
              case hi33 => simp only [List.getElem?_toArray, List.getElem?_cons_zero, List.getElem?_cons_succ]; rfl
              case hd33 => rfl
              case hw33 => rfl
              case hy33 => (intro w hSw; (try dsimp only at hSw); go_simp)
              case hQ33 => exact fun _ _ _ h => h
              simp only [Act.put, List.setIfInBounds_toArray, List.set_cons_zero, List.set_cons_succ]
              refine takeH (oi := ?oi34) 25 43 (str YK) ?hi34 ?hd34 ?hw34 ?hy34 (by kernel_rfl) (by kernel_rfl) (by kernel_rfl) ?hQ34 (by assumption) ?_
              case hi34 => simp only [List.getElem?_toArray, List.getElem?_cons_zero, List.getElem?_cons_succ]; rfl
              case hd34 => rfl
              case hw34 => rfl
              case hy34 => (intro w hSw; have d2 := LD.out w hSw.2.2; clear hSw; go_simp)
              case hQ34 => exact fun _ _ _ h => h
              simp only [Act.put, List.setIfInBounds_toArray, List.set_cons_zero, List.set_cons_succ]
              refine takeH (oi := ?oi35) 26 44 (.slice (some ⟨b, off, none⟩) n c) ?hi35 ?hd35 ?hw35 ?hy35 (by kernel_rfl) (by kernel_rfl) (by kernel_rfl) ?hQ35 (by assumption) ?_
              case hi35 => simp only [List.getElem?_toArray, List.getElem?_cons_zero, List.getElem?_cons_succ]; rfl
              case hd35 => rfl
              case hw35 => rfl
              case hy35 => (intro w hSw; (try dsimp only at hSw); go_simp)
              case hQ35 => exact fun _ _ _ h => h
              simp only [Act.put, List.setIfInBounds_toArray, List.set_cons_zero, List.set_cons_succ]
              refine takeH (oi := ?oi36) 27 45 (.int .i64 (j : Int)) ?hi36 ?hd36 ?hw36 ?hy36 (by kernel_rfl) (by kernel_rfl) (by kernel_rfl) ?hQ36 (by assumption) ?_
              case hi36 => simp only [List.getElem?_toArray, List.getElem?_cons_zero, List.getElem?_cons_succ]; rfl
              case hd36 => rfl
              case hw36 => rfl
              case hy36 => (intro w hSw; (try dsimp only at hSw); go_simp)
              case hQ36 => exact fun _ _ _ h => h
              simp only [Act.put, List.setIfInBounds_toArray, List.set_cons_zero, List.set_cons_succ]
              refine takeH (oi := ?oi37) 28 46 (.pointer (some ⟨b, off + j * 4, none⟩)) ?hi37 ?hd37 ?hw37 ?hy37 (by kernel_rfl) (by kernel_rfl) (by kernel_rfl) ?hQ37 (by assumption) ?_
              case hi37 => simp only [List.getElem?_toArray, List.getElem?_cons_zero, List.getElem?_cons_succ]; rfl
              case hd37 => rfl
              case hw37 => rfl
              case hy37 => (intro w hSw; (try dsimp only at hSw); go_simp)
              case hQ37 => exact fun _ _ _ h => h
              simp only [Act.put, List.setIfInBounds_toArray, List.set_cons_zero, List.set_cons_succ]
              refine takeH (oi := ?oi38) 29 47 (.pointer (some ⟨b, off + j * 4, none⟩)) ?hi38 ?hd38 ?hw38 ?hy38 (by kernel_rfl) (by kernel_rfl) (by kernel_rfl) ?hQ38 (by assumption) ?_
              case hi38 => simp only [List.getElem?_toArray, List.getElem?_cons_zero, List.getElem?_cons_succ]; rfl
              case hd38 => rfl
              case hw38 => rfl
              case hy38 => (intro w hSw; (try dsimp only at hSw); go_simp)
              case hQ38 => exact fun _ _ _ h => h
              simp only [Act.put, List.setIfInBounds_toArray, List.set_cons_zero, List.set_cons_succ]
              refine takeH (oi := ?oi39) 30 48 (str K) ?hi39 ?hd39 ?hw39 ?hy39 (by kernel_rfl) (by kernel_rfl) (by kernel_rfl) ?hQ39 (by assumption) ?_
              case hi39 => simp only [List.getElem?_toArray, List.getElem?_cons_zero, List.getElem?_cons_succ]; rfl
              case hd39 => rfl
              case hw39 => rfl
              case hy39 => (intro w hSw; (try dsimp only at hSw); go_simp)
              case hQ39 => exact fun _ _ _ h => h
              simp only [Act.put, List.setIfInBounds_toArray, List.set_cons_zero, List.set_cons_succ]
              refine takeH (oi := ?oi40) 31 49 (.bool (!(YK == K))) ?hi40 ?hd40 ?hw40 ?hy40 (by kernel_rfl) (by kernel_rfl) (by kernel_rfl) ?hQ40 (by assumption) ?_
              case hi40 => simp only [List.getElem?_toArray, List.getElem?_cons_zero, List.getElem?_cons_succ]; rfl
              case hd40 => rfl
              case hw40 => rfl
              case hy40 => (intro w hSw; (try dsimp only at hSw); go_simp)
              case hQ40 => exact fun _ _ _ h => h
              simp only [Act.put, List.setIfInBounds_toArray, List.set_cons_zero, List.set_cons_succ]
              refine takeH (oi := ?oi41) 32 50 (.bool (!(YK == K))) ?hi41 ?hd41 ?hw41 ?hy41 (by kernel_rfl) (by kernel_rfl) (by kernel_rfl) ?hQ41 (by assumption) ?_
              case hi41 => simp only [List.getElem?_toArray, List.getElem?_cons_zero, List.getElem?_cons_succ]; rfl
              case hd41 => rfl
              case hw41 => rfl
              case hy41 => (intro w hSw; (try dsimp only at hSw); go_simp)
              case hQ41 => exact fun _ _ _ h => h
              simp only [Act.put, List.setIfInBounds_toArray, List.set_cons_zero, List.set_cons_succ]
              refine takeH (oi := ?oi42) 33 51 (.bool (!(YK == K))) ?hi42 ?hd42 ?hw42 ?hy42 (by kernel_rfl) (by kernel_rfl) (by kernel_rfl) ?hQ42 (by assumption) ?_
              case hi42 => simp only [List.getElem?_toArray, List.getElem?_cons_zero, List.getElem?_cons_succ]; rfl
              case hd42 => rfl
              case hw42 => rfl
              case hy42 => (intro w hSw; (try dsimp only at hSw); go_simp)
              case hQ42 => exact fun _ _ _ h => h
              simp only [Act.put, List.setIfInBounds_toArray, List.set_cons_zero, List.set_cons_succ]
              refine wpAnyH_done (by kernel_rfl) ?_ _
              go_wp2_with (fail)
              go_meet
              case rel => exact ⟨by rw [HB2.out], B2⟩
      case rest =>
        obtain ⟨rfl, b4⟩ := hcut
        have o4 := hide (own_after O.out b4)
        have B4 := bx.trans (b4.mono bx.size)
        obtain ⟨d0, d1, d2, d3⟩ := CE.out _ B4
        have HT : Hid (Mm.told seq (Mm.spanL f t (l.take (j + 1))) = if tb then out ++ [⟨K, V, Q, D⟩] else out) := by
          show _ = _
          rw [TS.out, TB.out]
          cases ib with
          | false => rfl
          | true =>
            by_cases hs : Q ≤ seq
            · cases hT : toldB out ⟨K, V, Q, D⟩ with
              | true => rw [if_pos rfl, tell_no (.inr hT)]; simp
              | false => rw [if_pos rfl, tell_yes hs hT, decide_eq_true hs]; rfl
            · rw [if_pos rfl, tell_no (.inl hs), decide_eq_false hs]; rfl
        have CN : Hid (∀ W : World, ∀ B, B = W.heap.size → ∀ i u, (ecs [⟨K, V, Q, D⟩])[i]? = some u → (W.alloc (.cells #[str K, str V, .int .i64 Q, .bool D] 38)).cell? ((⟨B, 0, none⟩ : Addr).add i) = some u) := fun W B hB => ec_new W ⟨K, V, Q, D⟩ B hB
        have HL : Hid ((ecs [⟨K, V, Q, D⟩]).length = 1 * 4) := rfl
        have HO : Hid (∀ u ∈ ecs [⟨K, V, Q, D⟩], u.oneCell' = true) := ecs_one _
        have Z1 : Hid (out.length + 1 ≤ maxLen) := by show _ ≤ _; unfold maxLen; omega
        have Z2 : Hid ((out.length + 1) * 48 ≤ 140737488355328) := by show _ ≤ _; omega
        clear O o b4 TS TB KC CE IX p0 p2 p4 p5
        cases tb with
        | false =>
          go_wp2_with (fail)
          refine ⟨⟨j + 1, by omega, by go_num, B4, ?_⟩, by simp [intOf]; omega⟩
          rw [HT.out]
          exact o4.out
        | true =>
          go_wp2_with (first
            | (at_builtin; refine wpList_append_lies _ rfl _ _ 23 rfl W.heap.size 38 i0 _ 4 48 Try.underlying23 hi hz0 hz1 hz2 rfl (by decide) _ out.length _ rfl (o4.out.alloc _) ⟨wc.heap.size, 0, none⟩ 1 1 (ecs [⟨K, V, Q, D⟩]) rfl HL.out (CN.out _ _ rfl) HO.out (by decide) Z1.out Z2.out (by have := B4.size; simp; omega) _ rfl ?_; intro g6 cap6 w6 o6 h6 l6 lt6))
          have B6 : Below W.heap.size W w6 := (B4.alloc B4.size _).grown h6 (by have := B4.size; simp; omega) (fun k hk => (o4.out.lt k hk).1)
          refine ⟨⟨j + 1, by omega, by go_num, B6, ?_⟩, by simp [intOf]; omega⟩
          rw [HT.out, if_pos rfl, List.length_append, ecs_append]
          exact o6
    · have e : j = n := by omega
      subst e
      have i3 : ¬ (j : Int) < (j : Int) := by omega
      rw [List.take_of_length_le (by have := HN.out; omega)] at o
      clear HA IN
      go_wp2_with (fail)
      go_ret
      exact ⟨_, rfl, own_lift o (by have := WZ.out; omega), HB.out.trans (bx.mono HB.out.size)⟩
end Go.Proofs.Ytbdgdigpnfpnhaa
