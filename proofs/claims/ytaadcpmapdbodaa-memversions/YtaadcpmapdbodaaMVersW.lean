/-
  The walk of MemVersions: a key's version at a number is the last one up to it. (Written by wip/gen/vers.py.)
-/
import Derived.Test.YtaadcpmapdbodaaMScan
import Derived.Test.YtaadcpmapdbodaaMBestP
import Derived.Test.YtaadcpmapdbodaaMLanesWalk
import Derived.Deep.RegionHeld3
namespace Go.Proofs.Ytaadcpmapdbodaa
open Go.RowKit

theorem skipH {P : Program} {md : Region.Mode} {ops : Array Oper} {Q : Exit → Act → World → Prop} {S : World → Prop} (i d : Nat) {fuel : Nat} {listed : Array Bool} {a : Act} {w : World}
    (ho : ∃ o, ops[i]? = some o ∧ o.dst = some d ∧ Region.wanted o (yielded ops a.tmps) = false)
    (hs : Region.noSelect ops = true) (hf : Region.free md ops listed i = true) (hr : (Region.ready md ops listed).contains i = true)
    (hQ : ∀ c a w, Q (.panic c) (a.put (some d) undef) w → Q (.panic c) a w) (hS : S w)
    (h : wpAnyH P md ops Q S fuel (listed.setIfInBounds i true) (a.put (some d) undef) w) : wpAnyH P md ops Q S (fuel + 1) listed a w := by
  obtain ⟨o, h1, h2, h3⟩ := ho
  refine wpAnyH_take h1 hs hf hr ?_ (Or.inr ⟨h3, rfl⟩) hS ?_
  · rw [h2]; exact hQ
  · rw [h2]; exact h
theorem takeH {P : Program} {md : Region.Mode} {ops : Array Oper} {Q : Exit → Act → World → Prop} {S : World → Prop} (i d : Nat) (v : Value) {fuel : Nat} {listed : Array Bool} {a : Act} {w : World} {oi : Oper}
    (ho : ops[i]? = some oi) (hd : oi.dst = some d) (hw : Region.wanted oi (yielded ops a.tmps) = true)
    (hy : ∀ w, S w → (execOp a.eval oi).run P w = .ok (.value v) w)
    (hs : Region.noSelect ops = true) (hf : Region.free md ops listed i = true) (hr : (Region.ready md ops listed).contains i = true)
    (hQ : ∀ c a w, Q (.panic c) (a.put (some d) v) w → Q (.panic c) a w) (hS : S w)
    (h : wpAnyH P md ops Q S fuel (listed.setIfInBounds i true) (a.put (some d) v) w) : wpAnyH P md ops Q S (fuel + 1) listed a w := by
  refine wpAnyH_take ho hs hf hr ?_ (Or.inl ⟨hw, hy⟩) hS ?_
  · rw [hd]; exact hQ
  · rw [hd]; exact h

theorem scan_s {S : Nat → Prop} {w : World} {b : Nat} {hs : List Nat} {l : List Mm.It} (h : TabS S w b hs l) (hl : l.length ≤ 100000) (lo hi : Mm.Bs) (s : Int) :
    Calls Try.prog 22 #[.pointer (some ⟨b, 0, none⟩), .agg #[str lo, str hi], .int .i64 s] w fun r w' => ∃ v, r = .returned v ∧ w'.ownsRow w.heap.size 38 4 v (Mm.told s (Mm.spanE lo hi l)).length (ecs (Mm.told s (Mm.spanE lo hi l))) ∧ Below w.heap.size w w' := by
  obtain ⟨hv, hd, ns, T, rfl, _⟩ := h
  exact scan_any w b hv hs hd ns T (by simpa using hl) lo hi s

namespace memVersions
open memLanes

theorem ask_cells {w : World} {B : Nat} {k lo hi : Mm.Bs} {s ln : Int} (h : w.heap[B]? = some (askO k lo hi s ln)) : w.cell? ⟨B, 0, none⟩ = some (str k) ∧ w.cell? ⟨B, 1, none⟩ = some (.int .i64 s) ∧ w.cell? ⟨B, 2, none⟩ = some (str lo) ∧ w.cell? ⟨B, 3, none⟩ = some (str hi) :=
  ⟨Joins.cell_of_block h 0, Joins.cell_of_block h 1, Joins.cell_of_block h 2, Joins.cell_of_block h 3⟩
theorem ask_alloc {w : World} {B : Nat} {k lo hi : Mm.Bs} {s ln : Int} (h : w.heap[B]? = some (askO k lo hi s ln)) : (∀ o, (w.alloc o).cell? ⟨B, 0, none⟩ = some (str k)) ∧ (∀ o, (w.alloc o).cell? ⟨B, 1, none⟩ = some (.int .i64 s)) ∧ (∀ o, (w.alloc o).cell? ⟨B, 2, none⟩ = some (str lo)) ∧ (∀ o, (w.alloc o).cell? ⟨B, 3, none⟩ = some (str hi)) := by
  obtain ⟨h0, h1, h2, h3⟩ := ask_cells h
  have b : ∀ o, Below w.heap.size w (w.alloc o) := fun o => (Below.refl _ _).alloc (Nat.le_refl _) o
  exact ⟨fun o => keepC (b o) h0, fun o => keepC (b o) h1, fun o => keepC (b o) h2, fun o => keepC (b o) h3⟩


set_option maxRecDepth 100000 in
set_option maxHeartbeats 8000000 in
theorem walk (w : World) (a : Option Addr) (c n : Nat) (l : List Mm.Ent) (h : EntsAt w (.slice a n c) l) (hn' : n = l.length) (hl : n ≤ maxLen) (hk : ∀ x ∈ l, x.key.length ≤ maxLen ∧ x.value.length ≤ maxLen) (k lo hi : Mm.Bs) (s ln more : Int) :
    Calls Try.prog 4 #[.slice a n c, .agg #[str k, .int .i64 s, str lo, str hi, .int .i64 ln], .int .i64 more] w fun e w' => e = .returned (.bool true) ∧ Below w.heap.size w w' := by
  have HE := hide h
  have HN : Hid (n = l.length) := hn'
  have LV := hide mlives_any
  have B0 : Below w.heap.size w (w.alloc (askO k lo hi s ln)) := (Below.refl _ _).alloc (Nat.le_refl _) _
  have a0 := World.alloc_heap_new w (askO k lo hi s ln)
  have SM : Hid (∀ wx, Below w.heap.size w wx → Calls Try.prog 9 #[.slice a n c] wx fun e w' => e = .returned (.bool (smallB l)) ∧ Below wx.heap.size wx w') := fun wx hw => small_any wx a c n l (HE.out.later hw) hn' hl hk _ rfl
  clear h hn' hk hl
  cases hS : smallB l with
  | false =>
    rw [hS] at SM
    clear hS
    go_enter Try.func4, Try.ntmps4
    go_wp2_with (first
      | (go_at_call 8; refine (LV.out _).mono ?_; rintro e w1 ⟨rfl, b1⟩; have B1 := B0.trans (b1.mono B0.size); clear LV)
      | (go_at_call 9; refine (SM.out _ B1).mono ?_; rintro e w2 ⟨rfl, b2⟩; have B2 := B1.trans (b2.mono B1.size); clear SM))
    go_ret
    exact ⟨rfl, B2⟩
  | true =>
    rw [hS] at SM
    obtain ⟨hl, hs⟩ := small_yes hS
    have HS := hide hs
    have n60 : n ≤ 60 := by rw [HN.out]; exact hl
    have NW : Hid (∀ wx, Below w.heap.size w wx → Calls Try.prog 11 #[.slice none 0 0] wx fun e w' => ∃ b, e = .returned (.tuple #[.pointer (some ⟨b, 0, none⟩), .int .i64 0]) ∧ Below wx.heap.size wx w' ∧ TabS (fun i => wx.heap.size ≤ i) w' b [] []) := fun wx hw => by
      refine (new_s wx _ [] (IntsAt.nil _) (by decide) rfl).mono ?_
      rintro e w' ⟨bb, b, rfl, h⟩
      exact ⟨b, rfl, bb, h⟩
    clear hS hs hl
    go_enter Try.func4, Try.ntmps4
    go_wp2_with (first
      | (go_at_call 8; refine (LV.out _).mono ?_; rintro e w1 ⟨rfl, b1⟩; have B1 := B0.trans (b1.mono B0.size); have a1 := keepB b1 a0; clear LV)
      | (go_at_call 9; refine (SM.out _ B1).mono ?_; rintro e w2 ⟨rfl, b2⟩; have B2 := B1.trans (b2.mono B1.size); have a2 := keepB b2 a1; clear SM)
      | (go_at_call 11; refine (NW.out _ B2).mono ?_; rintro e w3 ⟨t, rfl, b3, t3⟩; have B3 := B2.trans (b3.mono B2.size); have a3 := keepB b3 a2; clear NW))
    have L0 : Ln w w2.heap.size k lo hi s ln t [] [] w3 := ⟨t3, a3, b3.size, (Array.getElem?_eq_some_iff.1 a2).1, B3⟩
    generalize w2.heap.size = N at *
    clear b1 b2 b3 B0 B1 B2 B3 a0 a1 a2 a3 t3
    go_loopw [9, 10] (fun x i wr => ∃ (j : Nat) (best : Int), j ≤ n ∧ i = .int .i64 j ∧ x = .int .i64 best ∧ Hid (∃ L, L.length ≤ j ∧ Ln w N k lo hi s ln t [] L wr ∧ Mm.Best L k s best)) (fun _ i _ => n - (intOf i).toNat)
    case atStart => exact ⟨0, 0, Nat.zero_le _, rfl, rfl, [], Nat.le_refl _, L0, Mm.best_none k s⟩
    case round =>
      obtain ⟨j, best, hj, rfl, rfl, LJ⟩ := hrel
      clear L0
      obtain ⟨L, hL, LL, HBE⟩ := LJ.out
      by_cases hlt : j < n
      · have jl : j < l.length := by have := HN.out; omega
        obtain ⟨b, off, rfl, e0, e1, e2, e3⟩ := ents_entry (HE.out.later LL.bel) j jl
        clear e0 e1 e2 e3
        have hx := HS.out l[j] (List.getElem_mem jl)
        have SH : Hid (∀ wx, Below w.heap.size w wx → wx.heap[w.heap.size]? = some (askO k lo hi s ln) → (fun (x : Mm.Ent) => (fun wx => (wx.cell? ⟨b, off + j * 4, none⟩ = some (str x.key) ∧ wx.cell? ⟨b, off + j * 4 + 1, none⟩ = some (str x.value) ∧ wx.cell? ⟨b, off + j * 4 + 2, none⟩ = some (.int .i64 x.seq) ∧ wx.cell? ⟨b, off + j * 4 + 3, none⟩ = some (.bool x.del)) ∧ (wx.cell? ⟨w.heap.size, 0, none⟩ = some (str k) ∧ wx.cell? ⟨w.heap.size, 1, none⟩ = some (.int .i64 s)))) l[j] wx) := fun wx hb ha => by
          obtain ⟨b', off', e', c0, c1, c2, c3⟩ := ents_entry (HE.out.later hb) j jl
          obtain ⟨rfl, rfl⟩ : b = b' ∧ off = off' := by simpa using e'
          exact ⟨⟨c0, c1, c2, c3⟩, Joins.cell_of_block ha 0, Joins.cell_of_block ha 1⟩
        have AD : Hid (Calls Try.prog 18 #[.pointer (some ⟨t, 0, none⟩), entV l[j]] wr.drew fun r w' => r = .returned (.int .i64 (Mm.addE l[j] L)) ∧ (Mm.addL [] l[j] L).length ≤ j + 1 ∧ Ln w N k lo hi s ln t [] (Mm.addL [] l[j] L) w') := by
          have LL := LL.later (Below.refl _ _).drew
          refine (add_s LL.tab (fun i hi => Nat.le_trans LL.big hi) l[j] (by omega) (by decide) (by omega) (by omega)).mono ?_
          rintro r w' ⟨rfl, T', mv⟩
          refine ⟨rfl, ?_, T', ?_, Nat.le_trans LL.big mv.size, LL.low, LL.bel.trans (mv.under LL.bel.size (fun i hi => by have := LL.low; omega))⟩
          · have := Mm.add_len (hs := []) (e := l[j]) (l := L); omega
          · exact (mv.block _ (Array.getElem?_eq_some_iff.1 LL.ask).1 (by have := LL.low; omega)).trans LL.ask
        have AD2 : Hid (Calls Try.prog 18 #[.pointer (some ⟨t, 0, none⟩), entV l[j]] wr.drew fun r w' => r = .returned (.int .i64 (Mm.addE l[j] L)) ∧ Hid ((Mm.addL [] l[j] L).length ≤ j + 1 ∧ Ln w N k lo hi s ln t [] (Mm.addL [] l[j] L) w') ∧ (fun (x : Mm.Ent) => (fun wx => (wx.cell? ⟨b, off + j * 4, none⟩ = some (str x.key) ∧ wx.cell? ⟨b, off + j * 4 + 1, none⟩ = some (str x.value) ∧ wx.cell? ⟨b, off + j * 4 + 2, none⟩ = some (.int .i64 x.seq) ∧ wx.cell? ⟨b, off + j * 4 + 3, none⟩ = some (.bool x.del)) ∧ (wx.cell? ⟨w.heap.size, 0, none⟩ = some (str k) ∧ wx.cell? ⟨w.heap.size, 1, none⟩ = some (.int .i64 s)))) l[j] w') := by
          refine AD.out.mono ?_
          rintro r w' ⟨rfl, h1, h2⟩
          exact ⟨rfl, ⟨h1, h2⟩, SH.out w' h2.bel h2.ask⟩
        have P0 := SH.out wr.drew LL.bel.drew LL.ask
        have P1 := SH.out wr LL.bel LL.ask
        clear AD
        have AD := AD2
        clear AD2
        have jn : (j : Int) < (n : Int) := by omega
        obtain ⟨x, hxx⟩ : ∃ x, x = l[j] := ⟨_, rfl⟩
        rw [← hxx] at AD SH P0 P1 hx
        clear HE LJ LL jl hxx HS
        have P2 := P1
        obtain ⟨⟨p0, p1, p2, p3⟩, p4, p5⟩ := P2
        by_cases hA : Mm.addE x L = 0
        · have hmay := Mm.add_zero.1 hA
          have hpos : 1 ≤ x.seq := by
            have := hmay.1
            unfold Mm.may at this
            simp only [Bool.and_eq_true, decide_eq_true_eq] at this
            exact this.1.1
          by_cases hK : x.key = k
          · have hKb : (x.key == k) = true := by simp [hK]
            by_cases hQ : x.seq ≤ s
            · have HB' : Hid (Mm.Best (Mm.addL [] x L) k s (max best x.seq)) := Mm.best_new HBE hpos hA hK hQ
              obtain ⟨mb, hmb⟩ : ∃ mb, mb = max best x.seq := ⟨_, rfl⟩
              rw [← hmb] at HB'
              have HMB : Hid (max best x.seq = mb) := hmb.symm
              have hQd : decide (x.seq ≤ s) = true := decide_eq_true hQ
              rw [hA] at AD
              clear hmb hA hmay hpos hK hx HBE SH
              go_wp2_with (fail)
              refine wp_region_held_drew (S := (fun wx => (wx.cell? ⟨b, off + j * 4, none⟩ = some (str x.key) ∧ wx.cell? ⟨b, off + j * 4 + 1, none⟩ = some (str x.value) ∧ wx.cell? ⟨b, off + j * 4 + 2, none⟩ = some (.int .i64 x.seq) ∧ wx.cell? ⟨b, off + j * 4 + 3, none⟩ = some (.bool x.del)) ∧ (wx.cell? ⟨w.heap.size, 0, none⟩ = some (str k) ∧ wx.cell? ⟨w.heap.size, 1, none⟩ = some (.int .i64 s)))) (by kernel_rfl) P0 (fun hHeld => ?_)
              refine takeH (oi := ?oi1) 0 34 (.pointer (some ⟨t, 0, none⟩)) ?hi1 ?hd1 ?hw1 ?hy1 (by kernel_rfl) (by kernel_rfl) (by kernel_rfl) ?hQ1 (by assumption) ?_
              case hi1 => simp only [List.getElem?_toArray, List.getElem?_cons_zero]; rfl
              case hd1 => rfl
              case hw1 => rfl
              case hy1 => (intro w hSw; (try dsimp only at hSw); go_simp)
              case hQ1 => exact fun _ _ _ h => h
              simp only [Act.put, List.setIfInBounds_toArray, List.set_cons_zero, List.set_cons_succ]
              refine takeH (oi := ?oi2) 1 35 (.slice (some ⟨b, off, none⟩) n c) ?hi2 ?hd2 ?hw2 ?hy2 (by kernel_rfl) (by kernel_rfl) (by kernel_rfl) ?hQ2 (by assumption) ?_
              case hi2 => simp only [List.getElem?_toArray, List.getElem?_cons_zero, List.getElem?_cons_succ]; rfl
              case hd2 => rfl
              case hw2 => rfl
              case hy2 => (intro w hSw; (try dsimp only at hSw); go_simp)
              case hQ2 => exact fun _ _ _ h => h
              simp only [Act.put, List.setIfInBounds_toArray, List.set_cons_zero, List.set_cons_succ]
              refine takeH (oi := ?oi3) 2 36 (.int .i64 (j : Int)) ?hi3 ?hd3 ?hw3 ?hy3 (by kernel_rfl) (by kernel_rfl) (by kernel_rfl) ?hQ3 (by assumption) ?_
              case hi3 => simp only [List.getElem?_toArray, List.getElem?_cons_zero, List.getElem?_cons_succ]; rfl
              case hd3 => rfl
              case hw3 => rfl
              case hy3 => (intro w hSw; (try dsimp only at hSw); go_simp)
              case hQ3 => exact fun _ _ _ h => h
              simp only [Act.put, List.setIfInBounds_toArray, List.set_cons_zero, List.set_cons_succ]
              refine takeH (oi := ?oi4) 3 37 (.pointer (some ⟨b, off + j * 4, none⟩)) ?hi4 ?hd4 ?hw4 ?hy4 (by kernel_rfl) (by kernel_rfl) (by kernel_rfl) ?hQ4 (by assumption) ?_
              case hi4 => simp only [List.getElem?_toArray, List.getElem?_cons_zero, List.getElem?_cons_succ]; rfl
              case hd4 => rfl
              case hw4 => rfl
              case hy4 => (intro w hSw; (try dsimp only at hSw); go_simp)
              case hQ4 => exact fun _ _ _ h => h
              simp only [Act.put, List.setIfInBounds_toArray, List.set_cons_zero, List.set_cons_succ]
              refine takeH (oi := ?oi5) 4 38 (.agg #[str x.key, str x.value, .int .i64 x.seq, .bool x.del]) ?hi5 ?hd5 ?hw5 ?hy5 (by kernel_rfl) (by kernel_rfl) (by kernel_rfl) ?hQ5 (by assumption) ?_
              case hi5 => simp only [List.getElem?_toArray, List.getElem?_cons_zero, List.getElem?_cons_succ]; rfl
              case hd5 => rfl
              case hw5 => rfl
              case hy5 => (intro w hSw; (try dsimp only at hSw); go_simp)
              case hQ5 => exact fun _ _ _ h => h
              simp only [Act.put, List.setIfInBounds_toArray, List.set_cons_zero, List.set_cons_succ]
              refine wpAnyH_ready (rs := [5]) (by kernel_rfl) (by simp) ?_
              refine AllReadyH.cons rfl (fun KK hK => ?_) AllReadyH.nil
              go_simp
              refine AD.out.mono ?_
              rintro r w5 ⟨rfl, l5, p5⟩
              go_wp2_with (fail)
              refine hK.out _ _ p5 (fun hHeld2 => ?_)
              clear hK KK hHeld P0 AD
              refine takeH (oi := ?oi6) 6 40 (.bool true) ?hi6 ?hd6 ?hw6 ?hy6 (by kernel_rfl) (by kernel_rfl) (by kernel_rfl) ?hQ6 (by assumption) ?_
              case hi6 => simp only [List.getElem?_toArray, List.getElem?_cons_zero, List.getElem?_cons_succ]; rfl
              case hd6 => rfl
              case hw6 => rfl
              case hy6 => (intro w hSw; (try dsimp only at hSw); go_simp)
              case hQ6 => exact fun _ _ _ h => h
              simp only [Act.put, List.setIfInBounds_toArray, List.set_cons_zero, List.set_cons_succ]
              refine takeH (oi := ?oi7) 7 41 (.bool true) ?hi7 ?hd7 ?hw7 ?hy7 (by kernel_rfl) (by kernel_rfl) (by kernel_rfl) ?hQ7 (by assumption) ?_
              case hi7 => simp only [List.getElem?_toArray, List.getElem?_cons_zero, List.getElem?_cons_succ]; rfl
              case hd7 => rfl
              case hw7 => rfl
              case hy7 => (intro w hSw; (try dsimp only at hSw); go_simp)
              case hQ7 => exact fun _ _ _ h => h
              simp only [Act.put, List.setIfInBounds_toArray, List.set_cons_zero, List.set_cons_succ]
              refine takeH (oi := ?oi8) 8 42 (.slice (some ⟨b, off, none⟩) n c) ?hi8 ?hd8 ?hw8 ?hy8 (by kernel_rfl) (by kernel_rfl) (by kernel_rfl) ?hQ8 (by assumption) ?_
              case hi8 => simp only [List.getElem?_toArray, List.getElem?_cons_zero, List.getElem?_cons_succ]; rfl
              case hd8 => rfl
              case hw8 => rfl
              case hy8 => (intro w hSw; (try dsimp only at hSw); go_simp)
              case hQ8 => exact fun _ _ _ h => h
              simp only [Act.put, List.setIfInBounds_toArray, List.set_cons_zero, List.set_cons_succ]
              refine takeH (oi := ?oi9) 9 43 (.int .i64 (j : Int)) ?hi9 ?hd9 ?hw9 ?hy9 (by kernel_rfl) (by kernel_rfl) (by kernel_rfl) ?hQ9 (by assumption) ?_
              case hi9 => simp only [List.getElem?_toArray, List.getElem?_cons_zero, List.getElem?_cons_succ]; rfl
              case hd9 => rfl
              case hw9 => rfl
              case hy9 => (intro w hSw; (try dsimp only at hSw); go_simp)
              case hQ9 => exact fun _ _ _ h => h
              simp only [Act.put, List.setIfInBounds_toArray, List.set_cons_zero, List.set_cons_succ]
              refine takeH (oi := ?oi10) 10 44 (.pointer (some ⟨b, off + j * 4, none⟩)) ?hi10 ?hd10 ?hw10 ?hy10 (by kernel_rfl) (by kernel_rfl) (by kernel_rfl) ?hQ10 (by assumption) ?_
              case hi10 => simp only [List.getElem?_toArray, List.getElem?_cons_zero, List.getElem?_cons_succ]; rfl
              case hd10 => rfl
              case hw10 => rfl
              case hy10 => (intro w hSw; (try dsimp only at hSw); go_simp)
              case hQ10 => exact fun _ _ _ h => h
              simp only [Act.put, List.setIfInBounds_toArray, List.set_cons_zero, List.set_cons_succ]
              refine takeH (oi := ?oi11) 11 45 (.pointer (some ⟨b, off + j * 4, none⟩)) ?hi11 ?hd11 ?hw11 ?hy11 (by kernel_rfl) (by kernel_rfl) (by kernel_rfl) ?hQ11 (by assumption) ?_
              case hi11 => simp only [List.getElem?_toArray, List.getElem?_cons_zero, List.getElem?_cons_succ]; rfl
              case hd11 => rfl
              case hw11 => rfl
              case hy11 => (intro w hSw; (try dsimp only at hSw); go_simp)
              case hQ11 => exact fun _ _ _ h => h
              simp only [Act.put, List.setIfInBounds_toArray, List.set_cons_zero, List.set_cons_succ]
              refine takeH (oi := ?oi12) 12 46 (str x.key) ?hi12 ?hd12 ?hw12 ?hy12 (by kernel_rfl) (by kernel_rfl) (by kernel_rfl) ?hQ12 (by assumption) ?_
              case hi12 => simp only [List.getElem?_toArray, List.getElem?_cons_zero, List.getElem?_cons_succ]; rfl
              case hd12 => rfl
              case hw12 => rfl
              case hy12 => (intro w hSw; (try dsimp only at hSw); go_simp)
              case hQ12 => exact fun _ _ _ h => h
              simp only [Act.put, List.setIfInBounds_toArray, List.set_cons_zero, List.set_cons_succ]
              refine takeH (oi := ?oi13) 13 47 (.pointer (some ⟨w.heap.size, 0, none⟩)) ?hi13 ?hd13 ?hw13 ?hy13 (by kernel_rfl) (by kernel_rfl) (by kernel_rfl) ?hQ13 (by assumption) ?_
              case hi13 => simp only [List.getElem?_toArray, List.getElem?_cons_zero, List.getElem?_cons_succ]; rfl
              case hd13 => rfl
              case hw13 => rfl
              case hy13 => (intro w hSw; (try dsimp only at hSw); go_simp)
              case hQ13 => exact fun _ _ _ h => h
              simp only [Act.put, List.setIfInBounds_toArray, List.set_cons_zero, List.set_cons_succ]
              refine takeH (oi := ?oi14) 14 48 (str k) ?hi14 ?hd14 ?hw14 ?hy14 (by kernel_rfl) (by kernel_rfl) (by kernel_rfl) ?hQ14 (by assumption) ?_
              case hi14 => simp only [List.getElem?_toArray, List.getElem?_cons_zero, List.getElem?_cons_succ]; rfl
              case hd14 => rfl
              case hw14 => rfl
              case hy14 => (intro w hSw; (try dsimp only at hSw); go_simp)
              case hQ14 => exact fun _ _ _ h => h
              simp only [Act.put, List.setIfInBounds_toArray, List.set_cons_zero, List.set_cons_succ]
              refine takeH (oi := ?oi15) 15 49 (.bool true) ?hi15 ?hd15 ?hw15 ?hy15 (by kernel_rfl) (by kernel_rfl) (by kernel_rfl) ?hQ15 (by assumption) ?_
              case hi15 => simp only [List.getElem?_toArray, List.getElem?_cons_zero, List.getElem?_cons_succ]; rfl
              case hd15 => rfl
              case hw15 => rfl
              case hy15 => (intro w hSw; (try dsimp only at hSw); go_simp)
              case hQ15 => exact fun _ _ _ h => h
              simp only [Act.put, List.setIfInBounds_toArray, List.set_cons_zero, List.set_cons_succ]
              refine takeH (oi := ?oi16) 16 50 (.bool true) ?hi16 ?hd16 ?hw16 ?hy16 (by kernel_rfl) (by kernel_rfl) (by kernel_rfl) ?hQ16 (by assumption) ?_
              case hi16 => simp only [List.getElem?_toArray, List.getElem?_cons_zero, List.getElem?_cons_succ]; rfl
              case hd16 => rfl
              case hw16 => rfl
              case hy16 => (intro w hSw; (try dsimp only at hSw); go_simp)
              case hQ16 => exact fun _ _ _ h => h
              simp only [Act.put, List.setIfInBounds_toArray, List.set_cons_zero, List.set_cons_succ]
              refine takeH (oi := ?oi17) 17 51 (.bool true) ?hi17 ?hd17 ?hw17 ?hy17 (by kernel_rfl) (by kernel_rfl) (by kernel_rfl) ?hQ17 (by assumption) ?_
              case hi17 => simp only [List.getElem?_toArray, List.getElem?_cons_zero, List.getElem?_cons_succ]; rfl
              case hd17 => rfl
              case hw17 => rfl
              case hy17 => (intro w hSw; (try dsimp only at hSw); go_simp)
              case hQ17 => exact fun _ _ _ h => h
              simp only [Act.put, List.setIfInBounds_toArray, List.set_cons_zero, List.set_cons_succ]
              refine takeH (oi := ?oi18) 18 52 (.slice (some ⟨b, off, none⟩) n c) ?hi18 ?hd18 ?hw18 ?hy18 (by kernel_rfl) (by kernel_rfl) (by kernel_rfl) ?hQ18 (by assumption) ?_
              case hi18 => simp only [List.getElem?_toArray, List.getElem?_cons_zero, List.getElem?_cons_succ]; rfl
              case hd18 => rfl
              case hw18 => rfl
              case hy18 => (intro w hSw; (try dsimp only at hSw); go_simp)
              case hQ18 => exact fun _ _ _ h => h
              simp only [Act.put, List.setIfInBounds_toArray, List.set_cons_zero, List.set_cons_succ]
              refine takeH (oi := ?oi19) 19 53 (.int .i64 (j : Int)) ?hi19 ?hd19 ?hw19 ?hy19 (by kernel_rfl) (by kernel_rfl) (by kernel_rfl) ?hQ19 (by assumption) ?_
              case hi19 => simp only [List.getElem?_toArray, List.getElem?_cons_zero, List.getElem?_cons_succ]; rfl
              case hd19 => rfl
              case hw19 => rfl
              case hy19 => (intro w hSw; (try dsimp only at hSw); go_simp)
              case hQ19 => exact fun _ _ _ h => h
              simp only [Act.put, List.setIfInBounds_toArray, List.set_cons_zero, List.set_cons_succ]
              refine takeH (oi := ?oi20) 20 54 (.pointer (some ⟨b, off + j * 4, none⟩)) ?hi20 ?hd20 ?hw20 ?hy20 (by kernel_rfl) (by kernel_rfl) (by kernel_rfl) ?hQ20 (by assumption) ?_
              case hi20 => simp only [List.getElem?_toArray, List.getElem?_cons_zero, List.getElem?_cons_succ]; rfl
              case hd20 => rfl
              case hw20 => rfl
              case hy20 => (intro w hSw; (try dsimp only at hSw); go_simp)
              case hQ20 => exact fun _ _ _ h => h
              simp only [Act.put, List.setIfInBounds_toArray, List.set_cons_zero, List.set_cons_succ]
              refine takeH (oi := ?oi21) 21 55 (.pointer (some ⟨b, off + j * 4 + 2, none⟩)) ?hi21 ?hd21 ?hw21 ?hy21 (by kernel_rfl) (by kernel_rfl) (by kernel_rfl) ?hQ21 (by assumption) ?_
              case hi21 => simp only [List.getElem?_toArray, List.getElem?_cons_zero, List.getElem?_cons_succ]; rfl
              case hd21 => rfl
              case hw21 => rfl
              case hy21 => (intro w hSw; (try dsimp only at hSw); go_simp)
              case hQ21 => exact fun _ _ _ h => h
              simp only [Act.put, List.setIfInBounds_toArray, List.set_cons_zero, List.set_cons_succ]
              refine takeH (oi := ?oi22) 22 56 (.int .i64 x.seq) ?hi22 ?hd22 ?hw22 ?hy22 (by kernel_rfl) (by kernel_rfl) (by kernel_rfl) ?hQ22 (by assumption) ?_
              case hi22 => simp only [List.getElem?_toArray, List.getElem?_cons_zero, List.getElem?_cons_succ]; rfl
              case hd22 => rfl
              case hw22 => rfl
              case hy22 => (intro w hSw; (try dsimp only at hSw); go_simp)
              case hQ22 => exact fun _ _ _ h => h
              simp only [Act.put, List.setIfInBounds_toArray, List.set_cons_zero, List.set_cons_succ]
              refine takeH (oi := ?oi23) 23 57 (.pointer (some ⟨w.heap.size, 1, none⟩)) ?hi23 ?hd23 ?hw23 ?hy23 (by kernel_rfl) (by kernel_rfl) (by kernel_rfl) ?hQ23 (by assumption) ?_
              case hi23 => simp only [List.getElem?_toArray, List.getElem?_cons_zero, List.getElem?_cons_succ]; rfl
              case hd23 => rfl
              case hw23 => rfl
              case hy23 => (intro w hSw; (try dsimp only at hSw); go_simp)
              case hQ23 => exact fun _ _ _ h => h
              simp only [Act.put, List.setIfInBounds_toArray, List.set_cons_zero, List.set_cons_succ]
              refine takeH (oi := ?oi24) 24 58 (.int .i64 s) ?hi24 ?hd24 ?hw24 ?hy24 (by kernel_rfl) (by kernel_rfl) (by kernel_rfl) ?hQ24 (by assumption) ?_
              case hi24 => simp only [List.getElem?_toArray, List.getElem?_cons_zero, List.getElem?_cons_succ]; rfl
              case hd24 => rfl
              case hw24 => rfl
              case hy24 => (intro w hSw; (try dsimp only at hSw); go_simp)
              case hQ24 => exact fun _ _ _ h => h
              simp only [Act.put, List.setIfInBounds_toArray, List.set_cons_zero, List.set_cons_succ]
              refine takeH (oi := ?oi25) 25 59 (.bool true) ?hi25 ?hd25 ?hw25 ?hy25 (by kernel_rfl) (by kernel_rfl) (by kernel_rfl) ?hQ25 (by assumption) ?_
              case hi25 => simp only [List.getElem?_toArray, List.getElem?_cons_zero, List.getElem?_cons_succ]; rfl
              case hd25 => rfl
              case hw25 => rfl
              case hy25 => (intro w hSw; (try dsimp only at hSw); go_simp)
              case hQ25 => exact fun _ _ _ h => h
              simp only [Act.put, List.setIfInBounds_toArray, List.set_cons_zero, List.set_cons_succ]
              refine takeH (oi := ?oi26) 26 60 (.bool true) ?hi26 ?hd26 ?hw26 ?hy26 (by kernel_rfl) (by kernel_rfl) (by kernel_rfl) ?hQ26 (by assumption) ?_
              case hi26 => simp only [List.getElem?_toArray, List.getElem?_cons_zero, List.getElem?_cons_succ]; rfl
              case hd26 => rfl
              case hw26 => rfl
              case hy26 => (intro w hSw; (try dsimp only at hSw); go_simp)
              case hQ26 => exact fun _ _ _ h => h
              simp only [Act.put, List.setIfInBounds_toArray, List.set_cons_zero, List.set_cons_succ]
              refine wpAnyH_done (by kernel_rfl) ?_ _
              go_wp2_with (fail)
              exact ⟨⟨j + 1, mb, by omega, by go_num, by rw [HMB.out], _, l5.out.1, l5.out.2, HB'.out⟩, by simp [intOf]; omega⟩
            · have HB' : Hid (Mm.Best (Mm.addL [] x L) k s best) := Mm.best_other HBE hpos hA (fun h => hQ h.2)
              have hQd : decide (x.seq ≤ s) = false := decide_eq_false hQ
              rw [hA] at AD
              clear hA hmay hpos hK hx HBE SH
              go_wp2_with (fail)
              refine wp_region_held_drew (S := (fun wx => (wx.cell? ⟨b, off + j * 4, none⟩ = some (str x.key) ∧ wx.cell? ⟨b, off + j * 4 + 1, none⟩ = some (str x.value) ∧ wx.cell? ⟨b, off + j * 4 + 2, none⟩ = some (.int .i64 x.seq) ∧ wx.cell? ⟨b, off + j * 4 + 3, none⟩ = some (.bool x.del)) ∧ (wx.cell? ⟨w.heap.size, 0, none⟩ = some (str k) ∧ wx.cell? ⟨w.heap.size, 1, none⟩ = some (.int .i64 s)))) (by kernel_rfl) P0 (fun hHeld => ?_)
              refine takeH (oi := ?oi27) 0 34 (.pointer (some ⟨t, 0, none⟩)) ?hi27 ?hd27 ?hw27 ?hy27 (by kernel_rfl) (by kernel_rfl) (by kernel_rfl) ?hQ27 (by assumption) ?_
              case hi27 => simp only [List.getElem?_toArray, List.getElem?_cons_zero]; rfl
              case hd27 => rfl
              case hw27 => rfl
              case hy27 => (intro w hSw; (try dsimp only at hSw); go_simp)
              case hQ27 => exact fun _ _ _ h => h
              simp only [Act.put, List.setIfInBounds_toArray, List.set_cons_zero, List.set_cons_succ]
              refine takeH (oi := ?oi28) 1 35 (.slice (some ⟨b, off, none⟩) n c) ?hi28 ?hd28 ?hw28 ?hy28 (by kernel_rfl) (by kernel_rfl) (by kernel_rfl) ?hQ28 (by assumption) ?_
              case hi28 => simp only [List.getElem?_toArray, List.getElem?_cons_zero, List.getElem?_cons_succ]; rfl
              case hd28 => rfl
              case hw28 => rfl
              case hy28 => (intro w hSw; (try dsimp only at hSw); go_simp)
              case hQ28 => exact fun _ _ _ h => h
              simp only [Act.put, List.setIfInBounds_toArray, List.set_cons_zero, List.set_cons_succ]
              refine takeH (oi := ?oi29) 2 36 (.int .i64 (j : Int)) ?hi29 ?hd29 ?hw29 ?hy29 (by kernel_rfl) (by kernel_rfl) (by kernel_rfl) ?hQ29 (by assumption) ?_
              case hi29 => simp only [List.getElem?_toArray, List.getElem?_cons_zero, List.getElem?_cons_succ]; rfl
              case hd29 => rfl
              case hw29 => rfl
              case hy29 => (intro w hSw; (try dsimp only at hSw); go_simp)
              case hQ29 => exact fun _ _ _ h => h
              simp only [Act.put, List.setIfInBounds_toArray, List.set_cons_zero, List.set_cons_succ]
              refine takeH (oi := ?oi30) 3 37 (.pointer (some ⟨b, off + j * 4, none⟩)) ?hi30 ?hd30 ?hw30 ?hy30 (by kernel_rfl) (by kernel_rfl) (by kernel_rfl) ?hQ30 (by assumption) ?_
              case hi30 => simp only [List.getElem?_toArray, List.getElem?_cons_zero, List.getElem?_cons_succ]; rfl
              case hd30 => rfl
              case hw30 => rfl
              case hy30 => (intro w hSw; (try dsimp only at hSw); go_simp)
              case hQ30 => exact fun _ _ _ h => h
              simp only [Act.put, List.setIfInBounds_toArray, List.set_cons_zero, List.set_cons_succ]
              refine takeH (oi := ?oi31) 4 38 (.agg #[str x.key, str x.value, .int .i64 x.seq, .bool x.del]) ?hi31 ?hd31 ?hw31 ?hy31 (by kernel_rfl) (by kernel_rfl) (by kernel_rfl) ?hQ31 (by assumption) ?_
              case hi31 => simp only [List.getElem?_toArray, List.getElem?_cons_zero, List.getElem?_cons_succ]; rfl
              case hd31 => rfl
              case hw31 => rfl
              case hy31 => (intro w hSw; (try dsimp only at hSw); go_simp)
              case hQ31 => exact fun _ _ _ h => h
              simp only [Act.put, List.setIfInBounds_toArray, List.set_cons_zero, List.set_cons_succ]
              refine wpAnyH_ready (rs := [5]) (by kernel_rfl) (by simp) ?_
              refine AllReadyH.cons rfl (fun KK hK => ?_) AllReadyH.nil
              go_simp
              refine AD.out.mono ?_
              rintro r w5 ⟨rfl, l5, p5⟩
              go_wp2_with (fail)
              refine hK.out _ _ p5 (fun hHeld2 => ?_)
              clear hK KK hHeld P0 AD
              refine takeH (oi := ?oi32) 6 40 (.bool true) ?hi32 ?hd32 ?hw32 ?hy32 (by kernel_rfl) (by kernel_rfl) (by kernel_rfl) ?hQ32 (by assumption) ?_
              case hi32 => simp only [List.getElem?_toArray, List.getElem?_cons_zero, List.getElem?_cons_succ]; rfl
              case hd32 => rfl
              case hw32 => rfl
              case hy32 => (intro w hSw; (try dsimp only at hSw); go_simp)
              case hQ32 => exact fun _ _ _ h => h
              simp only [Act.put, List.setIfInBounds_toArray, List.set_cons_zero, List.set_cons_succ]
              refine takeH (oi := ?oi33) 7 41 (.bool true) ?hi33 ?hd33 ?hw33 ?hy33 (by kernel_rfl) (by kernel_rfl) (by kernel_rfl) ?hQ33 (by assumption) ?_
              case hi33 => simp only [List.getElem?_toArray, List.getElem?_cons_zero, List.getElem?_cons_succ]; rfl
              case hd33 => rfl
              case hw33 => rfl
              case hy33 => (intro w hSw; (try dsimp only at hSw); go_simp)
              case hQ33 => exact fun _ _ _ h => h
              simp only [Act.put, List.setIfInBounds_toArray, List.set_cons_zero, List.set_cons_succ]
              refine takeH (oi := ?oi34) 8 42 (.slice (some ⟨b, off, none⟩) n c) ?hi34 ?hd34 ?hw34 ?hy34 (by kernel_rfl) (by kernel_rfl) (by kernel_rfl) ?hQ34 (by assumption) ?_
              case hi34 => simp only [List.getElem?_toArray, List.getElem?_cons_zero, List.getElem?_cons_succ]; rfl
              case hd34 => rfl
              case hw34 => rfl
              case hy34 => (intro w hSw; (try dsimp only at hSw); go_simp)
              case hQ34 => exact fun _ _ _ h => h
              simp only [Act.put, List.setIfInBounds_toArray, List.set_cons_zero, List.set_cons_succ]
              refine takeH (oi := ?oi35) 9 43 (.int .i64 (j : Int)) ?hi35 ?hd35 ?hw35 ?hy35 (by kernel_rfl) (by kernel_rfl) (by kernel_rfl) ?hQ35 (by assumption) ?_
              case hi35 => simp only [List.getElem?_toArray, List.getElem?_cons_zero, List.getElem?_cons_succ]; rfl
              case hd35 => rfl
              case hw35 => rfl
              case hy35 => (intro w hSw; (try dsimp only at hSw); go_simp)
              case hQ35 => exact fun _ _ _ h => h
              simp only [Act.put, List.setIfInBounds_toArray, List.set_cons_zero, List.set_cons_succ]
              refine takeH (oi := ?oi36) 10 44 (.pointer (some ⟨b, off + j * 4, none⟩)) ?hi36 ?hd36 ?hw36 ?hy36 (by kernel_rfl) (by kernel_rfl) (by kernel_rfl) ?hQ36 (by assumption) ?_
              case hi36 => simp only [List.getElem?_toArray, List.getElem?_cons_zero, List.getElem?_cons_succ]; rfl
              case hd36 => rfl
              case hw36 => rfl
              case hy36 => (intro w hSw; (try dsimp only at hSw); go_simp)
              case hQ36 => exact fun _ _ _ h => h
              simp only [Act.put, List.setIfInBounds_toArray, List.set_cons_zero, List.set_cons_succ]
              refine takeH (oi := ?oi37) 11 45 (.pointer (some ⟨b, off + j * 4, none⟩)) ?hi37 ?hd37 ?hw37 ?hy37 (by kernel_rfl) (by kernel_rfl) (by kernel_rfl) ?hQ37 (by assumption) ?_
              case hi37 => simp only [List.getElem?_toArray, List.getElem?_cons_zero, List.getElem?_cons_succ]; rfl
              case hd37 => rfl
              case hw37 => rfl
              case hy37 => (intro w hSw; (try dsimp only at hSw); go_simp)
              case hQ37 => exact fun _ _ _ h => h
              simp only [Act.put, List.setIfInBounds_toArray, List.set_cons_zero, List.set_cons_succ]
              refine takeH (oi := ?oi38) 12 46 (str x.key) ?hi38 ?hd38 ?hw38 ?hy38 (by kernel_rfl) (by kernel_rfl) (by kernel_rfl) ?hQ38 (by assumption) ?_
              case hi38 => simp only [List.getElem?_toArray, List.getElem?_cons_zero, List.getElem?_cons_succ]; rfl
              case hd38 => rfl
              case hw38 => rfl
              case hy38 => (intro w hSw; (try dsimp only at hSw); go_simp)
              case hQ38 => exact fun _ _ _ h => h
              simp only [Act.put, List.setIfInBounds_toArray, List.set_cons_zero, List.set_cons_succ]
              refine takeH (oi := ?oi39) 13 47 (.pointer (some ⟨w.heap.size, 0, none⟩)) ?hi39 ?hd39 ?hw39 ?hy39 (by kernel_rfl) (by kernel_rfl) (by kernel_rfl) ?hQ39 (by assumption) ?_
              case hi39 => simp only [List.getElem?_toArray, List.getElem?_cons_zero, List.getElem?_cons_succ]; rfl
              case hd39 => rfl
              case hw39 => rfl
              case hy39 => (intro w hSw; (try dsimp only at hSw); go_simp)
              case hQ39 => exact fun _ _ _ h => h
              simp only [Act.put, List.setIfInBounds_toArray, List.set_cons_zero, List.set_cons_succ]
              refine takeH (oi := ?oi40) 14 48 (str k) ?hi40 ?hd40 ?hw40 ?hy40 (by kernel_rfl) (by kernel_rfl) (by kernel_rfl) ?hQ40 (by assumption) ?_
              case hi40 => simp only [List.getElem?_toArray, List.getElem?_cons_zero, List.getElem?_cons_succ]; rfl
              case hd40 => rfl
              case hw40 => rfl
              case hy40 => (intro w hSw; (try dsimp only at hSw); go_simp)
              case hQ40 => exact fun _ _ _ h => h
              simp only [Act.put, List.setIfInBounds_toArray, List.set_cons_zero, List.set_cons_succ]
              refine takeH (oi := ?oi41) 15 49 (.bool true) ?hi41 ?hd41 ?hw41 ?hy41 (by kernel_rfl) (by kernel_rfl) (by kernel_rfl) ?hQ41 (by assumption) ?_
              case hi41 => simp only [List.getElem?_toArray, List.getElem?_cons_zero, List.getElem?_cons_succ]; rfl
              case hd41 => rfl
              case hw41 => rfl
              case hy41 => (intro w hSw; (try dsimp only at hSw); go_simp)
              case hQ41 => exact fun _ _ _ h => h
              simp only [Act.put, List.setIfInBounds_toArray, List.set_cons_zero, List.set_cons_succ]
              refine takeH (oi := ?oi42) 16 50 (.bool true) ?hi42 ?hd42 ?hw42 ?hy42 (by kernel_rfl) (by kernel_rfl) (by kernel_rfl) ?hQ42 (by assumption) ?_
              case hi42 => simp only [List.getElem?_toArray, List.getElem?_cons_zero, List.getElem?_cons_succ]; rfl
              case hd42 => rfl
              case hw42 => rfl
              case hy42 => (intro w hSw; (try dsimp only at hSw); go_simp)
              case hQ42 => exact fun _ _ _ h => h
              simp only [Act.put, List.setIfInBounds_toArray, List.set_cons_zero, List.set_cons_succ]
              refine takeH (oi := ?oi43) 17 51 (.bool true) ?hi43 ?hd43 ?hw43 ?hy43 (by kernel_rfl) (by kernel_rfl) (by kernel_rfl) ?hQ43 (by assumption) ?_
              case hi43 => simp only [List.getElem?_toArray, List.getElem?_cons_zero, List.getElem?_cons_succ]; rfl
              case hd43 => rfl
              case hw43 => rfl
              case hy43 => (intro w hSw; (try dsimp only at hSw); go_simp)
              case hQ43 => exact fun _ _ _ h => h
              simp only [Act.put, List.setIfInBounds_toArray, List.set_cons_zero, List.set_cons_succ]
              refine takeH (oi := ?oi44) 18 52 (.slice (some ⟨b, off, none⟩) n c) ?hi44 ?hd44 ?hw44 ?hy44 (by kernel_rfl) (by kernel_rfl) (by kernel_rfl) ?hQ44 (by assumption) ?_
              case hi44 => simp only [List.getElem?_toArray, List.getElem?_cons_zero, List.getElem?_cons_succ]; rfl
              case hd44 => rfl
              case hw44 => rfl
              case hy44 => (intro w hSw; (try dsimp only at hSw); go_simp)
              case hQ44 => exact fun _ _ _ h => h
              simp only [Act.put, List.setIfInBounds_toArray, List.set_cons_zero, List.set_cons_succ]
              refine takeH (oi := ?oi45) 19 53 (.int .i64 (j : Int)) ?hi45 ?hd45 ?hw45 ?hy45 (by kernel_rfl) (by kernel_rfl) (by kernel_rfl) ?hQ45 (by assumption) ?_
              case hi45 => simp only [List.getElem?_toArray, List.getElem?_cons_zero, List.getElem?_cons_succ]; rfl
              case hd45 => rfl
              case hw45 => rfl
              case hy45 => (intro w hSw; (try dsimp only at hSw); go_simp)
              case hQ45 => exact fun _ _ _ h => h
              simp only [Act.put, List.setIfInBounds_toArray, List.set_cons_zero, List.set_cons_succ]
              refine takeH (oi := ?oi46) 20 54 (.pointer (some ⟨b, off + j * 4, none⟩)) ?hi46 ?hd46 ?hw46 ?hy46 (by kernel_rfl) (by kernel_rfl) (by kernel_rfl) ?hQ46 (by assumption) ?_
              case hi46 => simp only [List.getElem?_toArray, List.getElem?_cons_zero, List.getElem?_cons_succ]; rfl
              case hd46 => rfl
              case hw46 => rfl
              case hy46 => (intro w hSw; (try dsimp only at hSw); go_simp)
              case hQ46 => exact fun _ _ _ h => h
              simp only [Act.put, List.setIfInBounds_toArray, List.set_cons_zero, List.set_cons_succ]
              refine takeH (oi := ?oi47) 21 55 (.pointer (some ⟨b, off + j * 4 + 2, none⟩)) ?hi47 ?hd47 ?hw47 ?hy47 (by kernel_rfl) (by kernel_rfl) (by kernel_rfl) ?hQ47 (by assumption) ?_
              case hi47 => simp only [List.getElem?_toArray, List.getElem?_cons_zero, List.getElem?_cons_succ]; rfl
              case hd47 => rfl
              case hw47 => rfl
              case hy47 => (intro w hSw; (try dsimp only at hSw); go_simp)
              case hQ47 => exact fun _ _ _ h => h
              simp only [Act.put, List.setIfInBounds_toArray, List.set_cons_zero, List.set_cons_succ]
              refine takeH (oi := ?oi48) 22 56 (.int .i64 x.seq) ?hi48 ?hd48 ?hw48 ?hy48 (by kernel_rfl) (by kernel_rfl) (by kernel_rfl) ?hQ48 (by assumption) ?_
              case hi48 => simp only [List.getElem?_toArray, List.getElem?_cons_zero, List.getElem?_cons_succ]; rfl
              case hd48 => rfl
              case hw48 => rfl
              case hy48 => (intro w hSw; (try dsimp only at hSw); go_simp)
              case hQ48 => exact fun _ _ _ h => h
              simp only [Act.put, List.setIfInBounds_toArray, List.set_cons_zero, List.set_cons_succ]
              refine takeH (oi := ?oi49) 23 57 (.pointer (some ⟨w.heap.size, 1, none⟩)) ?hi49 ?hd49 ?hw49 ?hy49 (by kernel_rfl) (by kernel_rfl) (by kernel_rfl) ?hQ49 (by assumption) ?_
              case hi49 => simp only [List.getElem?_toArray, List.getElem?_cons_zero, List.getElem?_cons_succ]; rfl
              case hd49 => rfl
              case hw49 => rfl
              case hy49 => (intro w hSw; (try dsimp only at hSw); go_simp)
              case hQ49 => exact fun _ _ _ h => h
              simp only [Act.put, List.setIfInBounds_toArray, List.set_cons_zero, List.set_cons_succ]
              refine takeH (oi := ?oi50) 24 58 (.int .i64 s) ?hi50 ?hd50 ?hw50 ?hy50 (by kernel_rfl) (by kernel_rfl) (by kernel_rfl) ?hQ50 (by assumption) ?_
              case hi50 => simp only [List.getElem?_toArray, List.getElem?_cons_zero, List.getElem?_cons_succ]; rfl
              case hd50 => rfl
              case hw50 => rfl
              case hy50 => (intro w hSw; (try dsimp only at hSw); go_simp)
              case hQ50 => exact fun _ _ _ h => h
              simp only [Act.put, List.setIfInBounds_toArray, List.set_cons_zero, List.set_cons_succ]
              refine takeH (oi := ?oi51) 25 59 (.bool false) ?hi51 ?hd51 ?hw51 ?hy51 (by kernel_rfl) (by kernel_rfl) (by kernel_rfl) ?hQ51 (by assumption) ?_
              case hi51 => simp only [List.getElem?_toArray, List.getElem?_cons_zero, List.getElem?_cons_succ]; rfl
              case hd51 => rfl
              case hw51 => rfl
              case hy51 => (intro w hSw; (try dsimp only at hSw); go_simp)
              case hQ51 => exact fun _ _ _ h => h
              simp only [Act.put, List.setIfInBounds_toArray, List.set_cons_zero, List.set_cons_succ]
              refine takeH (oi := ?oi52) 26 60 (.bool false) ?hi52 ?hd52 ?hw52 ?hy52 (by kernel_rfl) (by kernel_rfl) (by kernel_rfl) ?hQ52 (by assumption) ?_
              case hi52 => simp only [List.getElem?_toArray, List.getElem?_cons_zero, List.getElem?_cons_succ]; rfl
              case hd52 => rfl
              case hw52 => rfl
              case hy52 => (intro w hSw; (try dsimp only at hSw); go_simp)
              case hQ52 => exact fun _ _ _ h => h
              simp only [Act.put, List.setIfInBounds_toArray, List.set_cons_zero, List.set_cons_succ]
              refine wpAnyH_done (by kernel_rfl) ?_ _
              go_wp2_with (fail)
              exact ⟨⟨j + 1, best, by omega, by go_num, rfl, _, l5.out.1, l5.out.2, HB'.out⟩, by simp [intOf]; omega⟩
          · have HB' : Hid (Mm.Best (Mm.addL [] x L) k s best) := Mm.best_other HBE hpos hA (fun h => hK h.1)
            have hKb : (x.key == k) = false := by simp [hK]
            rw [hA] at AD
            clear hA hmay hpos hK hx HBE SH
            go_wp2_with (fail)
            refine wp_region_held_drew (S := (fun wx => (wx.cell? ⟨b, off + j * 4, none⟩ = some (str x.key) ∧ wx.cell? ⟨b, off + j * 4 + 1, none⟩ = some (str x.value) ∧ wx.cell? ⟨b, off + j * 4 + 2, none⟩ = some (.int .i64 x.seq) ∧ wx.cell? ⟨b, off + j * 4 + 3, none⟩ = some (.bool x.del)) ∧ (wx.cell? ⟨w.heap.size, 0, none⟩ = some (str k) ∧ wx.cell? ⟨w.heap.size, 1, none⟩ = some (.int .i64 s)))) (by kernel_rfl) P0 (fun hHeld => ?_)
            refine takeH (oi := ?oi53) 0 34 (.pointer (some ⟨t, 0, none⟩)) ?hi53 ?hd53 ?hw53 ?hy53 (by kernel_rfl) (by kernel_rfl) (by kernel_rfl) ?hQ53 (by assumption) ?_
            case hi53 => simp only [List.getElem?_toArray, List.getElem?_cons_zero]; rfl
            case hd53 => rfl
            case hw53 => rfl
            case hy53 => (intro w hSw; (try dsimp only at hSw); go_simp)
            case hQ53 => exact fun _ _ _ h => h
            simp only [Act.put, List.setIfInBounds_toArray, List.set_cons_zero, List.set_cons_succ]
            refine takeH (oi := ?oi54) 1 35 (.slice (some ⟨b, off, none⟩) n c) ?hi54 ?hd54 ?hw54 ?hy54 (by kernel_rfl) (by kernel_rfl) (by kernel_rfl) ?hQ54 (by assumption) ?_
            case hi54 => simp only [List.getElem?_toArray, List.getElem?_cons_zero, List.getElem?_cons_succ]; rfl
            case hd54 => rfl
            case hw54 => rfl
            case hy54 => (intro w hSw; (try dsimp only at hSw); go_simp)
            case hQ54 => exact fun _ _ _ h => h
            simp only [Act.put, List.setIfInBounds_toArray, List.set_cons_zero, List.set_cons_succ]
            refine takeH (oi := ?oi55) 2 36 (.int .i64 (j : Int)) ?hi55 ?hd55 ?hw55 ?hy55 (by kernel_rfl) (by kernel_rfl) (by kernel_rfl) ?hQ55 (by assumption) ?_
            case hi55 => simp only [List.getElem?_toArray, List.getElem?_cons_zero, List.getElem?_cons_succ]; rfl
            case hd55 => rfl
            case hw55 => rfl
            case hy55 => (intro w hSw; (try dsimp only at hSw); go_simp)
            case hQ55 => exact fun _ _ _ h => h
            simp only [Act.put, List.setIfInBounds_toArray, List.set_cons_zero, List.set_cons_succ]
            refine takeH (oi := ?oi56) 3 37 (.pointer (some ⟨b, off + j * 4, none⟩)) ?hi56 ?hd56 ?hw56 ?hy56 (by kernel_rfl) (by kernel_rfl) (by kernel_rfl) ?hQ56 (by assumption) ?_
            case hi56 => simp only [List.getElem?_toArray, List.getElem?_cons_zero, List.getElem?_cons_succ]; rfl
            case hd56 => rfl
            case hw56 => rfl
            case hy56 => (intro w hSw; (try dsimp only at hSw); go_simp)
            case hQ56 => exact fun _ _ _ h => h
            simp only [Act.put, List.setIfInBounds_toArray, List.set_cons_zero, List.set_cons_succ]
            refine takeH (oi := ?oi57) 4 38 (.agg #[str x.key, str x.value, .int .i64 x.seq, .bool x.del]) ?hi57 ?hd57 ?hw57 ?hy57 (by kernel_rfl) (by kernel_rfl) (by kernel_rfl) ?hQ57 (by assumption) ?_
            case hi57 => simp only [List.getElem?_toArray, List.getElem?_cons_zero, List.getElem?_cons_succ]; rfl
            case hd57 => rfl
            case hw57 => rfl
            case hy57 => (intro w hSw; (try dsimp only at hSw); go_simp)
            case hQ57 => exact fun _ _ _ h => h
            simp only [Act.put, List.setIfInBounds_toArray, List.set_cons_zero, List.set_cons_succ]
            refine wpAnyH_ready (rs := [5]) (by kernel_rfl) (by simp) ?_
            refine AllReadyH.cons rfl (fun KK hK => ?_) AllReadyH.nil
            go_simp
            refine AD.out.mono ?_
            rintro r w5 ⟨rfl, l5, p5⟩
            go_wp2_with (fail)
            refine hK.out _ _ p5 (fun hHeld2 => ?_)
            clear hK KK hHeld P0 AD
            refine takeH (oi := ?oi58) 6 40 (.bool true) ?hi58 ?hd58 ?hw58 ?hy58 (by kernel_rfl) (by kernel_rfl) (by kernel_rfl) ?hQ58 (by assumption) ?_
            case hi58 => simp only [List.getElem?_toArray, List.getElem?_cons_zero, List.getElem?_cons_succ]; rfl
            case hd58 => rfl
            case hw58 => rfl
            case hy58 => (intro w hSw; (try dsimp only at hSw); go_simp)
            case hQ58 => exact fun _ _ _ h => h
            simp only [Act.put, List.setIfInBounds_toArray, List.set_cons_zero, List.set_cons_succ]
            refine takeH (oi := ?oi59) 7 41 (.bool true) ?hi59 ?hd59 ?hw59 ?hy59 (by kernel_rfl) (by kernel_rfl) (by kernel_rfl) ?hQ59 (by assumption) ?_
            case hi59 => simp only [List.getElem?_toArray, List.getElem?_cons_zero, List.getElem?_cons_succ]; rfl
            case hd59 => rfl
            case hw59 => rfl
            case hy59 => (intro w hSw; (try dsimp only at hSw); go_simp)
            case hQ59 => exact fun _ _ _ h => h
            simp only [Act.put, List.setIfInBounds_toArray, List.set_cons_zero, List.set_cons_succ]
            refine takeH (oi := ?oi60) 8 42 (.slice (some ⟨b, off, none⟩) n c) ?hi60 ?hd60 ?hw60 ?hy60 (by kernel_rfl) (by kernel_rfl) (by kernel_rfl) ?hQ60 (by assumption) ?_
            case hi60 => simp only [List.getElem?_toArray, List.getElem?_cons_zero, List.getElem?_cons_succ]; rfl
            case hd60 => rfl
            case hw60 => rfl
            case hy60 => (intro w hSw; (try dsimp only at hSw); go_simp)
            case hQ60 => exact fun _ _ _ h => h
            simp only [Act.put, List.setIfInBounds_toArray, List.set_cons_zero, List.set_cons_succ]
            refine takeH (oi := ?oi61) 9 43 (.int .i64 (j : Int)) ?hi61 ?hd61 ?hw61 ?hy61 (by kernel_rfl) (by kernel_rfl) (by kernel_rfl) ?hQ61 (by assumption) ?_
            case hi61 => simp only [List.getElem?_toArray, List.getElem?_cons_zero, List.getElem?_cons_succ]; rfl
            case hd61 => rfl
            case hw61 => rfl
            case hy61 => (intro w hSw; (try dsimp only at hSw); go_simp)
            case hQ61 => exact fun _ _ _ h => h
            simp only [Act.put, List.setIfInBounds_toArray, List.set_cons_zero, List.set_cons_succ]
            refine takeH (oi := ?oi62) 10 44 (.pointer (some ⟨b, off + j * 4, none⟩)) ?hi62 ?hd62 ?hw62 ?hy62 (by kernel_rfl) (by kernel_rfl) (by kernel_rfl) ?hQ62 (by assumption) ?_
            case hi62 => simp only [List.getElem?_toArray, List.getElem?_cons_zero, List.getElem?_cons_succ]; rfl
            case hd62 => rfl
            case hw62 => rfl
            case hy62 => (intro w hSw; (try dsimp only at hSw); go_simp)
            case hQ62 => exact fun _ _ _ h => h
            simp only [Act.put, List.setIfInBounds_toArray, List.set_cons_zero, List.set_cons_succ]
            refine takeH (oi := ?oi63) 11 45 (.pointer (some ⟨b, off + j * 4, none⟩)) ?hi63 ?hd63 ?hw63 ?hy63 (by kernel_rfl) (by kernel_rfl) (by kernel_rfl) ?hQ63 (by assumption) ?_
            case hi63 => simp only [List.getElem?_toArray, List.getElem?_cons_zero, List.getElem?_cons_succ]; rfl
            case hd63 => rfl
            case hw63 => rfl
            case hy63 => (intro w hSw; (try dsimp only at hSw); go_simp)
            case hQ63 => exact fun _ _ _ h => h
            simp only [Act.put, List.setIfInBounds_toArray, List.set_cons_zero, List.set_cons_succ]
            refine takeH (oi := ?oi64) 12 46 (str x.key) ?hi64 ?hd64 ?hw64 ?hy64 (by kernel_rfl) (by kernel_rfl) (by kernel_rfl) ?hQ64 (by assumption) ?_
            case hi64 => simp only [List.getElem?_toArray, List.getElem?_cons_zero, List.getElem?_cons_succ]; rfl
            case hd64 => rfl
            case hw64 => rfl
            case hy64 => (intro w hSw; (try dsimp only at hSw); go_simp)
            case hQ64 => exact fun _ _ _ h => h
            simp only [Act.put, List.setIfInBounds_toArray, List.set_cons_zero, List.set_cons_succ]
            refine takeH (oi := ?oi65) 13 47 (.pointer (some ⟨w.heap.size, 0, none⟩)) ?hi65 ?hd65 ?hw65 ?hy65 (by kernel_rfl) (by kernel_rfl) (by kernel_rfl) ?hQ65 (by assumption) ?_
            case hi65 => simp only [List.getElem?_toArray, List.getElem?_cons_zero, List.getElem?_cons_succ]; rfl
            case hd65 => rfl
            case hw65 => rfl
            case hy65 => (intro w hSw; (try dsimp only at hSw); go_simp)
            case hQ65 => exact fun _ _ _ h => h
            simp only [Act.put, List.setIfInBounds_toArray, List.set_cons_zero, List.set_cons_succ]
            refine takeH (oi := ?oi66) 14 48 (str k) ?hi66 ?hd66 ?hw66 ?hy66 (by kernel_rfl) (by kernel_rfl) (by kernel_rfl) ?hQ66 (by assumption) ?_
            case hi66 => simp only [List.getElem?_toArray, List.getElem?_cons_zero, List.getElem?_cons_succ]; rfl
            case hd66 => rfl
            case hw66 => rfl
            case hy66 => (intro w hSw; (try dsimp only at hSw); go_simp)
            case hQ66 => exact fun _ _ _ h => h
            simp only [Act.put, List.setIfInBounds_toArray, List.set_cons_zero, List.set_cons_succ]
            refine takeH (oi := ?oi67) 15 49 (.bool false) ?hi67 ?hd67 ?hw67 ?hy67 (by kernel_rfl) (by kernel_rfl) (by kernel_rfl) ?hQ67 (by assumption) ?_
            case hi67 => simp only [List.getElem?_toArray, List.getElem?_cons_zero, List.getElem?_cons_succ]; rfl
            case hd67 => rfl
            case hw67 => rfl
            case hy67 => (intro w hSw; (try dsimp only at hSw); go_simp)
            case hQ67 => exact fun _ _ _ h => h
            simp only [Act.put, List.setIfInBounds_toArray, List.set_cons_zero, List.set_cons_succ]
            refine takeH (oi := ?oi68) 16 50 (.bool false) ?hi68 ?hd68 ?hw68 ?hy68 (by kernel_rfl) (by kernel_rfl) (by kernel_rfl) ?hQ68 (by assumption) ?_
            case hi68 => simp only [List.getElem?_toArray, List.getElem?_cons_zero, List.getElem?_cons_succ]; rfl
            case hd68 => rfl
            case hw68 => rfl
            case hy68 => (intro w hSw; (try dsimp only at hSw); go_simp)
            case hQ68 => exact fun _ _ _ h => h
            simp only [Act.put, List.setIfInBounds_toArray, List.set_cons_zero, List.set_cons_succ]
            refine takeH (oi := ?oi69) 17 51 (.bool false) ?hi69 ?hd69 ?hw69 ?hy69 (by kernel_rfl) (by kernel_rfl) (by kernel_rfl) ?hQ69 (by assumption) ?_
            case hi69 => simp only [List.getElem?_toArray, List.getElem?_cons_zero, List.getElem?_cons_succ]; rfl
            case hd69 => rfl
            case hw69 => rfl
            case hy69 => (intro w hSw; (try dsimp only at hSw); go_simp)
            case hQ69 => exact fun _ _ _ h => h
            simp only [Act.put, List.setIfInBounds_toArray, List.set_cons_zero, List.set_cons_succ]
            refine skipH 18 52 ⟨_, rfl, rfl, by rfl⟩ (by kernel_rfl) (by kernel_rfl) (by kernel_rfl) (fun _ _ _ h => h) (by assumption) ?_
            simp only [Act.put, List.setIfInBounds_toArray, List.set_cons_zero, List.set_cons_succ]
            refine skipH 19 53 ⟨_, rfl, rfl, by rfl⟩ (by kernel_rfl) (by kernel_rfl) (by kernel_rfl) (fun _ _ _ h => h) (by assumption) ?_
            simp only [Act.put, List.setIfInBounds_toArray, List.set_cons_zero, List.set_cons_succ]
            refine skipH 20 54 ⟨_, rfl, rfl, by rfl⟩ (by kernel_rfl) (by kernel_rfl) (by kernel_rfl) (fun _ _ _ h => h) (by assumption) ?_
            simp only [Act.put, List.setIfInBounds_toArray, List.set_cons_zero, List.set_cons_succ]
            refine skipH 21 55 ⟨_, rfl, rfl, by rfl⟩ (by kernel_rfl) (by kernel_rfl) (by kernel_rfl) (fun _ _ _ h => h) (by assumption) ?_
            simp only [Act.put, List.setIfInBounds_toArray, List.set_cons_zero, List.set_cons_succ]
            refine skipH 22 56 ⟨_, rfl, rfl, by rfl⟩ (by kernel_rfl) (by kernel_rfl) (by kernel_rfl) (fun _ _ _ h => h) (by assumption) ?_
            simp only [Act.put, List.setIfInBounds_toArray, List.set_cons_zero, List.set_cons_succ]
            refine skipH 23 57 ⟨_, rfl, rfl, by rfl⟩ (by kernel_rfl) (by kernel_rfl) (by kernel_rfl) (fun _ _ _ h => h) (by assumption) ?_
            simp only [Act.put, List.setIfInBounds_toArray, List.set_cons_zero, List.set_cons_succ]
            refine skipH 24 58 ⟨_, rfl, rfl, by rfl⟩ (by kernel_rfl) (by kernel_rfl) (by kernel_rfl) (fun _ _ _ h => h) (by assumption) ?_
            simp only [Act.put, List.setIfInBounds_toArray, List.set_cons_zero, List.set_cons_succ]
            refine skipH 25 59 ⟨_, rfl, rfl, by rfl⟩ (by kernel_rfl) (by kernel_rfl) (by kernel_rfl) (fun _ _ _ h => h) (by assumption) ?_
            simp only [Act.put, List.setIfInBounds_toArray, List.set_cons_zero, List.set_cons_succ]
            refine takeH (oi := ?oi70) 26 60 (.bool false) ?hi70 ?hd70 ?hw70 ?hy70 (by kernel_rfl) (by kernel_rfl) (by kernel_rfl) ?hQ70 (by assumption) ?_
            case hi70 => simp only [List.getElem?_toArray, List.getElem?_cons_zero, List.getElem?_cons_succ]; rfl
            case hd70 => rfl
            case hw70 => rfl
            case hy70 => (intro w hSw; (try dsimp only at hSw); go_simp)
            case hQ70 => exact fun _ _ _ h => h
            simp only [Act.put, List.setIfInBounds_toArray, List.set_cons_zero, List.set_cons_succ]
            refine wpAnyH_done (by kernel_rfl) ?_ _
            go_wp2_with (fail)
            exact ⟨⟨j + 1, best, by omega, by go_num, rfl, _, l5.out.1, l5.out.2, HB'.out⟩, by simp [intOf]; omega⟩
        · have HB' : Hid (Mm.Best (Mm.addL [] x L) k s best) := Mm.best_not HBE hA
          obtain ⟨g, hg⟩ : ∃ g, g = Mm.addE x L := ⟨_, rfl⟩
          rw [← hg] at AD hA
          have hgb : (g == 0) = false := by simp [hA]
          clear hA hx HBE SH hg
          go_wp2_with (fail)
          refine wp_region_held_drew (S := (fun wx => (wx.cell? ⟨b, off + j * 4, none⟩ = some (str x.key) ∧ wx.cell? ⟨b, off + j * 4 + 1, none⟩ = some (str x.value) ∧ wx.cell? ⟨b, off + j * 4 + 2, none⟩ = some (.int .i64 x.seq) ∧ wx.cell? ⟨b, off + j * 4 + 3, none⟩ = some (.bool x.del)) ∧ (wx.cell? ⟨w.heap.size, 0, none⟩ = some (str k) ∧ wx.cell? ⟨w.heap.size, 1, none⟩ = some (.int .i64 s)))) (by kernel_rfl) P0 (fun hHeld => ?_)
          refine takeH (oi := ?oi71) 0 34 (.pointer (some ⟨t, 0, none⟩)) ?hi71 ?hd71 ?hw71 ?hy71 (by kernel_rfl) (by kernel_rfl) (by kernel_rfl) ?hQ71 (by assumption) ?_
          case hi71 => simp only [List.getElem?_toArray, List.getElem?_cons_zero]; rfl
          case hd71 => rfl
          case hw71 => rfl
          case hy71 => (intro w hSw; (try dsimp only at hSw); go_simp)
          case hQ71 => exact fun _ _ _ h => h
          simp only [Act.put, List.setIfInBounds_toArray, List.set_cons_zero, List.set_cons_succ]
          refine takeH (oi := ?oi72) 1 35 (.slice (some ⟨b, off, none⟩) n c) ?hi72 ?hd72 ?hw72 ?hy72 (by kernel_rfl) (by kernel_rfl) (by kernel_rfl) ?hQ72 (by assumption) ?_
          case hi72 => simp only [List.getElem?_toArray, List.getElem?_cons_zero, List.getElem?_cons_succ]; rfl
          case hd72 => rfl
          case hw72 => rfl
          case hy72 => (intro w hSw; (try dsimp only at hSw); go_simp)
          case hQ72 => exact fun _ _ _ h => h
          simp only [Act.put, List.setIfInBounds_toArray, List.set_cons_zero, List.set_cons_succ]
          refine takeH (oi := ?oi73) 2 36 (.int .i64 (j : Int)) ?hi73 ?hd73 ?hw73 ?hy73 (by kernel_rfl) (by kernel_rfl) (by kernel_rfl) ?hQ73 (by assumption) ?_
          case hi73 => simp only [List.getElem?_toArray, List.getElem?_cons_zero, List.getElem?_cons_succ]; rfl
          case hd73 => rfl
          case hw73 => rfl
          case hy73 => (intro w hSw; (try dsimp only at hSw); go_simp)
          case hQ73 => exact fun _ _ _ h => h
          simp only [Act.put, List.setIfInBounds_toArray, List.set_cons_zero, List.set_cons_succ]
          refine takeH (oi := ?oi74) 3 37 (.pointer (some ⟨b, off + j * 4, none⟩)) ?hi74 ?hd74 ?hw74 ?hy74 (by kernel_rfl) (by kernel_rfl) (by kernel_rfl) ?hQ74 (by assumption) ?_
          case hi74 => simp only [List.getElem?_toArray, List.getElem?_cons_zero, List.getElem?_cons_succ]; rfl
          case hd74 => rfl
          case hw74 => rfl
          case hy74 => (intro w hSw; (try dsimp only at hSw); go_simp)
          case hQ74 => exact fun _ _ _ h => h
          simp only [Act.put, List.setIfInBounds_toArray, List.set_cons_zero, List.set_cons_succ]
          refine takeH (oi := ?oi75) 4 38 (.agg #[str x.key, str x.value, .int .i64 x.seq, .bool x.del]) ?hi75 ?hd75 ?hw75 ?hy75 (by kernel_rfl) (by kernel_rfl) (by kernel_rfl) ?hQ75 (by assumption) ?_
          case hi75 => simp only [List.getElem?_toArray, List.getElem?_cons_zero, List.getElem?_cons_succ]; rfl
          case hd75 => rfl
          case hw75 => rfl
          case hy75 => (intro w hSw; (try dsimp only at hSw); go_simp)
          case hQ75 => exact fun _ _ _ h => h
          simp only [Act.put, List.setIfInBounds_toArray, List.set_cons_zero, List.set_cons_succ]
          refine wpAnyH_ready (rs := [5]) (by kernel_rfl) (by simp) ?_
          refine AllReadyH.cons rfl (fun KK hK => ?_) AllReadyH.nil
          go_simp
          refine AD.out.mono ?_
          rintro r w5 ⟨rfl, l5, p5⟩
          go_wp2_with (fail)
          refine hK.out _ _ p5 (fun hHeld2 => ?_)
          clear hK KK hHeld P0 AD
          refine takeH (oi := ?oi76) 6 40 (.bool false) ?hi76 ?hd76 ?hw76 ?hy76 (by kernel_rfl) (by kernel_rfl) (by kernel_rfl) ?hQ76 (by assumption) ?_
          case hi76 => simp only [List.getElem?_toArray, List.getElem?_cons_zero, List.getElem?_cons_succ]; rfl
          case hd76 => rfl
          case hw76 => rfl
          case hy76 => (intro w hSw; (try dsimp only at hSw); go_simp)
          case hQ76 => exact fun _ _ _ h => h
          simp only [Act.put, List.setIfInBounds_toArray, List.set_cons_zero, List.set_cons_succ]
          refine takeH (oi := ?oi77) 7 41 (.bool false) ?hi77 ?hd77 ?hw77 ?hy77 (by kernel_rfl) (by kernel_rfl) (by kernel_rfl) ?hQ77 (by assumption) ?_
          case hi77 => simp only [List.getElem?_toArray, List.getElem?_cons_zero, List.getElem?_cons_succ]; rfl
          case hd77 => rfl
          case hw77 => rfl
          case hy77 => (intro w hSw; (try dsimp only at hSw); go_simp)
          case hQ77 => exact fun _ _ _ h => h
          simp only [Act.put, List.setIfInBounds_toArray, List.set_cons_zero, List.set_cons_succ]
          refine skipH 8 42 ⟨_, rfl, rfl, by rfl⟩ (by kernel_rfl) (by kernel_rfl) (by kernel_rfl) (fun _ _ _ h => h) (by assumption) ?_
          simp only [Act.put, List.setIfInBounds_toArray, List.set_cons_zero, List.set_cons_succ]
          refine skipH 9 43 ⟨_, rfl, rfl, by rfl⟩ (by kernel_rfl) (by kernel_rfl) (by kernel_rfl) (fun _ _ _ h => h) (by assumption) ?_
          simp only [Act.put, List.setIfInBounds_toArray, List.set_cons_zero, List.set_cons_succ]
          refine skipH 10 44 ⟨_, rfl, rfl, by rfl⟩ (by kernel_rfl) (by kernel_rfl) (by kernel_rfl) (fun _ _ _ h => h) (by assumption) ?_
          simp only [Act.put, List.setIfInBounds_toArray, List.set_cons_zero, List.set_cons_succ]
          refine skipH 11 45 ⟨_, rfl, rfl, by rfl⟩ (by kernel_rfl) (by kernel_rfl) (by kernel_rfl) (fun _ _ _ h => h) (by assumption) ?_
          simp only [Act.put, List.setIfInBounds_toArray, List.set_cons_zero, List.set_cons_succ]
          refine skipH 12 46 ⟨_, rfl, rfl, by rfl⟩ (by kernel_rfl) (by kernel_rfl) (by kernel_rfl) (fun _ _ _ h => h) (by assumption) ?_
          simp only [Act.put, List.setIfInBounds_toArray, List.set_cons_zero, List.set_cons_succ]
          refine skipH 13 47 ⟨_, rfl, rfl, by rfl⟩ (by kernel_rfl) (by kernel_rfl) (by kernel_rfl) (fun _ _ _ h => h) (by assumption) ?_
          simp only [Act.put, List.setIfInBounds_toArray, List.set_cons_zero, List.set_cons_succ]
          refine skipH 14 48 ⟨_, rfl, rfl, by rfl⟩ (by kernel_rfl) (by kernel_rfl) (by kernel_rfl) (fun _ _ _ h => h) (by assumption) ?_
          simp only [Act.put, List.setIfInBounds_toArray, List.set_cons_zero, List.set_cons_succ]
          refine skipH 15 49 ⟨_, rfl, rfl, by rfl⟩ (by kernel_rfl) (by kernel_rfl) (by kernel_rfl) (fun _ _ _ h => h) (by assumption) ?_
          simp only [Act.put, List.setIfInBounds_toArray, List.set_cons_zero, List.set_cons_succ]
          refine takeH (oi := ?oi78) 16 50 (.bool false) ?hi78 ?hd78 ?hw78 ?hy78 (by kernel_rfl) (by kernel_rfl) (by kernel_rfl) ?hQ78 (by assumption) ?_
          case hi78 => simp only [List.getElem?_toArray, List.getElem?_cons_zero, List.getElem?_cons_succ]; rfl
          case hd78 => rfl
          case hw78 => rfl
          case hy78 => (intro w hSw; (try dsimp only at hSw); go_simp)
          case hQ78 => exact fun _ _ _ h => h
          simp only [Act.put, List.setIfInBounds_toArray, List.set_cons_zero, List.set_cons_succ]
          refine takeH (oi := ?oi79) 17 51 (.bool false) ?hi79 ?hd79 ?hw79 ?hy79 (by kernel_rfl) (by kernel_rfl) (by kernel_rfl) ?hQ79 (by assumption) ?_
          case hi79 => simp only [List.getElem?_toArray, List.getElem?_cons_zero, List.getElem?_cons_succ]; rfl
          case hd79 => rfl
          case hw79 => rfl
          case hy79 => (intro w hSw; (try dsimp only at hSw); go_simp)
          case hQ79 => exact fun _ _ _ h => h
          simp only [Act.put, List.setIfInBounds_toArray, List.set_cons_zero, List.set_cons_succ]
          refine skipH 18 52 ⟨_, rfl, rfl, by rfl⟩ (by kernel_rfl) (by kernel_rfl) (by kernel_rfl) (fun _ _ _ h => h) (by assumption) ?_
          simp only [Act.put, List.setIfInBounds_toArray, List.set_cons_zero, List.set_cons_succ]
          refine skipH 19 53 ⟨_, rfl, rfl, by rfl⟩ (by kernel_rfl) (by kernel_rfl) (by kernel_rfl) (fun _ _ _ h => h) (by assumption) ?_
          simp only [Act.put, List.setIfInBounds_toArray, List.set_cons_zero, List.set_cons_succ]
          refine skipH 20 54 ⟨_, rfl, rfl, by rfl⟩ (by kernel_rfl) (by kernel_rfl) (by kernel_rfl) (fun _ _ _ h => h) (by assumption) ?_
          simp only [Act.put, List.setIfInBounds_toArray, List.set_cons_zero, List.set_cons_succ]
          refine skipH 21 55 ⟨_, rfl, rfl, by rfl⟩ (by kernel_rfl) (by kernel_rfl) (by kernel_rfl) (fun _ _ _ h => h) (by assumption) ?_
          simp only [Act.put, List.setIfInBounds_toArray, List.set_cons_zero, List.set_cons_succ]
          refine skipH 22 56 ⟨_, rfl, rfl, by rfl⟩ (by kernel_rfl) (by kernel_rfl) (by kernel_rfl) (fun _ _ _ h => h) (by assumption) ?_
          simp only [Act.put, List.setIfInBounds_toArray, List.set_cons_zero, List.set_cons_succ]
          refine skipH 23 57 ⟨_, rfl, rfl, by rfl⟩ (by kernel_rfl) (by kernel_rfl) (by kernel_rfl) (fun _ _ _ h => h) (by assumption) ?_
          simp only [Act.put, List.setIfInBounds_toArray, List.set_cons_zero, List.set_cons_succ]
          refine skipH 24 58 ⟨_, rfl, rfl, by rfl⟩ (by kernel_rfl) (by kernel_rfl) (by kernel_rfl) (fun _ _ _ h => h) (by assumption) ?_
          simp only [Act.put, List.setIfInBounds_toArray, List.set_cons_zero, List.set_cons_succ]
          refine skipH 25 59 ⟨_, rfl, rfl, by rfl⟩ (by kernel_rfl) (by kernel_rfl) (by kernel_rfl) (fun _ _ _ h => h) (by assumption) ?_
          simp only [Act.put, List.setIfInBounds_toArray, List.set_cons_zero, List.set_cons_succ]
          refine takeH (oi := ?oi80) 26 60 (.bool false) ?hi80 ?hd80 ?hw80 ?hy80 (by kernel_rfl) (by kernel_rfl) (by kernel_rfl) ?hQ80 (by assumption) ?_
          case hi80 => simp only [List.getElem?_toArray, List.getElem?_cons_zero, List.getElem?_cons_succ]; rfl
          case hd80 => rfl
          case hw80 => rfl
          case hy80 => (intro w hSw; (try dsimp only at hSw); go_simp)
          case hQ80 => exact fun _ _ _ h => h
          simp only [Act.put, List.setIfInBounds_toArray, List.set_cons_zero, List.set_cons_succ]
          refine wpAnyH_done (by kernel_rfl) ?_ _
          go_wp2_with (fail)
          exact ⟨⟨j + 1, best, by omega, by go_num, rfl, _, l5.out.1, l5.out.2, HB'.out⟩, by simp [intOf]; omega⟩
      · obtain rfl : j = n := by omega
        have i3 : ¬ (j : Int) < (j : Int) := by omega
        have hLl : L.length ≤ 100000 := by omega
        have HSO := hide LL.tab.sorted
        have LT := hide LL
        have HGB := hide (Mm.got_best LL.tab.sorted HBE)
        obtain ⟨s2, hs2⟩ : ∃ s2, s2 = max s more := ⟨_, rfl⟩
        obtain ⟨LO, hLO⟩ : ∃ LO, LO = Mm.told s (Mm.spanE lo hi L) := ⟨_, rfl⟩
        obtain ⟨HI, hHI⟩ : ∃ HI, HI = Mm.told s2 (Mm.spanE lo hi L) := ⟨_, rfl⟩
        have HLOs : Hid (∀ y ∈ LO, y.seq ≤ s) := fun y hy => by rw [hLO] at hy; exact ((Mm.told_ok s _ (Mm.span_up HSO.out)).mem y hy).2
        have HLOu : Hid (LO.Pairwise fun a b => Op.bytesLess a.key b.key = true) := by show List.Pairwise _ _; rw [hLO]; exact (Mm.told_ok s _ (Mm.span_up HSO.out)).up
        have HHIu : Hid (HI.Pairwise fun a b => Op.bytesLess a.key b.key = true) := by show List.Pairwise _ _; rw [hHI]; exact (Mm.told_ok s2 _ (Mm.span_up HSO.out)).up
        have HMO : Hid (∀ x ∈ LO, ∃ y ∈ HI, y.key = x.key ∧ x.seq ≤ y.seq) := by
          show ∀ x ∈ LO, ∃ y ∈ HI, y.key = x.key ∧ x.seq ≤ y.seq
          rw [hLO, hHI]
          exact Mm.told_more (by rw [hs2]; omega) (Mm.span_up HSO.out)
        have zLO : LO.length ≤ 100000 := by
          have h1 := Mm.told_len s (Mm.spanE lo hi L)
          have h2 := Mm.span_len lo hi L
          rw [hLO]; omega
        have zHI : HI.length ≤ 100000 := by
          have h1 := Mm.told_len s2 (Mm.spanE lo hi L)
          have h2 := Mm.span_len lo hi L
          rw [hHI]; omega
        have GT : Hid (Calls Try.prog 27 #[.pointer (some ⟨t, 0, none⟩), str k, .int .i64 s] wr fun r w' => r = .returned (gotV (Mm.gotL L k s)) ∧ Below wr.heap.size wr w') := get_s LL.tab hLl k s
        have SC1 : Hid (∀ wx, Below wr.heap.size wr wx → Calls Try.prog 22 #[.pointer (some ⟨t, 0, none⟩), .agg #[str lo, str hi], .int .i64 s] wx fun r w' => ∃ v, r = .returned v ∧ w'.ownsRow wx.heap.size 38 4 v LO.length (ecs LO) ∧ Below wx.heap.size wx w') := fun wx hw => by rw [hLO]; exact scan_s (LT.out.tab.later hw) hLl lo hi s
        have SC2 : Hid (∀ wx, Below wr.heap.size wr wx → Calls Try.prog 22 #[.pointer (some ⟨t, 0, none⟩), .agg #[str lo, str hi], .int .i64 s2] wx fun r w' => ∃ v, r = .returned v ∧ w'.ownsRow wx.heap.size 38 4 v HI.length (ecs HI) ∧ Below wx.heap.size wx w') := fun wx hw => by rw [hHI]; exact scan_s (LT.out.tab.later hw) hLl lo hi s2
        have aw := LL.ask
        have AW := hide aw
        have BW := hide LL.bel
        have aq0 := Joins.cell_of_block aw 0
        have aq1 := Joins.cell_of_block aw 1
        have HS2 : max s more = s2 := hs2.symm
        have zw : w.heap.size < wr.heap.size := (Array.getElem?_eq_some_iff.1 aw).1
        clear hLO hHI hs2 LL HBE HSO LT aw
        clear HE LJ HS hlt hj HN
        rcases HGB.out with ⟨hb0, hg0⟩ | ⟨hb0, y, hg0, hyk, hys⟩
        · have GT0 : Hid (Calls Try.prog 27 #[.pointer (some ⟨t, 0, none⟩), str k, .int .i64 s] wr fun r w' => r = .returned (.tuple #[.agg #[.string ⟨#[]⟩, .string ⟨#[]⟩, .int .i64 0, .bool false], .bool false]) ∧ Below wr.heap.size wr w') := by
            have := GT.out
            rw [hg0] at this
            exact this
          subst hb0
          clear HGB hg0 GT
          go_wp2_with (first
            | (go_at_call 27; refine GT0.out.mono ?_; rintro e w6 ⟨rfl, b6⟩; clear GT0 aq0 aq1; have a6 := keepB b6 AW.out; have z6 := b6.size; obtain ⟨q60, q61, q62, q63⟩ := ask_alloc a6)
            | (have gate := SC1; go_at_call 22; refine (gate.out _ (b6.alloc z6 _)).mono ?_; rintro e w7 ⟨v7, rfl, o7, b7⟩; obtain ⟨va7, vc7, rfl⟩ := row_shape o7; have B7 := (b6.alloc z6 _).trans (b7.mono (by simp; omega)); have a7 := keepB B7 AW.out; clear a6 q60 q61 q62 q63; obtain ⟨q70, q71, q72, q73⟩ := ask_cells a7; clear SC1 gate)
            | (have gate := SC2; go_at_call 22; refine (gate.out _ B7).mono ?_; rintro e w8 ⟨v8, rfl, o8, b8⟩; obtain ⟨va8, vc8, rfl⟩ := row_shape o8; have B8 := B7.trans (b8.mono B7.size); have a8 := keepB B8 AW.out; clear a7 q70 q71 q72 q73; clear SC2 gate))
          have EL := hide ((EntsAt.own o7).later b8)
          have EH := hide (EntsAt.own o8)
          have BT : Hid (Below w.heap.size w w8) := BW.out.trans (B8.mono BW.out.size)
          have A8 := hide a8
          obtain ⟨NL, hNL⟩ : ∃ NL, NL = LO.length := ⟨_, rfl⟩
          obtain ⟨NH, hNH⟩ : ∃ NH, NH = HI.length := ⟨_, rfl⟩
          rw [← hNL] at EL ⊢
          rw [← hNH] at EH ⊢
          have HNL : Hid (NL = LO.length) := hNL
          have HNH : Hid (NH = HI.length) := hNH
          rw [← hNL] at zLO
          rw [← hNH] at zHI
          clear o7 o8 b6 b7 b8 B7 B8 a8 z6 zw hNL hNH AW BW HS2 hLl
          go_loopw [15, 16] (fun x i wr => ∃ (q p : Nat), p ≤ NL ∧ q ≤ NH ∧ i = .int .i64 p ∧ x = .int .i64 q ∧ Below w8.heap.size w8 wr ∧ Hid (∀ (hp : p < LO.length) (jj : Nat) (hj : jj < HI.length), jj < q → Op.bytesLess HI[jj].key LO[p].key = true)) (fun _ i _ => NL - (intOf i).toNat)
          case atStart => exact ⟨0, 0, Nat.zero_le _, Nat.zero_le _, rfl, rfl, Below.refl _ _, fun _ jj _ h => absurd h (by omega)⟩
          case round =>
            obtain ⟨q, p, hp, hq, rfl, rfl, bx, HV⟩ := hrel
            by_cases hpl : p < NL
            · have pl : p < LO.length := by have := HNL.out; omega
              have HQ0 : Hid (∀ (jj : Nat) (hj : jj < HI.length), jj < q → Op.bytesLess HI[jj].key LO[p].key = true) := HV.out pl
              have HX2 : Hid (LO[p].seq ≤ s) := HLOs.out _ (List.getElem_mem pl)
              have HX3 : Hid (∃ y ∈ HI, y.key = LO[p].key ∧ LO[p].seq ≤ y.seq) := HMO.out _ (List.getElem_mem pl)
              have HX4 : Hid (∀ (hp : p + 1 < LO.length), Op.bytesLess LO[p].key LO[p + 1].key = true) := fun hp1 => List.pairwise_iff_getElem.1 HLOu.out p (p + 1) pl hp1 (by omega)
              have HXE : Hid (∀ wx, Below w8.heap.size w8 wx → ∃ b off, va7 = some ⟨b, off, none⟩ ∧ wx.cell? ⟨b, off + p * 4, none⟩ = some (str LO[p].key) ∧ wx.cell? ⟨b, off + p * 4 + 2, none⟩ = some (.int .i64 LO[p].seq)) := fun wx hw => by
                obtain ⟨b, off, e, c0, c1, c2, c3⟩ := ents_entry (EL.out.later hw) p pl
                exact ⟨b, off, e, c0, c2⟩
              generalize LO[p] = x at *
              obtain ⟨b7, off7, rfl, _, _⟩ := HXE.out _ bx
              have XE : Hid (∀ wx, Below w8.heap.size w8 wx → wx.cell? ⟨b7, off7 + p * 4, none⟩ = some (str x.key) ∧ wx.cell? ⟨b7, off7 + p * 4 + 2, none⟩ = some (.int .i64 x.seq)) := fun wx hw => by
                obtain ⟨b', off', e', c0, c2⟩ := HXE.out wx hw
                obtain ⟨rfl, rfl⟩ : b7 = b' ∧ off7 = off' := by simpa using e'
                exact ⟨c0, c2⟩
              have pn : (p : Int) < (NL : Int) := by omega
              clear HXE HV pl
              go_wp2_with (fail)
              go_loopw [15] (fun y wr => ∃ (q : Nat), q ≤ NH ∧ y = .int .i64 q ∧ Below w8.heap.size w8 wr ∧ Hid (∀ (jj : Nat) (hj : jj < HI.length), jj < q → Op.bytesLess HI[jj].key x.key = true)) (fun y _ => NH - (intOf y).toNat)
              case atStart => exact ⟨q, hq, rfl, bx, HQ0⟩
              case round =>
                clear HQ0 bx hq
                obtain ⟨q, hq, rfl, bx, HQ0⟩ := hrel
                obtain ⟨ql, hcase⟩ := Mm.lookK HI x q HHIu.out HX3.out HQ0.out
                obtain ⟨b8, off8, e8, d0, d1, d2, d3⟩ := ents_entry (EH.out.later bx) q ql
                subst e8
                obtain ⟨c0, c2⟩ := XE.out _ bx
                have HNX : Hid (Op.bytesLess HI[q].key x.key = true → ∀ (jj : Nat) (hj : jj < HI.length), jj < q + 1 → Op.bytesLess HI[jj].key x.key = true) := fun hh jj hj hlt => by
                  rcases Nat.lt_succ_iff_lt_or_eq.mp hlt with h | h
                  · exact HQ0.out jj hj h
                  · subst h; exact hh
                have qn : (q : Int) < (NH : Int) := by have := HNH.out; omega
                have qn2 : q < NH := by have := HNH.out; omega
                obtain ⟨q1, q2, q3, q4⟩ := ask_cells (keepB bx A8.out)
                generalize HI[q] = y at *
                rcases hcase with hless | ⟨hk1, hs1⟩
                · have HN2 := hide (HNX.out hless)
                  clear HNX HX2 HX3 HX4 d1 d2 d3 c2 q2 q3 q4 q1
                  go_wp2_with (fail)
                  go_quiet (fail)
                  go_wp2_with (fail)
                  exact ⟨⟨q + 1, by omega, by go_num, below_drewN bx _, HN2.out⟩, by simp [intOf]; omega⟩
                · have hless : Op.bytesLess y.key x.key = false := by rw [hk1]; exact Mm.bl_irrefl _
                  have HG : Hid (∀ (hp : p + 1 < LO.length) (jj : Nat) (hj : jj < HI.length), jj < q → Op.bytesLess HI[jj].key LO[p + 1].key = true) := fun hp1 jj hj hlt => Mm.bl_trans (HQ0.out jj hj hlt) (HX4.out hp1)
                  rw [hk1] at hless d0
                  have t1 : ¬ x.seq > s := by have := HX2.out; omega
                  have t2 : ((q : Int) == (NH : Int)) = false := by simp; omega
                  have t3 : ¬ y.seq < x.seq := by omega
                  clear HNX HX2 HX3 HX4 HQ0 d1 d3 q1 q3 q4 hk1 hs1
                  go_wp2_with (fail)
                  go_quiet (fail)
                  go_wp2_with (fail)
                  go_quiet (fail)
                  go_wp2_with (fail)
                  exact ⟨⟨q, p + 1, by omega, by omega, by go_num, rfl, below_drewN bx _, HG⟩, by simp [intOf]; omega⟩
            · have pn : ¬ (p : Int) < (NL : Int) := by omega
              go_wp2_with (fail)
              go_ret
              exact ⟨rfl, BT.out.trans (bx.mono BT.out.size)⟩
        · have GT0 : Hid (Calls Try.prog 27 #[.pointer (some ⟨t, 0, none⟩), str k, .int .i64 s] wr fun r w' => r = .returned (.tuple #[.agg #[str k, str y.value, .int .i64 best, .bool y.del], .bool true]) ∧ Below wr.heap.size wr w') := by
            have := GT.out
            rw [hg0] at this
            rw [← hyk, ← hys]
            rw [← hyk] at this
            exact this
          have hbg : best > 0 := hb0
          generalize y.value = yv at GT0
          generalize y.del = yd at GT0
          clear HGB hg0 GT hyk hys hb0
          go_wp2_with (first
            | (go_at_call 27; refine GT0.out.mono ?_; rintro e w6 ⟨rfl, b6⟩; clear GT0 aq0 aq1; have a6 := keepB b6 AW.out; have z6 := b6.size; obtain ⟨q60, q61, q62, q63⟩ := ask_alloc a6)
            | (have gate := SC1; go_at_call 22; refine (gate.out _ (b6.alloc z6 _)).mono ?_; rintro e w7 ⟨v7, rfl, o7, b7⟩; obtain ⟨va7, vc7, rfl⟩ := row_shape o7; have B7 := (b6.alloc z6 _).trans (b7.mono (by simp; omega)); have a7 := keepB B7 AW.out; clear a6 q60 q61 q62 q63; obtain ⟨q70, q71, q72, q73⟩ := ask_cells a7; clear SC1 gate)
            | (have gate := SC2; go_at_call 22; refine (gate.out _ B7).mono ?_; rintro e w8 ⟨v8, rfl, o8, b8⟩; obtain ⟨va8, vc8, rfl⟩ := row_shape o8; have B8 := B7.trans (b8.mono B7.size); have a8 := keepB B8 AW.out; clear a7 q70 q71 q72 q73; clear SC2 gate))
          have EL := hide ((EntsAt.own o7).later b8)
          have EH := hide (EntsAt.own o8)
          have BT : Hid (Below w.heap.size w w8) := BW.out.trans (B8.mono BW.out.size)
          have A8 := hide a8
          obtain ⟨NL, hNL⟩ : ∃ NL, NL = LO.length := ⟨_, rfl⟩
          obtain ⟨NH, hNH⟩ : ∃ NH, NH = HI.length := ⟨_, rfl⟩
          rw [← hNL] at EL ⊢
          rw [← hNH] at EH ⊢
          have HNL : Hid (NL = LO.length) := hNL
          have HNH : Hid (NH = HI.length) := hNH
          rw [← hNL] at zLO
          rw [← hNH] at zHI
          clear o7 o8 b6 b7 b8 B7 B8 a8 z6 zw hNL hNH AW BW HS2 hLl
          go_loopw [15, 16] (fun x i wr => ∃ (q p : Nat), p ≤ NL ∧ q ≤ NH ∧ i = .int .i64 p ∧ x = .int .i64 q ∧ Below w8.heap.size w8 wr ∧ Hid (∀ (hp : p < LO.length) (jj : Nat) (hj : jj < HI.length), jj < q → Op.bytesLess HI[jj].key LO[p].key = true)) (fun _ i _ => NL - (intOf i).toNat)
          case atStart => exact ⟨0, 0, Nat.zero_le _, Nat.zero_le _, rfl, rfl, Below.refl _ _, fun _ jj _ h => absurd h (by omega)⟩
          case round =>
            obtain ⟨q, p, hp, hq, rfl, rfl, bx, HV⟩ := hrel
            by_cases hpl : p < NL
            · have pl : p < LO.length := by have := HNL.out; omega
              have HQ0 : Hid (∀ (jj : Nat) (hj : jj < HI.length), jj < q → Op.bytesLess HI[jj].key LO[p].key = true) := HV.out pl
              have HX2 : Hid (LO[p].seq ≤ s) := HLOs.out _ (List.getElem_mem pl)
              have HX3 : Hid (∃ y ∈ HI, y.key = LO[p].key ∧ LO[p].seq ≤ y.seq) := HMO.out _ (List.getElem_mem pl)
              have HX4 : Hid (∀ (hp : p + 1 < LO.length), Op.bytesLess LO[p].key LO[p + 1].key = true) := fun hp1 => List.pairwise_iff_getElem.1 HLOu.out p (p + 1) pl hp1 (by omega)
              have HXE : Hid (∀ wx, Below w8.heap.size w8 wx → ∃ b off, va7 = some ⟨b, off, none⟩ ∧ wx.cell? ⟨b, off + p * 4, none⟩ = some (str LO[p].key) ∧ wx.cell? ⟨b, off + p * 4 + 2, none⟩ = some (.int .i64 LO[p].seq)) := fun wx hw => by
                obtain ⟨b, off, e, c0, c1, c2, c3⟩ := ents_entry (EL.out.later hw) p pl
                exact ⟨b, off, e, c0, c2⟩
              generalize LO[p] = x at *
              obtain ⟨b7, off7, rfl, _, _⟩ := HXE.out _ bx
              have XE : Hid (∀ wx, Below w8.heap.size w8 wx → wx.cell? ⟨b7, off7 + p * 4, none⟩ = some (str x.key) ∧ wx.cell? ⟨b7, off7 + p * 4 + 2, none⟩ = some (.int .i64 x.seq)) := fun wx hw => by
                obtain ⟨b', off', e', c0, c2⟩ := HXE.out wx hw
                obtain ⟨rfl, rfl⟩ : b7 = b' ∧ off7 = off' := by simpa using e'
                exact ⟨c0, c2⟩
              have pn : (p : Int) < (NL : Int) := by omega
              clear HXE HV pl
              go_wp2_with (fail)
              go_loopw [15] (fun y wr => ∃ (q : Nat), q ≤ NH ∧ y = .int .i64 q ∧ Below w8.heap.size w8 wr ∧ Hid (∀ (jj : Nat) (hj : jj < HI.length), jj < q → Op.bytesLess HI[jj].key x.key = true)) (fun y _ => NH - (intOf y).toNat)
              case atStart => exact ⟨q, hq, rfl, bx, HQ0⟩
              case round =>
                clear HQ0 bx hq
                obtain ⟨q, hq, rfl, bx, HQ0⟩ := hrel
                obtain ⟨ql, hcase⟩ := Mm.lookK HI x q HHIu.out HX3.out HQ0.out
                obtain ⟨b8, off8, e8, d0, d1, d2, d3⟩ := ents_entry (EH.out.later bx) q ql
                subst e8
                obtain ⟨c0, c2⟩ := XE.out _ bx
                have HNX : Hid (Op.bytesLess HI[q].key x.key = true → ∀ (jj : Nat) (hj : jj < HI.length), jj < q + 1 → Op.bytesLess HI[jj].key x.key = true) := fun hh jj hj hlt => by
                  rcases Nat.lt_succ_iff_lt_or_eq.mp hlt with h | h
                  · exact HQ0.out jj hj h
                  · subst h; exact hh
                have qn : (q : Int) < (NH : Int) := by have := HNH.out; omega
                have qn2 : q < NH := by have := HNH.out; omega
                obtain ⟨q1, q2, q3, q4⟩ := ask_cells (keepB bx A8.out)
                generalize HI[q] = y at *
                rcases hcase with hless | ⟨hk1, hs1⟩
                · have HN2 := hide (HNX.out hless)
                  clear HNX HX2 HX3 HX4 d1 d2 d3 c2 q2 q3 q4 q1
                  go_wp2_with (fail)
                  go_quiet (fail)
                  go_wp2_with (fail)
                  exact ⟨⟨q + 1, by omega, by go_num, below_drewN bx _, HN2.out⟩, by simp [intOf]; omega⟩
                · have hless : Op.bytesLess y.key x.key = false := by rw [hk1]; exact Mm.bl_irrefl _
                  have HG : Hid (∀ (hp : p + 1 < LO.length) (jj : Nat) (hj : jj < HI.length), jj < q → Op.bytesLess HI[jj].key LO[p + 1].key = true) := fun hp1 jj hj hlt => Mm.bl_trans (HQ0.out jj hj hlt) (HX4.out hp1)
                  rw [hk1] at hless d0
                  have t1 : ¬ x.seq > s := by have := HX2.out; omega
                  have t2 : ((q : Int) == (NH : Int)) = false := by simp; omega
                  have t3 : ¬ y.seq < x.seq := by omega
                  clear HNX HX2 HX3 HX4 HQ0 d1 d3 q1 q3 q4 hk1 hs1
                  go_wp2_with (fail)
                  go_quiet (fail)
                  go_wp2_with (fail)
                  go_quiet (fail)
                  go_wp2_with (fail)
                  exact ⟨⟨q, p + 1, by omega, by omega, by go_num, rfl, below_drewN bx _, HG⟩, by simp [intOf]; omega⟩
            · have pn : ¬ (p : Int) < (NL : Int) := by omega
              go_wp2_with (fail)
              go_ret
              exact ⟨rfl, BT.out.trans (bx.mono BT.out.size)⟩
end memVersions
end Go.Proofs.Ytaadcpmapdbodaa
