/-
  Decode: what the bytes of a record tell.
-/
import Derived.Test.YtppfkhpofbbnbaaGreatDoorWDec
import Derived.Test.YtppfkhpofbbnbaaGreatDoorWCheck2
import Derived.Test.YtppfkhpofbbnbaaGreatDoorWNum
namespace Go.Proofs.YtppfkhpofbbnbaaGreatDoor
open Go.RowKit

theorem infoW : (Tryz.prog.info? 34).map (fun i => (i.zero, i.size, i.bytes)) = some (some (.agg #[.string ⟨#[]⟩, .string ⟨#[]⟩, .bool false]), 3, 40) := by kernel_rfl

theorem wc_new (W : World) (x : Wl.Wr) (B : Nat) (hB : B = W.heap.size) : ∀ j u, (wcs [x])[j]? = some u → (W.alloc (.cells #[str x.key, str x.value, .bool x.del] 34)).cell? ((⟨B, 0, none⟩ : Addr).add j) = some u := by
  subst hB
  intro j u hu
  have hadd : (⟨W.heap.size, 0, none⟩ : Addr).add j = ⟨W.heap.size, j, none⟩ := by unfold Addr.add; split <;> simp_all
  rw [hadd]
  refine (Joins.cell_of_block (World.alloc_heap_new W _) j).trans ?_
  have : (wcs [x]) = [str x.key, str x.value, .bool x.del] := rfl
  rw [this] at hu
  rw [← hu]
  rcases j with _ | _ | _ | j <;> rfl

theorem rtextX_le (s : Wl.Rd) (most : Nat) : (Wl.rtextX s most).length ≤ most := by
  unfold Wl.rtextX
  have := Wl.rnumX_le s most
  show List.length (if _ then _ else _) ≤ _
  split
  · simp
  · rw [List.length_take]; omega
theorem rwriteX_small (s : Wl.Rd) : (Wl.rwriteX s).key.length ≤ 1000000 ∧ (Wl.rwriteX s).value.length ≤ 1000000 := by
  have a := rtextX_le (Wl.rnum s 1) 512
  have b := rtextX_le (Wl.rtext (Wl.rnum s 1) 512) 4096
  unfold Wl.rwriteX
  generalize Wl.rtextX (Wl.rtext (Wl.rnum s 1) 512) 4096 = V at b
  generalize Wl.rtextX (Wl.rnum s 1) 512 = K at a
  split
  · simp only [List.length_nil]; omega
  · simp only; omega
theorem rwritesX_small (k : Nat) : ∀ s : Wl.Rd, ∀ x ∈ Wl.rwritesX s k, x.key.length ≤ 1000000 ∧ x.value.length ≤ 1000000 := by
  induction k with
  | zero => intro s x hx; cases hx
  | succ k ih =>
    intro s x hx
    rcases List.mem_cons.1 hx with rfl | hx
    · exact rwriteX_small s
    · exact ih _ x hx

theorem row_shape5 {w : World} {base e size : Nat} {v : Value} {n : Nat} {xs : List Value} (h : w.ownsRow base e size v n xs) : ∃ a c, v = .slice a n c := by
  rcases h.2 with ⟨rfl, h0⟩ | ⟨g, cap, cur, rfl, _⟩
  · exact ⟨_, _, by rw [h0]⟩
  · exact ⟨_, _, rfl⟩
/-- The parts of a record, one by one: what the loop of Decode has behind j of them. -/
structure DecIn (w wr : World) (b : List UInt8) (rb j : Nat) (v : Value) : Prop where
  rd : RdAt wr rb w.heap.size (Wl.rwrites (Wl.dFrom b) j)
  own : wr.ownsRow (w.heap.size + 2) 34 3 v j (wcs (Wl.rwritesX (Wl.dFrom b) j))
  res : wr.heap[w.heap.size]? = some (.cells #[.int .i64 0, .slice none 0 0] 29 (0, 0))
  bel : Below w.heap.size w wr
  size : w.heap.size + 2 ≤ wr.heap.size

theorem grown_below {B : Nat} {w w' : World} {r : Option Nat} (hg : w.grownBy w' r) (hB : B ≤ w.heap.size) (hr : ∀ k, r = some k → B ≤ k) : Below B w w' := (Below.refl _ _).grown hg hB hr

theorem RdAt.keptO {w w' : World} {rb top : Nat} {row : Option Nat} {s : Wl.Rd} (h : RdAt w rb top s) (hg : w.grownBy w' row) (h1 : ∀ r, row = some r → rb < r) : RdAt w' rb top s := by
  cases row with
  | none => exact h.later (below_of hg)
  | some r => exact h.kept hg (by have := h1 r rfl; omega) (by have := h1 r rfl; have := h.le; omega)
theorem own_off {w : World} {base e s n r : Nat} {v : Value} {xs : List Value} (h : w.ownsRow base e s v n xs) (hr : r < base) : v.ownBlock = none ∨ v.ownBlock ≠ some r := by
  rcases h.2 with ⟨rfl, _⟩ | ⟨g, cap, cur, rfl, hge, _⟩
  · exact .inl rfl
  · exact .inr (by simp [Value.ownBlock]; omega)

set_option maxRecDepth 100000 in
set_option maxHeartbeats 4000000 in
theorem decode_any (w : World) (a : Option Addr) (c : Nat) (b : List UInt8) (h : BytesIn w (.slice a b.length c) b) (hc : b.length ≤ c) (hl : b.length ≤ 1000000000) (hno : (a = none ∧ c = 0) ∨ ∃ B off, a = some ⟨B, off, none⟩) :
    Calls Tryz.prog 24 #[.slice a b.length c] w fun e w' => ∃ v q E, e = .returned (.tuple #[.agg #[.int .i64 q, v], .int .i64 E]) ∧ Hid ((Wl.dGood b = true ∧ q = (Wl.dSeq b : Int) ∧ E = 0 ∧ w'.ownsRow (w.heap.size + 2) 34 3 v (Wl.dWrites b).length (wcs (Wl.dWrites b))) ∨ (Wl.dGood b = false ∧ q = 0 ∧ E = 5 ∧ v = .slice none 0 0)) ∧ Below w.heap.size w w' := by
  obtain ⟨i0, hi, hz0, hz1, hz2⟩ := info_parts infoW
  -- the reader as it is made
  obtain ⟨W0, hW0⟩ : ∃ W0, W0 = (w.alloc (.cells #[.int .i64 0, .slice none 0 0] 29)).alloc (.cells #[.slice a b.length c, .bool false] 97) := ⟨_, rfl⟩
  have B0 : Below w.heap.size w W0 := by rw [hW0]; exact ((Below.refl _ _).alloc (Nat.le_refl _) _).alloc (by simp) _
  have S0 : W0.heap.size = w.heap.size + 2 := by rw [hW0]; simp
  have R0 : RdAt W0 (w.heap.size + 1) w.heap.size ⟨b, false⟩ := by
    refine ⟨⟨a, c, ?_, hc, hno, fun h0 => ?_⟩, hl, by omega⟩
    · rw [hW0]
      have := World.alloc_heap_new (w.alloc (.cells #[.int .i64 0, .slice none 0 0] 29)) (.cells #[.slice a b.length c, .bool false] 97)
      rw [World.size_alloc] at this
      exact this
    · obtain ⟨⟨a', c', e, hf⟩, _⟩ := h
      obtain ⟨B, off, ha, hat⟩ := hf h0
      cases e
      have hlt : B < w.heap.size := World.block_lt_of_cell? w _ (hat 0 (by rcases b with _ | ⟨x, t⟩; exact absurd rfl h0; simp))
      exact ⟨B, off, ha, hlt, hat.later B0⟩
  have P0 : W0.heap[w.heap.size]? = some (.cells #[.int .i64 0, .slice none 0 0] 29 (0, 0)) := by
    rw [hW0]
    exact (Below.heap_alloc _ _ _ (by simp)).trans (World.alloc_heap_new w _)
  have N1 := rnumber_any W0 (w.heap.size + 1) w.heap.size ⟨b, false⟩ 1073741824 R0 (by decide)
  have N2 : Hid (∀ wx, RdAt wx (w.heap.size + 1) w.heap.size (Wl.rnum ⟨b, false⟩ 1073741824) → Calls Tryz.prog 59 #[.pointer (some ⟨w.heap.size + 1, 0, none⟩), .int .i64 64] wx fun e w' => e = .returned (.int .i64 (Wl.dMany b : Int)) ∧ RdAt w' (w.heap.size + 1) w.heap.size (Wl.dFrom b) ∧ wx.grownBy w' (some (w.heap.size + 1)) ∧ w'.heap.size = wx.heap.size) := fun wx hx => rnumber_any wx (w.heap.size + 1) w.heap.size _ 64 hx (by decide)
  have hm64 : Wl.dMany b ≤ 64 := Wl.rnumX_le _ _
  have hsq : Wl.dSeq b ≤ 1073741824 := Wl.rnumX_le _ _
  have KP : Hid (∀ {x y : World} {o : Obj} {r : Nat}, x.grownBy y (some r) → w.heap.size < r → x.heap[w.heap.size]? = some o → y.heap[w.heap.size]? = some o) := fun {x y o r} hg hr hx => (hg.block _ (Array.getElem?_eq_some_iff.1 hx).1 (by simp; omega)).trans hx
  have N1' : Hid (Calls Tryz.prog 59 #[.pointer (some ⟨w.heap.size + 1, 0, none⟩), .int .i64 1073741824] W0 fun e w' => e = .returned (.int .i64 (Wl.dSeq b : Int)) ∧ RdAt w' (w.heap.size + 1) w.heap.size (Wl.rnum ⟨b, false⟩ 1073741824) ∧ W0.grownBy w' (some (w.heap.size + 1)) ∧ w'.heap.size = W0.heap.size) := N1
  rw [hW0] at N1'
  have HP0 := hide P0
  have HB0 : Hid (Below w.heap.size w W0) := B0
  have HS0 : Hid (W0.heap.size = w.heap.size + 2) := S0
  have WE : Hid (W0 = (w.alloc (.cells #[.int .i64 0, .slice none 0 0] 29)).alloc (.cells #[.slice a b.length c, .bool false] 97)) := hW0
  obtain ⟨L, hL⟩ : ∃ L, L = b.length := ⟨_, rfl⟩
  rw [← hL] at N1' ⊢
  have WE2 : Hid (W0 = (w.alloc (.cells #[.int .i64 0, .slice none 0 0] 29)).alloc (.cells #[.slice a L c, .bool false] 97)) := by show _ = _; rw [hL]; exact hW0
  clear N1 h hno R0 P0 B0 S0 hW0 WE hL hc hl
  go_enter Tryz.func24, Tryz.ntmps24
  go_wp2_with (first
    | (go_at_call 59; have tok := N1'; refine N1'.out.mono ?_; rintro e w1 ⟨rfl, r1, g1, z1⟩; clear N1' tok)
    | (go_at_call 59; refine (N2.out _ r1).mono ?_; rintro e w2 ⟨rfl, r2, g2, z2⟩; clear N2))
  rw [← WE2.out] at g1
  have s1 := g1.size
  have s2 := g2.size
  have p2 := KP.out g2 (by omega) (KP.out g1 (by omega) HP0.out)
  have b2 : Below w.heap.size w w2 := (HB0.out.trans (grown_below g1 (by have := HS0.out; omega) (fun k hk => by cases hk; omega))).trans (grown_below g2 (by have := HS0.out; omega) (fun k hk => by cases hk; omega))
  have D2 : DecIn w w2 b (w.heap.size + 1) 0 (.slice none 0 0) := ⟨r2, World.ownsRow_nil _ _ _ _, p2, b2, by have := HS0.out; omega⟩
  clear r1 r2 g1 g2 p2 b2 HP0 HB0 WE2 z1 z2 HS0 s1 s2
  generalize hm : Wl.dMany b = m at hm64
  have HM : Hid (Wl.dMany b = m) := hm
  clear hm
  go_loopw [6, 11] (fun v i wr => ∃ j : Nat, j ≤ m ∧ i = .int .i64 j ∧ DecIn w wr b (w.heap.size + 1) j v) (fun _ i _ => m - (intOf i).toNat)
  case atStart => exact ⟨0, Nat.zero_le _, rfl, D2⟩
  case round =>
    obtain ⟨j, hj, rfl, D⟩ := hrel
    clear D2
    by_cases hlt : j < m
    · have WR := rwrite_any wr (w.heap.size + 1) w.heap.size _ D.rd
      have HX : Hid (wcs (Wl.rwritesX (Wl.dFrom b) (j + 1)) = wcs (Wl.rwritesX (Wl.dFrom b) j) ++ wcs [Wl.rwriteX (Wl.rwrites (Wl.dFrom b) j)]) := by show _ = _; rw [Wl.rwritesX_more, wcs_append]
      have HR : Hid (Wl.rwrites (Wl.dFrom b) (j + 1) = Wl.rwrite (Wl.rwrites (Wl.dFrom b) j)) := Wl.rwrites_more _ _
      generalize Wl.rwriteX (Wl.rwrites (Wl.dFrom b) j) = x at WR HX
      have CN : Hid (∀ W : World, ∀ B, B = W.heap.size → ∀ i u, (wcs [x])[i]? = some u → (W.alloc (.cells #[str x.key, str x.value, .bool x.del] 34)).cell? ((⟨B, 0, none⟩ : Addr).add i) = some u) := fun W B hB => wc_new W x B hB
      obtain ⟨d1, d2, d3, d4, d5⟩ := D
      have HD2 := hide d2
      have HD3 : Hid (wr.heap[w.heap.size]? = some (.cells #[.int .i64 0, .slice none 0 0] 29 (0, 0))) := d3
      have HL : Hid ((wcs [x]).length = 1 * 3) := rfl
      have HO : Hid (∀ u ∈ wcs [x], u.oneCell' = true) := wcs_one [x]
      have Z1 : Hid (j + 1 ≤ maxLen) := by show _ ≤ _; unfold maxLen; omega
      have Z2 : Hid ((j + 1) * 40 ≤ 140737488355328) := by show _ ≤ _; omega
      unfold wv at WR
      obtain ⟨K, V, Dl⟩ := x
      simp only at WR CN
      clear d1 d2 d3 HM
      go_wp2_with (first
        | (go_at_call 60; refine WR.mono ?_; rintro e w3 ⟨rfl, r3, g3⟩; have s3 := g3.size; have o3 := hide (HD2.out.kept g3 (own_off HD2.out (by omega))); clear WR)
        | (at_builtin; refine wpList_append_lies _ rfl _ _ 26 rfl (w.heap.size + 2) 34 i0 _ 3 40 Tryz.underlying26 hi hz0 hz1 hz2 rfl (by decide) _ j _ rfl (o3.out.alloc _) ⟨w3.heap.size, 0, none⟩ 1 1 (wcs [⟨K, V, Dl⟩]) rfl HL.out (CN.out _ _ rfl) HO.out (by decide) Z1.out Z2.out (by simp; omega) _ rfl ?_; intro g4 cap4 w4 o4 h4 l4 lt4))
      have q4 : wr.heap.size ≤ w4.heap.size := by have := h4.size; simp at this; omega
      have R4 : RdAt w4 (w.heap.size + 1) w.heap.size (Wl.rwrites (Wl.dFrom b) (j + 1)) := by
        rw [HR.out]
        exact (r3.later ((Below.refl _ _).alloc (Nat.le_refl _) _)).keptO h4 (fun r hr => by have := (HD2.out.lt r hr).1; omega)
      have P4 : w4.heap[w.heap.size]? = some (.cells #[.int .i64 0, .slice none 0 0] 29 (0, 0)) := by
        have p3 := KP.out g3 (by omega) HD3.out
        have hlt : w.heap.size < w3.heap.size := (Array.getElem?_eq_some_iff.1 p3).1
        refine (h4.block _ (by simp; omega) (fun e => ?_)).trans ((Below.heap_alloc _ _ _ hlt).trans p3)
        have := (HD2.out.lt _ e.symm).1
        omega
      have B4 : Below w.heap.size w w4 := (d4.trans ((grown_below g3 (by omega) (fun k hk => by cases hk; omega)).alloc (by omega) _)).grown h4 (by simp; omega) (fun k hk => by have := (HD2.out.lt k hk).1; omega)
      rw [← HX.out] at o4
      exact ⟨⟨j + 1, by omega, by go_num, ⟨R4, o4, P4, B4, by omega⟩⟩, by simp [intOf]; omega⟩
    · have e : j = m := by omega
      subst e
      have i3 : ¬ (j : Int) < (j : Int) := by omega
      have hw : Wl.dWrites b = Wl.rwritesX (Wl.dFrom b) j := by unfold Wl.dWrites; rw [HM.out]
      have hwl : (Wl.dWrites b).length = j := by rw [hw, Wl.rwritesX_length]
      have he : Wl.dEnd b = Wl.rwrites (Wl.dFrom b) j := by unfold Wl.dEnd; rw [HM.out]
      obtain ⟨d1, d2, d3, d4, d5⟩ := D
      rw [← hw] at d2
      rw [← he] at d1
      have hg : Wl.dGood b = (!(Wl.dEnd b).bad && decide ((Wl.dEnd b).rest = []) && decide (Wl.dSeq b ≠ 0) && decide (Wl.checkE (Wl.dWrites b) = 0)) := rfl
      have HSM : ∀ x ∈ Wl.dWrites b, x.key.length ≤ 1000000 ∧ x.value.length ≤ 1000000 := by rw [hw]; exact rwritesX_small _ _
      obtain ⟨⟨ra, rc, hb, h2, h3, h4⟩, h5, h6⟩ := d1
      have q0 : wr.cell? ⟨w.heap.size + 1, 0, none⟩ = some (.slice ra (Wl.dEnd b).rest.length rc) := Joins.cell_of_block hb 0
      have q1 : wr.cell? ⟨w.heap.size + 1, 1, none⟩ = some (.bool (Wl.dEnd b).bad) := Joins.cell_of_block hb 1
      obtain ⟨x0, x1, f0, f1, xl⟩ := slot2 d3
      have HP := hide d3
      clear hw he hb h2 h3 h4 h6 d3 HM hlt hj
      cases hbad : (Wl.dEnd b).bad with
      | true =>
        have HG : Hid (Wl.dGood b = false) := by show _ = _; rw [hg, hbad]; rfl
        rw [hbad] at q1
        clear hg hbad d2 HSM hwl
        go_wp2_with (fail)
        obtain ⟨P5, G5⟩ := store2 HP.out (.int .i64 0) (.slice none 0 0)
        have B5 : Below w.heap.size w _ := d4.grown G5 (by omega) (fun k hk => by cases hk; exact Nat.le_refl _)
        generalize ((wr.setCell ⟨w.heap.size, 0, none⟩ (.int .i64 0)).setCell ⟨w.heap.size, 1, none⟩ (.slice none 0 0)) = W5 at P5 B5 ⊢
        obtain ⟨y0, y1, _, _, _⟩ := slot2 P5
        refine bodyPost_ret (v := .tuple #[.agg #[.int .i64 0, .slice none 0 0], .int .i64 5]) (by simp [results, Tryz.results24, go_sem, y0, y1]) rfl ?_
        exact ⟨_, _, _, rfl, .inr ⟨HG.out, rfl, rfl, rfl⟩, B5⟩
      | false =>
        rw [hbad] at q1 hg
        by_cases hr : (Wl.dEnd b).rest = []
        · rw [hr] at q0 hg
          by_cases hs0 : Wl.dSeq b = 0
          · have HG : Hid (Wl.dGood b = false) := by show _ = _; rw [hg, hs0]; simp
            rw [hs0]
            clear hg hbad d2 HSM hwl hr h5 hs0
            go_wp2_with (fail)
            obtain ⟨P5, G5⟩ := store2 HP.out (.int .i64 0) (.slice none 0 0)
            have B5 : Below w.heap.size w _ := d4.grown G5 (by omega) (fun k hk => by cases hk; exact Nat.le_refl _)
            generalize ((wr.setCell ⟨w.heap.size, 0, none⟩ (.int .i64 0)).setCell ⟨w.heap.size, 1, none⟩ (.slice none 0 0)) = W5 at P5 B5 ⊢
            obtain ⟨y0, y1, _, _, _⟩ := slot2 P5
            refine bodyPost_ret (v := .tuple #[.agg #[.int .i64 0, .slice none 0 0], .int .i64 5]) (by simp [results, Tryz.results24, go_sem, y0, y1]) rfl ?_
            exact ⟨_, _, _, rfl, .inr ⟨HG.out, rfl, rfl, rfl⟩, B5⟩
          · have i5 : ((Wl.dSeq b : Int) == 0) = false := by simp; omega
            have WA := WrsAt.own (by rw [hwl]; exact d2)
            have sh := row_shape5 d2
            obtain ⟨va, vc, rfl⟩ := sh
            have CK := check_any wr va vc j (Wl.dWrites b) WA hwl.symm (by omega) HSM _ rfl
            have HO := hide d2
            by_cases hc0 : Wl.checkE (Wl.dWrites b) = 0
            · have HG : Hid (Wl.dGood b = true) := by show _ = _; rw [hg, hc0]; simp [hs0]
              have HQ : Hid (Wl.dSeq b = Wl.dSeq b) := rfl
              rw [hc0] at CK
              clear hg hbad HSM WA d2 hr h5
              have HWL := hide hwl
              generalize hS : Wl.dSeq b = S at i5 hs0 hsq
              clear hwl x0 x1 f0 f1
              go_wp2_with (first
                | (go_at_call 11; refine CK.mono ?_; rintro e w5 ⟨rfl, b5⟩; have p5 := (b5.block _ xl).trans HP.out; obtain ⟨x0, x1, f0, f1, xl⟩ := slot2 p5; have o5 := own_after HO.out b5))
              obtain ⟨P6, G6⟩ := store2 p5 (.int .i64 (S : Int)) (.slice va j vc)
              have D5 := d4.trans (b5.mono d4.size)
              have B6 : Below w.heap.size w _ := D5.grown G6 (by omega) (fun k hk => by cases hk; exact Nat.le_refl _)
              have O6 := hide (o5.kept G6 (own_off o5 (by omega)))
              generalize ((w5.setCell ⟨w.heap.size, 0, none⟩ (.int .i64 (S : Int))).setCell ⟨w.heap.size, 1, none⟩ (.slice va j vc)) = W6 at P6 B6 O6 ⊢
              obtain ⟨y0, y1, _, _, _⟩ := slot2 P6
              refine bodyPost_ret (v := .tuple #[.agg #[.int .i64 (S : Int), .slice va j vc], .int .i64 0]) (by simp [results, Tryz.results24, go_sem, y0, y1]) rfl ?_
              refine ⟨_, _, _, rfl, .inl ⟨HG.out, by rw [hS], rfl, ?_⟩, B6⟩
              rw [HWL.out]
              exact O6.out
            · have HG : Hid (Wl.dGood b = false) := by show _ = _; rw [hg]; simp [hc0]
              have i6 : (Wl.checkE (Wl.dWrites b) != 0) = true := by simpa using hc0
              generalize Wl.checkE (Wl.dWrites b) = E at CK i6
              clear hg hbad HSM WA d2 hr h5 hwl hc0 x0 x1 f0 f1
              go_wp2_with (first
                | (go_at_call 11; refine CK.mono ?_; rintro e w5 ⟨rfl, b5⟩; have p5 := (b5.block _ xl).trans HP.out; obtain ⟨x0, x1, f0, f1, xl⟩ := slot2 p5))
              have D5 := d4.trans (b5.mono d4.size)
              obtain ⟨P5, G5⟩ := store2 p5 (.int .i64 0) (.slice none 0 0)
              have B5 : Below w.heap.size w _ := D5.grown G5 (by omega) (fun k hk => by cases hk; exact Nat.le_refl _)
              generalize ((w5.setCell ⟨w.heap.size, 0, none⟩ (.int .i64 0)).setCell ⟨w.heap.size, 1, none⟩ (.slice none 0 0)) = W5 at P5 B5 ⊢
              obtain ⟨y0, y1, _, _, _⟩ := slot2 P5
              refine bodyPost_ret (v := .tuple #[.agg #[.int .i64 0, .slice none 0 0], .int .i64 5]) (by simp [results, Tryz.results24, go_sem, y0, y1]) rfl ?_
              exact ⟨_, _, _, rfl, .inr ⟨HG.out, rfl, rfl, rfl⟩, B5⟩
        · have hl1 : 0 < (Wl.dEnd b).rest.length := List.length_pos_iff.mpr hr
          have HG : Hid (Wl.dGood b = false) := by show _ = _; rw [hg]; simp [hr]
          have i5 : ((Wl.dEnd b).rest.length : Int) > 0 := by omega
          generalize (Wl.dEnd b).rest.length = Q at q0 i5 h5
          clear hg hbad d2 HSM hwl hr hl1
          go_wp2_with (fail)
          obtain ⟨P5, G5⟩ := store2 HP.out (.int .i64 0) (.slice none 0 0)
          have B5 : Below w.heap.size w _ := d4.grown G5 (by omega) (fun k hk => by cases hk; exact Nat.le_refl _)
          generalize ((wr.setCell ⟨w.heap.size, 0, none⟩ (.int .i64 0)).setCell ⟨w.heap.size, 1, none⟩ (.slice none 0 0)) = W5 at P5 B5 ⊢
          obtain ⟨y0, y1, _, _, _⟩ := slot2 P5
          refine bodyPost_ret (v := .tuple #[.agg #[.int .i64 0, .slice none 0 0], .int .i64 5]) (by simp [results, Tryz.results24, go_sem, y0, y1]) rfl ?_
          exact ⟨_, _, _, rfl, .inr ⟨HG.out, rfl, rfl, rfl⟩, B5⟩
end Go.Proofs.YtppfkhpofbbnbaaGreatDoor
