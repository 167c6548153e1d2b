/-
  What a segment tells: the batches of all its records, or that one is none.
-/
import Derived.Test.YtppfkhpofbbnbaaGreatDoorKBat
import Derived.Test.YtppfkhpofbbnbaaGreatDoorWSegP
import Derived.Test.YtppfkhpofbbnbaaGreatDoorFA
namespace Go.Proofs.YtppfkhpofbbnbaaGreatDoor
open Go.RowKit Go.Maps Go.Sort

theorem scn_sizes : ∀ (n : Nat) (l : List UInt8), l.length ≤ n → (scn l).1.length ≤ l.length ∧ ∀ r ∈ (scn l).1, r.length ≤ l.length
  | 0, l, h => by
    have : l = [] := List.eq_nil_of_length_eq_zero (by omega)
    subst this
    rw [scn_nil]
    simp
  | n + 1, l, h => by
    by_cases h0 : l = []
    · subst h0; rw [scn_nil]; simp
    · by_cases he : rdE l = 0
      · have hN := rdN_pos he
        have hr : (rdR l).length ≤ l.length := by
          unfold rdR
          rw [if_pos he]
          unfold opnL
          split
          · rw [List.length_take, List.length_take, List.length_drop]; omega
          · simp
        have ih := scn_sizes n (l.drop (rdN l)) (by rw [List.length_drop]; omega)
        rw [scn_good l he]
        rw [List.length_drop] at ih
        refine ⟨by rw [List.length_cons]; omega, fun r hm => ?_⟩
        rcases List.mem_cons.1 hm with rfl | hm
        · exact hr
        · have := ih.2 r hm; omega
      · rw [scn_bad l h0 he]; simp
theorem scn_few (l : List UInt8) : (scn l).1.length ≤ l.length := (scn_sizes _ l (Nat.le_refl _)).1
theorem scn_short (l : List UInt8) : ∀ r ∈ (scn l).1, r.length ≤ l.length := (scn_sizes _ l (Nat.le_refl _)).2

theorem bat_new (W : World) (q : Nat) (v : Value) (x : Wl.Bat) (hx : x.seq = q) (B : Nat) (hB : B = W.heap.size) : ∀ j u, (bcs [x] [v])[j]? = some u → (W.alloc (.cells #[.int .i64 (q : Int), v] 29)).cell? ((⟨B, 0, none⟩ : Addr).add j) = some u := by
  subst hB
  subst hx
  intro j u hu
  have hadd : (⟨W.heap.size, 0, none⟩ : Addr).add j = ⟨W.heap.size, j, none⟩ := by unfold Addr.add; split <;> simp_all
  rw [hadd]
  refine (Joins.cell_of_block (World.alloc_heap_new W _) j).trans ?_
  have : (bcs [x] [v]) = [.int .i64 (x.seq : Int), v] := rfl
  rw [this] at hu
  rw [← hu]
  rcases j with _ | _ | j <;> rfl

/-- What a segment's bytes L tell: all batches, or that one is none. -/
def SegOut (base : Nat) (L : List UInt8) (w' : World) (v : Value) (E : Int) : Prop := (∃ l vs, Wl.segB L = some l ∧ E = 0 ∧ Bats base w' v l vs) ∨ (Wl.segB L = none ∧ E = 6 ∧ v = .slice none 0 0)

set_option maxRecDepth 100000 in
set_option maxHeartbeats 4000000 in
theorem readSegment_any (w : World) (b : Nat) (k : Vf.Bs) (L : List UInt8)
    (RD : ∀ wx, Below w.heap.size w wx → Calls Tryz.prog 35 #[.pointer (some ⟨b, 0, none⟩), str k] wx fun e w' => ∃ v', e = .returned (.tuple #[v', .int .i64 0]) ∧ w'.ownsRow wx.heap.size 5 1 v' L.length (bc L) ∧ Below wx.heap.size wx w') (hL : L.length ≤ 1000000000) :
    Calls Tryz.prog 84 #[.pointer (some ⟨b, 0, none⟩), str k] w fun e w' => ∃ v E, e = .returned (.tuple #[v, .int .i64 E]) ∧ SegOut w.heap.size L w' v E ∧ Below w.heap.size w w' := by
  obtain ⟨i0, hi, hz0, hz1, hz2⟩ := info_parts infoB
  have RD0 := RD w (Below.refl _ _)
  have SC : Hid (∀ wx a0 c0 n, n = L.length → Below w.heap.size w wx → wx.ownsRow w.heap.size 5 1 (.slice a0 n c0) L.length (bc L) → Calls Tryz.prog 109 #[.slice a0 n c0] wx fun e w' => ∃ a v vs c, v = .slice a (scn L).1.length c ∧ e = .returned (.tuple #[.slice a (scn L).1.length c, .int .i64 (((scn L).2.1 : Nat) : Int), .int .i64 (scn L).2.2]) ∧ Recs w.heap.size w' v (scn L).1 vs ∧ Below wx.heap.size wx w') := fun wx a0 c0 n hn hw ho => by
    subst hn
    refine (fscan_any wx a0 c0 L (bytes_of_own ho (by omega)) ?_ hL).mono ?_
    · rcases ho.2 with ⟨e, h0⟩ | ⟨g, cap, cur, e, _, _, hnc, _⟩
      · simp only [Value.slice.injEq] at e; omega
      · simp only [Value.slice.injEq] at e; omega
    · rintro e w' ⟨v, vs, rfl, h1, h2⟩
      obtain ⟨a, c, rfl, _⟩ := h1.shape
      exact ⟨a, _, vs, c, rfl, rfl, h1.mono hw.size, h2⟩
  have hsl : Hid ((scn L).1.length ≤ L.length) := scn_few L
  obtain ⟨rs, hrs⟩ : ∃ rs, rs = (scn L).1 := ⟨_, rfl⟩
  obtain ⟨N2, hN2⟩ : ∃ N, N = (scn L).2.1 := ⟨_, rfl⟩
  obtain ⟨E2, hE2⟩ : ∃ E, E = (scn L).2.2 := ⟨_, rfl⟩
  have HSG : Hid (Wl.segB L = if E2 = 6 then none else Wl.bats rs) := by show _ = _; rw [hE2, hrs]; rfl
  rw [← hrs, ← hN2, ← hE2] at SC
  have hrl : rs.length ≤ 1000000000 := by rw [hrs]; have := hsl.out; omega
  have HRL : Hid (∀ r ∈ rs, r.length ≤ L.length) := by rw [hrs]; exact scn_short L
  obtain ⟨n, hn⟩ : ∃ n, n = rs.length := ⟨_, rfl⟩
  have HN : Hid (n = rs.length) := hn
  rw [← hn] at SC hrl
  obtain ⟨LL, hLL⟩ : ∃ l, l = L.length := ⟨_, rfl⟩
  have HLL : Hid (LL = L.length) := hLL
  have RD1 : Hid (Calls Tryz.prog 35 #[.pointer (some ⟨b, 0, none⟩), str k] w fun e w' => ∃ a c, e = .returned (.tuple #[.slice a LL c, .int .i64 0]) ∧ Hid (w'.ownsRow w.heap.size 5 1 (.slice a LL c) L.length (bc L)) ∧ Below w.heap.size w w') := by
    refine RD0.mono ?_
    rintro e w' ⟨v', rfl, o, b'⟩
    obtain ⟨a, c, rfl⟩ := row_shape5 o
    subst hLL
    exact ⟨a, c, rfl, o, b'⟩
  clear hrs hN2 hE2 RD RD0 hsl hn hLL
  by_cases he6 : E2 = 6
  · have HF : Hid (Wl.segB L = none) := by show _ = _; rw [HSG.out, if_pos he6]
    subst he6
    clear HSG
    go_enter Tryz.func84, Tryz.ntmps84
    go_wp2_with (first
      | (go_at_call 35; refine RD1.out.mono ?_; rintro e w1 ⟨a1, c1, rfl, o1, b1⟩; clear RD1)
      | (go_at_call 109; refine (SC.out _ _ _ _ HLL.out b1 o1.out).mono ?_; rintro e w2 ⟨a2, v2, vs2, c2, rfl, rfl, R2, b2⟩; clear SC))
    go_ret2
    exact ⟨_, _, rfl, .inr ⟨HF.out, rfl, rfl⟩, b1.trans (b2.mono b1.size)⟩
  · have i6 : (E2 == 6) = false := by simpa using he6
    have HF : Hid (Wl.segB L = Wl.bats rs) := by show _ = _; rw [HSG.out, if_neg he6]
    clear HSG he6
    go_enter Tryz.func84, Tryz.ntmps84
    go_wp2_with (first
      | (go_at_call 35; refine RD1.out.mono ?_; rintro e w1 ⟨a1, c1, rfl, o1, b1⟩; clear RD1)
      | (go_at_call 109; refine (SC.out _ _ _ _ HLL.out b1 o1.out).mono ?_; rintro e w2 ⟨a2, v2, vs2, c2, rfl, rfl, R2, b2⟩; clear SC))
    have B2 := b1.trans (b2.mono b1.size)
    have HR := hide R2
    clear R2 o1 b2 HLL
    go_loopw [10, 35] (fun v i wr => ∃ (j : Nat) (m : List Wl.Bat) (vs : List Value), j ≤ n ∧ i = .int .i64 j ∧ Hid (Wl.bats (rs.take j) = some m) ∧ Hid (m.length = j) ∧ Bats w.heap.size wr v m vs ∧ Below w.heap.size w wr ∧ Recs w.heap.size wr (.slice a2 n c2) rs vs2) (fun _ i _ => n - (intOf i).toNat)
    case atStart => exact ⟨0, [], [], Nat.zero_le _, rfl, rfl, rfl, Bats.nil _ _, B2, HR.out⟩
    case round =>
      obtain ⟨j, m, vs, hj, rfl, HB, HM, BT, bx, RX⟩ := hrel
      clear B2 HR
      by_cases hlt : j < n
      · have jl : j < rs.length := by have := HN.out; omega
        have jv : j < vs2.length := by rw [RX.len]; exact jl
        obtain ⟨g2, rfl⟩ : ∃ g, a2 = some ⟨g, 0, none⟩ := by
          rcases RX.row.2 with ⟨e, h0⟩ | ⟨g, cap, cur, e, _⟩
          · omega
          · cases e; exact ⟨g, rfl⟩
        have rw2 := RX.row
        rw [← HN.out] at rw2
        have cx : wr.cell? ⟨g2, j, none⟩ = some vs2[j] := by rw [rw2.cellAt j (by omega), List.getElem?_eq_getElem jv]
        clear rw2
        have ox := RX.own j jv jl
        have rl := HRL.out rs[j] (List.getElem_mem jl)
        have ol := ox.lt
        obtain ⟨ra, rc, hsh⟩ := row_shape5 ox
        rw [hsh] at cx ox ol
        have rcap : rs[j].length ≤ rc ∧ ((ra = none ∧ rc = 0) ∨ ∃ B off, ra = some ⟨B, off, none⟩) := by
          rcases ox.2 with ⟨e, h0⟩ | ⟨g, cap, cur, e, _, _, hnc, _⟩
          · simp only [Value.slice.injEq] at e; exact ⟨by omega, .inl ⟨e.1, e.2.2⟩⟩
          · simp only [Value.slice.injEq] at e; exact ⟨by omega, .inr ⟨g, 0, e.1⟩⟩
        have DC := decode_any wr ra rc rs[j] (bytes_of_own ox (by omega)) rcap.1 (by omega) rcap.2
        have HNX : Hid (∀ q, Wl.dGood rs[j] = true → q = (⟨Wl.dSeq rs[j], Wl.dWrites rs[j]⟩ : Wl.Bat) → Wl.bats (rs.take (j + 1)) = some (m ++ [q])) := fun q hg hq => by rw [hq]; exact Wl.bats_next HB.out jl hg
        have HNO : Hid (Wl.dGood rs[j] = false → Wl.segB L = none) := fun hg => by rw [HF.out]; exact Wl.bats_none jl hg
        generalize hrj : rs[j] = r at DC HNX HNO cx rl
        obtain ⟨R, hR⟩ : ∃ R, R = r.length := ⟨_, rfl⟩
        rw [← hR] at DC cx
        have HBT := hide BT
        have HRX := hide RX
        have ml1 := HM.out
        have Z1 : Hid (m.length + 1 ≤ maxLen) := by show _ ≤ _; unfold maxLen; omega
        have Z2 : Hid ((m.length + 1) * 32 ≤ 140737488355328) := by show _ ≤ _; omega
        clear hrj hR rl rcap ol ox hsh jv jl BT RX HB ml1
        cases hg : Wl.dGood r with
        | false =>
          have HE : Hid (Wl.segB L = none) := HNO.out hg
          have DC' : Hid (Calls Tryz.prog 24 #[.slice ra R rc] wr fun e w' => e = .returned (.tuple #[.agg #[.int .i64 0, .slice none 0 0], .int .i64 5]) ∧ Below wr.heap.size wr w') := by
            refine DC.mono ?_
            rintro e w' ⟨v, q, E, rfl, hq, hb⟩
            rcases hq.out with ⟨h1, _⟩ | ⟨_, rfl, rfl, rfl⟩
            · rw [hg] at h1; cases h1
            · exact ⟨rfl, hb⟩
          clear DC hg HNX HNO HF
          go_wp2_with (first
            | (go_at_call 24; refine DC'.out.mono ?_; rintro e w3 ⟨rfl, b3⟩))
          go_ret2
          exact ⟨_, _, rfl, .inr ⟨HE.out, rfl, rfl⟩, (bx.trans (b3.mono bx.size)).alloc (by have := bx.size; have := b3.size; omega) _⟩
        | true =>
          have DC' : Hid (Calls Tryz.prog 24 #[.slice ra R rc] wr fun e w' => ∃ a n c, e = .returned (.tuple #[.agg #[.int .i64 (Wl.dSeq r : Int), .slice a n c], .int .i64 0]) ∧ Hid (w'.ownsRow (wr.heap.size + 2) 34 3 (.slice a n c) (Wl.dWrites r).length (wcs (Wl.dWrites r))) ∧ Below wr.heap.size wr w') := by
            refine DC.mono ?_
            rintro e w' ⟨v, q, E, rfl, hq, hb⟩
            rcases hq.out with ⟨_, rfl, rfl, ho⟩ | ⟨h1, _⟩
            · obtain ⟨a, c, rfl⟩ := row_shape5 ho
              exact ⟨a, _, c, rfl, ho, hb⟩
            · rw [hg] at h1; cases h1
          have HNX2 : Hid (Wl.bats (rs.take (j + 1)) = some (m ++ [⟨Wl.dSeq r, Wl.dWrites r⟩])) := HNX.out _ hg rfl
          obtain ⟨q, hq⟩ : ∃ q : Wl.Bat, q = ⟨Wl.dSeq r, Wl.dWrites r⟩ := ⟨_, rfl⟩
          have HQ : Hid (q.seq = Wl.dSeq r) := by show _ = _; rw [hq]
          have HQ2 : Hid (q.writes = Wl.dWrites r) := by show _ = _; rw [hq]
          rw [← hq] at HNX2
          generalize Wl.dSeq r = sq at DC' HQ
          generalize Wl.dWrites r = wq at DC' HQ2
          clear DC hg HNX HNO HF hq
          go_wp2_with (first
            | (go_at_call 24; refine DC'.out.mono ?_; rintro e w3 ⟨a3, n3, c3, rfl, o3, b3⟩; clear DC')
            | (at_builtin; refine wpList_append_lies _ rfl _ _ 41 rfl w.heap.size 29 i0 _ 2 32 Tryz.underlying41 hi hz0 hz1 hz2 rfl (by decide) _ m.length _ rfl (((HBT.out.later b3).alloc _).alloc _).row ⟨w3.heap.size + 1, 0, none⟩ 1 1 (bcs [q] [.slice a3 n3 c3]) rfl rfl (bat_new _ sq _ q HQ.out _ (by simp)) (bcs_one _ _ (fun u hu => by simp at hu; exact ⟨_, _, _, hu⟩)) (by decide) Z1.out Z2.out (by have := bx.size; have := b3.size; simp; omega) _ rfl ?_; intro g4 cap4 w4 o4 h4 l4 lt4))
          have b3' := bx.trans (b3.mono bx.size)
          have s3 := b3'.size
          have B4a : Below w.heap.size w ((w3.alloc (.cells #[.int .i64 (sq : Int), .slice a3 n3 c3] 29)).alloc (.cells #[.int .i64 (sq : Int), .slice a3 n3 c3] 29)) := (b3'.alloc s3 _).alloc (by simp; omega) _
          have B4 := B4a.grown h4 (by simp; omega) (fun g hg => (HBT.out.row.lt g hg).1)
          have O3 := own_mono (base' := w.heap.size) o3.out (by have := bx.size; omega)
          have sl : ∀ r, u10.ownBlock = some r → (Value.slice a3 n3 c3).ownBlock ≠ some r := fun r hr e => by
            have h1 := (HBT.out.row.lt r hr).2
            have h2 := (o3.out.lt r e).1
            omega
          have BT4 := (((HBT.out.later b3).alloc (.cells #[.int .i64 (sq : Int), .slice a3 n3 c3] 29)).alloc (.cells #[.int .i64 (sq : Int), .slice a3 n3 c3] 29)).append (m := [q]) (us := [.slice a3 n3 c3]) rfl (fun k hk hk' => by
            have : k = 0 := by simp at hk; exact hk
            subst this
            show World.ownsRow _ _ _ _ _ q.writes.length (wcs q.writes)
            rw [HQ2.out]
            exact (O3.alloc _).alloc _) h4 (fun r hr k hk => by
            have : k = 0 := by simp at hk; exact hk
            subst this
            exact sl r hr) o4
          have RX4 : Recs w.heap.size w4 (.slice (some ⟨g2, 0, none⟩) n c2) rs vs2 := by
            refine (((HRX.out.later b3).alloc _).alloc _).kept h4 ?_ ?_
            · exact own_ne (HRX.out.later b3).row (HBT.out.later b3).row (by decide)
            · intro k hk
              exact own_ne ((HRX.out.later b3).own k hk (by rw [← HRX.out.len]; exact hk)) (HBT.out.later b3).row (by decide)
          exact ⟨⟨j + 1, m ++ [q], vs ++ [.slice a3 n3 c3], by omega, by go_num, HNX2, by show _ = _; rw [List.length_append, HM.out]; rfl, BT4, B4, RX4⟩, by simp [intOf]; omega⟩
      · have i3 : ¬ (j : Int) < (n : Int) := by omega
        have HE : Hid (Wl.segB L = some m) := by
          show _ = _
          rw [HF.out, ← HB.out, List.take_of_length_le (by have := HN.out; omega)]
        have hb' := hide BT
        obtain ⟨va, vc, rfl, _, _⟩ := BT.shape
        clear BT HB HF HRL HN hlt hj RX
        generalize m.length = ml at hb'
        go_wp2_with (fail)
        go_ret2
        exact ⟨_, _, rfl, .inl ⟨m, vs, HE.out, rfl, hb'.out⟩, bx⟩
end Go.Proofs.YtppfkhpofbbnbaaGreatDoor
