/-
  Folding loses nothing that somebody may still ask for: the statement's own walk.
-/
import Derived.Test.YtmkchjgckmdmcaaBLives
import Derived.Test.YtmkchjgckmdmcaaBSmall
import Derived.Test.YtmkchjgckmdmcaaBAsk
namespace Go.Proofs.Ytmkchjgckmdmcaa.blockFold
open Go.RowKit

theorem sub_same {x : Mm.Ent} {r m : List Mm.Ent} (h : (x :: r).Sublist (x :: m)) : r.Sublist m := List.cons_sublist_cons.1 h
theorem sub_other {x y : Mm.Ent} {r m : List Mm.Ent} (h : (x :: r).Sublist (y :: m)) (hne : ¬ y = x) : (x :: r).Sublist m := by
  cases h with
  | cons _ h => exact h
  | cons_cons _ h => exact absurd rfl hne
/-- A visible list, as the statement holds it. -/
structure VisAt (w : World) (v : Value) (m : List Mm.Ent) (n : Nat) : Prop where
  form : ∃ a k c, v = .slice a k c ∧ k = m.length
  ents : EntsAt w v m
  small : m.length ≤ n
theorem VisAt.later {w w' : World} {v : Value} {m : List Mm.Ent} {n : Nat} (h : VisAt w v m n) (b : Below w.heap.size w w') : VisAt w' v m n := ⟨h.form, h.ents.later b, h.small⟩
theorem vis_at {w : World} {base : Nat} {v : Value} {m : List Mm.Ent} {n : Nat} (o : w.ownsRow base 27 4 v m.length (ecs m)) (h : m.length ≤ n) : VisAt w v m n := by
  refine ⟨?_, EntsAt.own o, h⟩
  obtain ⟨a, c, rfl⟩ := row_shape o
  exact ⟨a, _, c, rfl, rfl⟩
theorem vis_call {w : World} {a : Option Addr} {c n : Nat} {l : List Mm.Ent} (h : EntsAt w (.slice a n c) l) (hn : n = l.length) (hl : n ≤ 1000) (hc : n ≤ c) (hk : ∀ x ∈ l, x.key.length ≤ 1000000 ∧ x.value.length ≤ 1000000) (hu : Mm.Up l) (f t : List UInt8) (seq : Int) :
    Calls Try.prog 30 #[.slice a n c, .agg #[str f, str t], .int .i64 seq] w fun e w' => ∃ v, e = .returned v ∧ VisAt w' v (Mm.told seq (Mm.spanL f t l)) 1000 ∧ Below w.heap.size w w' := by
  refine (visible_any w a c n l h hn (by omega) hc hk hu f t seq).mono ?_
  rintro e w' ⟨v, rfl, o, b⟩
  refine ⟨v, rfl, vis_at o ?_, b⟩
  have h1 := Mm.told_len seq (Mm.spanL f t l)
  have h2 : (Mm.spanL f t l).length ≤ l.length := List.length_filter_le _ _
  omega
theorem puts_call {w : World} {v : Value} {m : List Mm.Ent} (h : VisAt w v m 1000) :
    Calls Try.prog 37 #[v] w fun e w' => ∃ u, e = .returned u ∧ VisAt w' u (Bk.putsL m) 1000 ∧ Below w.heap.size w w' := by
  have hs := h.small
  obtain ⟨a, k, c, rfl, hk⟩ := h.form
  refine (puts_any w a c k m h.ents hk (by omega)).mono ?_
  rintro e w' ⟨u, rfl, o, b⟩
  refine ⟨u, rfl, vis_at o ?_, b⟩
  have h1 : (Bk.putsL m).length ≤ m.length := List.length_filter_le _ _
  omega

set_option maxRecDepth 100000 in
set_option maxHeartbeats 8000000 in
theorem walk (w : World) (a : Option Addr) (c n : Nat) (l : List Mm.Ent) (hat : EntsAt w (.slice a n c) l) (hn : n = l.length) (hlen : n ≤ maxLen) (hcap : n ≤ c) (hok : ∀ x ∈ l, x.key.length ≤ maxLen ∧ x.value.length ≤ maxLen)
    (ka : Option Addr) (kc kn : Nat) (keep : List Int) (hkeep : IntsAt w (.slice ka kn kc) keep) (hkn : kn = keep.length) (hkl : kn ≤ maxLen) (f t : List UInt8) (last : Bool) :
    Calls Try.prog 8 #[.slice a n c, .slice ka kn kc, .agg #[str f, str t], .bool last] w fun e w' => e = .returned (.bool true) ∧ Below w.heap.size w w' := by
  obtain ⟨W, hW⟩ : ∃ W, W = w.alloc (.cells #[str f, str t] 50) := ⟨_, rfl⟩
  have b0 : Below w.heap.size w W := by rw [hW]; exact (Below.refl _ _).alloc (Nat.le_refl _) _
  have t0 : W.heap[w.heap.size]? = some (.cells #[str f, str t] 50 (0, 0)) := by rw [hW]; exact World.alloc_heap_new w _
  have LV : Hid (Calls Try.prog 14 #[] (w.alloc (.cells #[str f, str t] 50)) fun e w' => e = .returned (.bool true) ∧ Below W.heap.size W w') := by rw [← hW]; exact blives_any W
  have SM : Hid (∀ wx, Below W.heap.size W wx → Calls Try.prog 15 #[.slice a n c] wx fun e w' => e = .returned (.bool (smallB l)) ∧ Below wx.heap.size wx w') := fun wx hx => small_any wx a c n l ((hat.later b0).later hx) hn hlen hok _ rfl
  have HB := hide b0
  have HT := hide t0
  clear hW b0 t0
  have kn9 : (kn : Int) ≤ 9223372036854775807 := by unfold maxLen at hkl; omega
  by_cases hs0 : smallB l = false
  · rw [hs0] at SM
    clear hs0 hat hok hkeep hn hkn hkl
    go_enter Try.func8, Try.ntmps8
    go_wp2_with (first
      | (go_at_call 14; refine LV.out.mono ?_; rintro r w1 ⟨rfl, b1⟩; clear LV)
      | (go_at_call 15; refine (SM.out _ b1).mono ?_; rintro r w2 ⟨rfl, b2⟩; clear SM))
    go_ret
    exact ⟨rfl, HB.out.trans ((b1.trans (b2.mono b1.size)).mono HB.out.size)⟩
  have hs : smallB l = true := by simpa using hs0
  clear hs0
  rw [hs] at SM
  by_cases h7 : (kn : Int) > 70
  · clear hs hat hok hkeep hn hkn hkl
    go_enter Try.func8, Try.ntmps8
    go_wp2_with (first
      | (go_at_call 14; refine LV.out.mono ?_; rintro r w1 ⟨rfl, b1⟩; clear LV)
      | (go_at_call 15; refine (SM.out _ b1).mono ?_; rintro r w2 ⟨rfl, b2⟩; clear SM))
    go_ret
    exact ⟨rfl, HB.out.trans ((b1.trans (b2.mono b1.size)).mono HB.out.size)⟩
  have hsm : n ≤ 70 ∧ ∀ x ∈ l, x.key.length ≤ 600 ∧ x.value.length ≤ 600 := by
    unfold smallB at hs
    rw [Bool.and_eq_true, decide_eq_true_eq, List.all_eq_true] at hs
    refine ⟨by omega, fun x hx => ?_⟩
    have := hs.1 x hx
    unfold shortE at this
    simpa using this
  have hk : ∀ x ∈ l, x.key.length ≤ 1000000 ∧ x.value.length ≤ 1000000 := fun x hx => by have := hsm.2 x hx; omega
  have n70 := hsm.1
  have IO : Hid (∀ wx, Below W.heap.size W wx → Calls Try.prog 28 #[.slice a n c] wx fun e w' => e = .returned (.bool (Bk.inOrd l)) ∧ Below wx.heap.size wx w') := fun wx hx => linOrder_any wx a c n l ((hat.later HB.out).later hx) hn (by omega)
  by_cases hi0 : Bk.inOrd l = false
  · rw [hi0] at IO
    clear hi0 hs hat hok hkeep hn hkn hkl hsm hk
    go_enter Try.func8, Try.ntmps8
    go_wp2_with (first
      | (go_at_call 14; refine LV.out.mono ?_; rintro r w1 ⟨rfl, b1⟩; clear LV)
      | (go_at_call 15; refine (SM.out _ b1).mono ?_; rintro r w2 ⟨rfl, b2⟩; have B2 := b1.trans (b2.mono b1.size); clear SM)
      | (go_at_call 28; refine (IO.out _ B2).mono ?_; rintro r w3 ⟨rfl, b3⟩; clear IO))
    go_ret
    exact ⟨rfl, HB.out.trans ((B2.trans (b3.mono B2.size)).mono HB.out.size)⟩
  have hio : Bk.inOrd l = true := by simpa using hi0
  have hu := up_inOrd hio
  rw [hio] at IO
  have HA := hide (hat.later HB.out)
  have HK := hide (hkeep.later HB.out)
  have HN : Hid (n = l.length) := hn
  have HKN : Hid (kn = keep.length) := hkn
  have HKK := hide hk
  have HU := hide hu
  have k70 : kn ≤ 70 := by omega
  clear hi0 hs hat hok hkeep hn hkn hkl hsm hk hio hu hlen
  go_enter Try.func8, Try.ntmps8
  go_wp2_with (first
    | (go_at_call 14; refine LV.out.mono ?_; rintro r w1 ⟨rfl, b1⟩; clear LV)
    | (go_at_call 15; refine (SM.out _ b1).mono ?_; rintro r w2 ⟨rfl, b2⟩; have B2 := b1.trans (b2.mono b1.size); clear SM)
    | (go_at_call 28; refine (IO.out _ B2).mono ?_; rintro r w3 ⟨rfl, b3⟩; have B3 := B2.trans (b3.mono B2.size); clear IO))
  have BW : Below w.heap.size w w3 := HB.out.trans (B3.mono HB.out.size)
  have A3 := hide (HA.out.later B3)
  have K3 := hide (HK.out.later B3)
  have T3 := hide (keepB B3 HT.out)
  clear HA HK HT HB B3 B2 b1 b2 b3
  go_loopw [9] (fun i wr => wr = w3 ∧ ∃ j : Nat, j ≤ n ∧ i = .int .i64 j) (fun i _ => n - (intOf i).toNat)
  case atStart => exact ⟨rfl, 0, Nat.zero_le _, rfl⟩
  case round =>
    obtain ⟨rfl, j, hj, rfl⟩ := hrel
    by_cases hlt : j < n
    · have jl : j < l.length := by have := HN.out; omega
      obtain ⟨b, off, rfl⟩ := (A3.out).some (by omega)
      obtain ⟨c0, c1, c2, c3⟩ := A3.out.cells j jl
      generalize l[j] = x at *
      by_cases hq : x.seq > 1073741824
      · go_wp2_with (fail)
        go_ret
        exact ⟨rfl, BW⟩
      · go_wp2_with (fail)
        exact ⟨⟨trivial, j + 1, by omega, by go_num⟩, by simp [intOf]; omega⟩
    · have i3 : ¬ (j : Int) < (n : Int) := by omega
      have FD := hide (fold_any _ a c n l A3.out HN.out (by omega) HKK.out ka kc kn keep K3.out HKN.out (by omega) last)
      have hfs : (Bk.foldR (1073741824 :: keep) last none l).Sublist l := Bk.fold_sub _ _ _ _
      have FS := hide hfs
      have FU : Hid (Mm.Up (Bk.foldR (1073741824 :: keep) last none l)) := List.Pairwise.sublist hfs HU.out
      have FK : Hid (∀ x ∈ Bk.foldR (1073741824 :: keep) last none l, x.key.length ≤ 1000000 ∧ x.value.length ≤ 1000000) := fun x hx => HKK.out x (hfs.subset hx)
      have FL : (Bk.foldR (1073741824 :: keep) last none l).length ≤ 70 := by have := hfs.length_le; have := HN.out; omega
      have FP : Hid (∀ s ∈ (1073741824 :: keep : List Int), Bk.putsL (Mm.told s (Mm.spanL f t (Bk.foldR (1073741824 :: keep) last none l))) = Bk.putsL (Mm.told s (Mm.spanL f t l))) := fun s hs => Bk.fold_puts hs HU.out f t
      have FA : Hid (last = false → ∀ s ∈ (1073741824 :: keep : List Int), Mm.told s (Mm.spanL f t (Bk.foldR (1073741824 :: keep) last none l)) = Mm.told s (Mm.spanL f t l)) := fun hl s hs => by rw [hl]; exact Bk.fold_all hs HU.out f t
      generalize Bk.foldR (1073741824 :: keep) last none l = F at *
      clear hfs hj hlt
      go_wp2_with (first
        | (go_at_call 12; refine FD.out.mono ?_; rintro r w4 ⟨v4, rfl, o4, b4⟩; clear FD))
      have A4 := hide (A3.out.later b4)
      have K4 := hide (K3.out.later b4)
      have T4 := hide (keepB b4 T3.out)
      have B4 : Below w.heap.size w w4 := BW.trans (b4.mono BW.size)
      have E4 := hide (EntsAt.own o4)
      have hfc : ∃ fa fc, v4 = .slice fa F.length fc ∧ F.length ≤ fc := by
        rcases o4.2 with ⟨rfl, h0⟩ | ⟨g, cap, cur, rfl, _, _, hnc, _⟩
        · exact ⟨none, 0, by rw [h0], by omega⟩
        · exact ⟨_, cap, rfl, hnc⟩
      obtain ⟨fa, fc, rfl, hfcap⟩ := hfc
      obtain ⟨fn, hfn⟩ : ∃ fn, fn = F.length := ⟨_, rfl⟩
      have HFN := hide hfn
      rw [← hfn] at E4 FL hfcap ⊢
      clear A3 K3 T3 b4 o4 BW hfn
      go_loopw [11, 12] (fun kq iq wr => ∃ i k : Nat, i ≤ fn ∧ k ≤ n ∧ kq = .int .i64 (k : Int) ∧ iq = .int .i64 (i : Int) ∧ Hid ((F.drop i).Sublist (l.drop k)) ∧ Below w4.heap.size w4 wr) (fun _ iq _ => fn - (intOf iq).toNat)
      case atStart => exact ⟨0, 0, Nat.zero_le _, Nat.zero_le _, rfl, rfl, by show List.Sublist _ _; simpa using FS.out, Below.refl _ _⟩
      case round =>
        obtain ⟨i, k, hi, hk, rfl, rfl, HS, bx⟩ := hrel
        by_cases hlt : i < fn
        · have il : i < F.length := by have := HFN.out; omega
          have i1 : (i : Int) < (fn : Int) := by omega
          have i2 : (0 : Int) ≤ (i : Int) := by omega
          have hdi : F.drop i = F[i] :: F.drop (i + 1) := List.drop_eq_getElem_cons il
          have HDI := hide hdi
          obtain ⟨fb, foff, hfa⟩ := (E4.out).some (by have := HFN.out; omega)
          subst hfa
          have CF : Hid (∀ wx, Below w4.heap.size w4 wx → wx.cell? ⟨fb, foff + i * 4, none⟩ = some (str F[i].key) ∧ wx.cell? ⟨fb, foff + i * 4 + 1, none⟩ = some (str F[i].value) ∧ wx.cell? ⟨fb, foff + i * 4 + 2, none⟩ = some (.int .i64 F[i].seq) ∧ wx.cell? ⟨fb, foff + i * 4 + 3, none⟩ = some (.bool F[i].del)) := fun wx hx => (E4.out.later hx).cells i il
          have HS0 : Hid ((F[i] :: F.drop (i + 1)).Sublist (l.drop k)) := by show List.Sublist _ _; rw [← hdi]; exact HS.out
          generalize F[i] = y at *
          clear hdi HS
          go_wp2_with (fail)
          go_loopw [11] (fun kq wr => ∃ k : Nat, k ≤ n ∧ kq = .int .i64 (k : Int) ∧ Hid ((y :: F.drop (i + 1)).Sublist (l.drop k)) ∧ Below w4.heap.size w4 wr) (fun kq _ => n - (intOf kq).toNat)
          case atStart => exact ⟨k, hk, rfl, HS0, bx⟩
          case round =>
            obtain ⟨k, hk, rfl, HS, bx⟩ := hrel
            by_cases hkn : k < n
            · have kl : k < l.length := by have := HN.out; omega
              obtain ⟨b, off, rfl⟩ := (A4.out).some (by omega)
              obtain ⟨c0, c1, c2, c3⟩ := (A4.out.later bx).cells k kl
              obtain ⟨d0, d1, d2, d3⟩ := CF.out _ bx
              have hdk : l.drop k = l[k] :: l.drop (k + 1) := List.drop_eq_getElem_cons kl
              have HS1 : Hid ((y :: F.drop (i + 1)).Sublist (l[k] :: l.drop (k + 1))) := by show List.Sublist _ _; rw [← hdk]; exact HS.out
              have k1 : (k : Int) < (n : Int) := by omega
              have k2 : (0 : Int) ≤ (k : Int) := by omega
              have k3 : ((k : Int) == (n : Int)) = false := by simp; omega
              generalize l[k] = x at *
              clear hdk HS HS0
              by_cases hxy : x = y
              · subst hxy
                have HS2 : Hid ((F.drop (i + 1)).Sublist (l.drop (k + 1))) := sub_same HS1.out
                obtain ⟨xk, xv, xs, xd⟩ := x
                clear HS1
                go_wp2_with (fail)
                go_quiet (fail)
                go_wp2_with (fail)
                exact ⟨⟨i + 1, k + 1, by omega, by omega, by go_num, by go_num, HS2, below_drewN bx _⟩, by simp [intOf]; omega⟩
              · have HS2 : Hid ((y :: F.drop (i + 1)).Sublist (l.drop (k + 1))) := sub_other HS1.out hxy
                clear HS1
                obtain ⟨xk, xv, xs, xd⟩ := x
                obtain ⟨yk, yv, ys, yd⟩ := y
                simp only at c0 c1 c2 c3 d0 d1 d2 d3
                have hc : (xk == yk) = false ∨ (xk = yk ∧ ((xv == yv) = false ∨ (xv = yv ∧ ((xs == ys) = false ∨ (xs = ys ∧ (xd == yd) = false))))) := by
                  by_cases e1 : xk = yk
                  · by_cases e2 : xv = yv
                    · by_cases e3 : xs = ys
                      · refine .inr ⟨e1, .inr ⟨e2, .inr ⟨e3, ?_⟩⟩⟩
                        cases hd : (xd == yd) with
                        | false => rfl
                        | true => exact absurd (by rw [e1, e2, e3, eq_of_beq hd]) hxy
                      · exact .inr ⟨e1, .inr ⟨e2, .inl (by simpa using e3)⟩⟩
                    · exact .inr ⟨e1, .inl (by simpa using e2)⟩
                  · exact .inl (by simpa using e1)
                clear hxy
                rcases hc with hc | ⟨rfl, hc | ⟨rfl, hc | ⟨rfl, hc⟩⟩⟩
                · go_wp2_with (fail)
                  go_quiet (fail)
                  go_wp2_with (fail)
                  exact ⟨⟨k + 1, by omega, by go_num, HS2, below_drewN bx _⟩, by simp [intOf]; omega⟩
                · go_wp2_with (fail)
                  go_quiet (fail)
                  go_wp2_with (fail)
                  exact ⟨⟨k + 1, by omega, by go_num, HS2, below_drewN bx _⟩, by simp [intOf]; omega⟩
                · go_wp2_with (fail)
                  go_quiet (fail)
                  go_wp2_with (fail)
                  exact ⟨⟨k + 1, by omega, by go_num, HS2, below_drewN bx _⟩, by simp [intOf]; omega⟩
                · go_wp2_with (fail)
                  go_quiet (fail)
                  go_wp2_with (fail)
                  exact ⟨⟨k + 1, by omega, by go_num, HS2, below_drewN bx _⟩, by simp [intOf]; omega⟩
            · exfalso
              have : l.drop k = [] := List.drop_eq_nil_of_le (by have := HN.out; omega)
              have h2 := HS.out
              rw [this] at h2
              exact absurd (List.sublist_nil.1 h2) (by simp)
        · have i3 : ¬ (i : Int) < (fn : Int) := by omega
          have A5 := hide (A4.out.later bx)
          have K5 := hide (K4.out.later bx)
          have T5 := hide (keepB bx T4.out)
          have E5 := hide (E4.out.later bx)
          have B5 : Below w.heap.size w wr := B4.trans (bx.mono B4.size)
          have VL : Hid (∀ wx, Below wr.heap.size wr wx → ∀ s : Int, Calls Try.prog 30 #[.slice a n c, .agg #[str f, str t], .int .i64 s] wx fun e w' => ∃ v, e = .returned v ∧ VisAt w' v (Mm.told s (Mm.spanL f t l)) 1000 ∧ Below wx.heap.size wx w') := fun wx hx s => vis_call (A5.out.later hx) HN.out (by omega) hcap HKK.out HU.out f t s
          have VF : Hid (∀ wx, Below wr.heap.size wr wx → ∀ s : Int, Calls Try.prog 30 #[.slice fa fn fc, .agg #[str f, str t], .int .i64 s] wx fun e w' => ∃ v, e = .returned v ∧ VisAt w' v (Mm.told s (Mm.spanL f t F)) 1000 ∧ Below wx.heap.size wx w') := fun wx hx s => vis_call (E5.out.later hx) HFN.out (by omega) hfcap FK.out FU.out f t s
          have SE : Hid (∀ wx v v2 m, VisAt wx v m 1000 → VisAt wx v2 m 1000 → Calls Try.prog 11 #[v, v2] wx fun e w' => e = .returned (.bool true) ∧ Below wx.heap.size wx w') := fun wx v v2 m h1 h2 => samee_any wx v v2 m h1.ents h2.ents (by have := h1.small; omega)
          clear A4 K4 T4 E4 B4 bx A5 E5 HS hi hk
          obtain ⟨w5, hw5⟩ : ∃ w5, w5 = wr := ⟨_, rfl⟩
          subst hw5
          go_wp2_with (fail)
          go_loopw [13] (fun iq wx => ∃ i : Nat, i ≤ kn + 1 ∧ iq = .int .i64 (i : Int) ∧ Below w5.heap.size w5 wx) (fun iq _ => kn + 1 - (intOf iq).toNat)
          case atStart => exact ⟨0, Nat.zero_le _, rfl, Below.refl _ _⟩
          case round =>
            obtain ⟨i, hi, rfl, bx⟩ := hrel
            by_cases hle : i ≤ kn
            · by_cases hlt2 : i < kn
              · have il : i < keep.length := by have := HKN.out; omega
                have i6 : (i : Int) < (kn : Int) := by omega
                have i7 : (i : Int) ≤ (kn : Int) := by omega
                have i8 : (0 : Int) ≤ (i : Int) := by omega
                have hkc : ∃ kb koff, ka = some ⟨kb, koff, none⟩ ∧ w5.cell? ⟨kb, koff + i, none⟩ = some (.int .i64 keep[i]) := by
                  obtain ⟨a', c', e, _, hf⟩ := K5.out
                  obtain ⟨kb, koff, ha, hat⟩ := hf (fun e => by rw [e] at il; simp at il)
                  cases e
                  exact ⟨kb, koff, ha, hat i il⟩
                obtain ⟨kb, koff, rfl, hkc⟩ := hkc
                have kx := keepC bx hkc
                have hm : keep[i] ∈ (1073741824 :: keep : List Int) := by simp
                generalize keep[i] = sq at *
                have HP := hide (FP.out _ hm)
                have HAl : Hid (last = false → Mm.told sq (Mm.spanL f t F) = Mm.told sq (Mm.spanL f t l)) := fun h => FA.out h _ hm
                have VL1 := hide (fun wx hx => VL.out wx hx sq)
                have VF1 := hide (fun wx hx => VF.out wx hx sq)
                generalize Mm.told sq (Mm.spanL f t F) = bF at *
                generalize Mm.told sq (Mm.spanL f t l) = aL at *
                have TT : Hid (∀ wx, Below w5.heap.size w5 wx → wx.cell? ⟨w.heap.size, 0, none⟩ = some (str f) ∧ wx.cell? ⟨w.heap.size, 1, none⟩ = some (str t)) := fun wx hx => ⟨keepC hx (Joins.cell_of_block T5.out 0), keepC hx (Joins.cell_of_block T5.out 1)⟩
                have P1 := TT.out wr.drew bx.drew
                clear hm FP FA VL VF
                go_wp2_with (fail)
                go_region_held3 (fun w' => w'.cell? ⟨w.heap.size, 0, none⟩ = some (str f) ∧ w'.cell? ⟨w.heap.size, 1, none⟩ = some (str t))
                  (first | exact P1 | exact P2 | exact P3)
                  (first
                    | (go_at_call 30; have tok := VL1; refine (VL1.out _ bx.drew).mono ?_; rintro e w6 ⟨v6, rfl, a6, b6⟩; have B6 := bx.drew.trans (b6.mono bx.drew.size); have P2 := TT.out _ B6; clear VL1 tok)
                    | (go_at_call 30; refine (VF1.out _ B6).mono ?_; rintro e w7 ⟨v7, rfl, a7, b7⟩; have B7 := B6.trans (b7.mono B6.size); have P3 := TT.out _ B7; have a6' := a6.later b7; clear VF1))
                have U6 := hide a6'
                have U7 := hide a7
                clear P1 P2 P3 TT a6 a6' a7 b6 b7 B6
                cases last with
                | true =>
                  go_wp2_with (first
                    | (go_at_call 37; have tok := U6; refine (puts_call U6.out).mono ?_; rintro e w8 ⟨u8', rfl, p8, b8⟩; have U7' := hide (U7.out.later b8); have B8 := B7.trans (b8.mono B7.size); have p8h := hide p8; clear U6 U7 tok p8)
                    | (go_at_call 37; refine (puts_call U7'.out).mono ?_; rintro e w9 ⟨u9', rfl, p9, b9⟩; have q8 := hide (p8h.out.later b9); have q9 : Hid (VisAt w9 u9' (Bk.putsL aL) 1000) := (by show VisAt _ _ _ _; rw [← HP.out]; exact p9); have B9 := B8.trans (b9.mono B8.size); clear U7' p8h p9)
                    | (go_at_call 11; refine (SE.out _ _ _ _ q8.out q9.out).mono ?_; rintro e w10 ⟨rfl, b10⟩; have B10 := B9.trans (b10.mono B9.size); clear q8 q9))
                  exact ⟨⟨i + 1, by omega, by go_num, B10⟩, by simp [intOf]; omega⟩
                | false =>
                  have hbF := HAl.out rfl
                  subst hbF
                  go_wp2_with (first
                    | (go_at_call 37; have tok := U6; refine (puts_call U6.out).mono ?_; rintro e w8 ⟨u8', rfl, p8, b8⟩; have U6' := hide (U6.out.later b8); have U7' := hide (U7.out.later b8); have B8 := B7.trans (b8.mono B7.size); have p8h := hide p8; clear U6 U7 tok p8)
                    | (go_at_call 37; have tok := p8h; refine (puts_call U7'.out).mono ?_; rintro e w9 ⟨u9', rfl, p9, b9⟩; have V6 := hide (U6'.out.later b9); have V7 := hide (U7'.out.later b9); have q8 := hide (p8h.out.later b9); have q9 := hide p9; have B9 := B8.trans (b9.mono B8.size); clear U6' U7' p8h p9 tok)
                    | (go_at_call 11; have tok := q8; refine (SE.out _ _ _ _ q8.out q9.out).mono ?_; rintro e w10 ⟨rfl, b10⟩; have Z6 := hide (V6.out.later b10); have Z7 := hide (V7.out.later b10); have B10 := B9.trans (b10.mono B9.size); clear q8 q9 V6 V7 tok)
                    | (go_at_call 11; refine (SE.out _ _ _ _ Z6.out Z7.out).mono ?_; rintro e w11 ⟨rfl, b11⟩; have B11 := B10.trans (b11.mono B10.size); clear Z6 Z7))
                  exact ⟨⟨i + 1, by omega, by go_num, B11⟩, by simp [intOf]; omega⟩
              · have i6 : ¬ (i : Int) < (kn : Int) := by omega
                have i7 : (i : Int) ≤ (kn : Int) := by omega
                have hm : (1073741824 : Int) ∈ (1073741824 :: keep : List Int) := by simp
                have HP := hide (FP.out _ hm)
                have HAl : Hid (last = false → Mm.told 1073741824 (Mm.spanL f t F) = Mm.told 1073741824 (Mm.spanL f t l)) := fun h => FA.out h _ hm
                have VL1 := hide (fun wx hx => VL.out wx hx 1073741824)
                have VF1 := hide (fun wx hx => VF.out wx hx 1073741824)
                generalize Mm.told 1073741824 (Mm.spanL f t F) = bF at *
                generalize Mm.told 1073741824 (Mm.spanL f t l) = aL at *
                have TT : Hid (∀ wx, Below w5.heap.size w5 wx → wx.cell? ⟨w.heap.size, 0, none⟩ = some (str f) ∧ wx.cell? ⟨w.heap.size, 1, none⟩ = some (str t)) := fun wx hx => ⟨keepC hx (Joins.cell_of_block T5.out 0), keepC hx (Joins.cell_of_block T5.out 1)⟩
                have P1 := TT.out wr.drew bx.drew
                clear hm FP FA VL VF
                go_wp2_with (fail)
                go_region_held3 (fun w' => w'.cell? ⟨w.heap.size, 0, none⟩ = some (str f) ∧ w'.cell? ⟨w.heap.size, 1, none⟩ = some (str t))
                  (first | exact P1 | exact P2 | exact P3)
                  (first
                    | (go_at_call 30; have tok := VL1; refine (VL1.out _ bx.drew).mono ?_; rintro e w6 ⟨v6, rfl, a6, b6⟩; have B6 := bx.drew.trans (b6.mono bx.drew.size); have P2 := TT.out _ B6; clear VL1 tok)
                    | (go_at_call 30; refine (VF1.out _ B6).mono ?_; rintro e w7 ⟨v7, rfl, a7, b7⟩; have B7 := B6.trans (b7.mono B6.size); have P3 := TT.out _ B7; have a6' := a6.later b7; clear VF1))
                have U6 := hide a6'
                have U7 := hide a7
                clear P1 P2 P3 TT a6 a6' a7 b6 b7 B6
                cases last with
                | true =>
                  go_wp2_with (first
                    | (go_at_call 37; have tok := U6; refine (puts_call U6.out).mono ?_; rintro e w8 ⟨u8', rfl, p8, b8⟩; have U7' := hide (U7.out.later b8); have B8 := B7.trans (b8.mono B7.size); have p8h := hide p8; clear U6 U7 tok p8)
                    | (go_at_call 37; refine (puts_call U7'.out).mono ?_; rintro e w9 ⟨u9', rfl, p9, b9⟩; have q8 := hide (p8h.out.later b9); have q9 : Hid (VisAt w9 u9' (Bk.putsL aL) 1000) := (by show VisAt _ _ _ _; rw [← HP.out]; exact p9); have B9 := B8.trans (b9.mono B8.size); clear U7' p8h p9)
                    | (go_at_call 11; refine (SE.out _ _ _ _ q8.out q9.out).mono ?_; rintro e w10 ⟨rfl, b10⟩; have B10 := B9.trans (b10.mono B9.size); clear q8 q9))
                  exact ⟨⟨i + 1, by omega, by go_num, B10⟩, by simp [intOf]; omega⟩
                | false =>
                  have hbF := HAl.out rfl
                  subst hbF
                  go_wp2_with (first
                    | (go_at_call 37; have tok := U6; refine (puts_call U6.out).mono ?_; rintro e w8 ⟨u8', rfl, p8, b8⟩; have U6' := hide (U6.out.later b8); have U7' := hide (U7.out.later b8); have B8 := B7.trans (b8.mono B7.size); have p8h := hide p8; clear U6 U7 tok p8)
                    | (go_at_call 37; have tok := p8h; refine (puts_call U7'.out).mono ?_; rintro e w9 ⟨u9', rfl, p9, b9⟩; have V6 := hide (U6'.out.later b9); have V7 := hide (U7'.out.later b9); have q8 := hide (p8h.out.later b9); have q9 := hide p9; have B9 := B8.trans (b9.mono B8.size); clear U6' U7' p8h p9 tok)
                    | (go_at_call 11; have tok := q8; refine (SE.out _ _ _ _ q8.out q9.out).mono ?_; rintro e w10 ⟨rfl, b10⟩; have Z6 := hide (V6.out.later b10); have Z7 := hide (V7.out.later b10); have B10 := B9.trans (b10.mono B9.size); clear q8 q9 V6 V7 tok)
                    | (go_at_call 11; refine (SE.out _ _ _ _ Z6.out Z7.out).mono ?_; rintro e w11 ⟨rfl, b11⟩; have B11 := B10.trans (b11.mono B10.size); clear Z6 Z7))
                  exact ⟨⟨i + 1, by omega, by go_num, B11⟩, by simp [intOf]; omega⟩
            · have i5 : ¬ (i : Int) ≤ (kn : Int) := by omega
              go_wp2_with (fail)
              go_ret
              exact ⟨rfl, B5.trans (bx.mono B5.size)⟩
end Go.Proofs.Ytmkchjgckmdmcaa.blockFold
