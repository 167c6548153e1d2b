/-
  Entries are found, and seen in spans, as the document says: the statement's own walk.
-/
import Derived.Test.YtmkchjgckmdmcaaBLives
import Derived.Test.YtmkchjgckmdmcaaBSmall
import Derived.Test.YtmkchjgckmdmcaaBAsk
import Derived.Test.YtmkchjgckmdmcaaBAsks
namespace Go.Proofs.Ytmkchjgckmdmcaa.blockAsks
open Go.RowKit

set_option maxRecDepth 100000 in
set_option maxHeartbeats 8000000 in
theorem walk (w : World) (a : Option Addr) (c n : Nat) (l : List Mm.Ent) (hat : EntsAt w (.slice a n c) l) (hn : n = l.length) (hlen : n ≤ maxLen) (hno : a = none → c = 0) (hok : ∀ x ∈ l, x.key.length ≤ maxLen ∧ x.value.length ≤ maxLen)
    (key f t : List UInt8) (seq : Int) :
    Calls Try.prog 5 #[.slice a n c, str key, .agg #[str f, str t], .int .i64 seq] w fun e w' => e = .returned (.bool true) ∧ Below w.heap.size w w' := by
  obtain ⟨W, hW⟩ : ∃ W, W = w.alloc (.cells #[str f, str t] 50) := ⟨_, rfl⟩
  have b0 : Below w.heap.size w W := by rw [hW]; exact (Below.refl _ _).alloc (Nat.le_refl _) _
  have t0 : W.heap[w.heap.size]? = some (.cells #[str f, str t] 50 (0, 0)) := by rw [hW]; exact World.alloc_heap_new w _
  have LV : Hid (Calls Try.prog 14 #[] (w.alloc (.cells #[str f, str t] 50)) fun e w' => e = .returned (.bool true) ∧ Below W.heap.size W w') := by rw [← hW]; exact blives_any W
  have SM : Hid (∀ wx, Below W.heap.size W wx → Calls Try.prog 15 #[.slice a n c] wx fun e w' => e = .returned (.bool (smallB l)) ∧ Below wx.heap.size wx w') := fun wx hx => small_any wx a c n l ((hat.later b0).later hx) hn hlen hok _ rfl
  have HB := hide b0
  have HT := hide t0
  clear hW b0 t0
  by_cases hs0 : smallB l = false
  · rw [hs0] at SM
    clear hs0 hat hok hn
    go_enter Try.func5, Try.ntmps5
    go_wp2_with (first
      | (go_at_call 14; refine LV.out.mono ?_; rintro r w1 ⟨rfl, b1⟩; clear LV)
      | (go_at_call 15; refine (SM.out _ b1).mono ?_; rintro r w2 ⟨rfl, b2⟩; clear SM))
    go_ret
    exact ⟨rfl, HB.out.trans ((b1.trans (b2.mono b1.size)).mono HB.out.size)⟩
  have hs : smallB l = true := by simpa using hs0
  clear hs0
  rw [hs] at SM
  have hsm : n ≤ 70 ∧ ∀ x ∈ l, x.key.length ≤ 600 ∧ x.value.length ≤ 600 := by
    unfold smallB at hs
    rw [Bool.and_eq_true, decide_eq_true_eq, List.all_eq_true] at hs
    refine ⟨by omega, fun x hx => ?_⟩
    have := hs.1 x hx
    unfold shortE at this
    simpa using this
  have hk : ∀ x ∈ l, x.key.length ≤ 1000000 ∧ x.value.length ≤ 1000000 := fun x hx => by have := hsm.2 x hx; omega
  have n70 := hsm.1
  have IO : Hid (∀ wx, Below W.heap.size W wx → Calls Try.prog 28 #[.slice a n c] wx fun e w' => e = .returned (.bool (Bk.inOrd l)) ∧ Below wx.heap.size wx w') := fun wx hx => linOrder_any wx a c n l ((hat.later HB.out).later hx) hn (by omega)
  by_cases hi0 : Bk.inOrd l = false
  · rw [hi0] at IO
    clear hi0 hs hat hok hn hsm hk
    go_enter Try.func5, Try.ntmps5
    go_wp2_with (first
      | (go_at_call 14; refine LV.out.mono ?_; rintro r w1 ⟨rfl, b1⟩; clear LV)
      | (go_at_call 15; refine (SM.out _ b1).mono ?_; rintro r w2 ⟨rfl, b2⟩; have B2 := b1.trans (b2.mono b1.size); clear SM)
      | (go_at_call 28; refine (IO.out _ B2).mono ?_; rintro r w3 ⟨rfl, b3⟩; clear IO))
    go_ret
    exact ⟨rfl, HB.out.trans ((B2.trans (b3.mono B2.size)).mono HB.out.size)⟩
  have hio : Bk.inOrd l = true := by simpa using hi0
  have hu := up_inOrd hio
  rw [hio] at IO
  have HA := hide (hat.later HB.out)
  have LE : Hid (∀ wx, EntsAt wx (.slice a n c) l → Calls Try.prog 16 #[.slice a n c] wx fun e w' => ∃ g cap, e = .returned (.slice (some ⟨g, 0, none⟩) (n + 3) cap) ∧ w'.ownsRow wx.heap.size 27 4 (.slice (some ⟨g, 0, none⟩) (n + 3) cap) (n + 3) (ecs (lentE l 3)) ∧ Below wx.heap.size wx w') := fun wx h => lentEntries_any wx a c n l h hn hno (by omega)
  have FA : Hid (∀ wx g cap, EntsAt wx (.slice (some ⟨g, 0, none⟩) n cap) l → Calls Try.prog 10 #[.slice (some ⟨g, 0, none⟩) n cap, str key, .int .i64 seq] wx fun e w' => e = .returned (foundV (l.find? (visP key seq))) ∧ Below wx.heap.size wx w') := fun wx g cap h => by
    have := find_any wx (some ⟨g, 0, none⟩) cap n l h hn (by omega) hk hu key seq
    rw [find_vis key seq l hu] at this
    exact this
  have RF : Hid (∀ wx, EntsAt wx (.slice a n c) l → Calls Try.prog 29 #[.slice a n c, str key, .int .i64 seq] wx fun e w' => e = .returned (foundV (l.find? (visP key seq))) ∧ Below wx.heap.size wx w') := fun wx h => rfind_any wx a c n l h hn (by omega) key seq
  have VS : Hid (∀ wx g cap, n ≤ cap → EntsAt wx (.slice (some ⟨g, 0, none⟩) n cap) l → Calls Try.prog 30 #[.slice (some ⟨g, 0, none⟩) n cap, .agg #[str f, str t], .int .i64 seq] wx fun e w' => ∃ v, e = .returned v ∧ w'.ownsRow wx.heap.size 27 4 v (Mm.told seq (Mm.spanL f t l)).length (ecs (Mm.told seq (Mm.spanL f t l))) ∧ Below wx.heap.size wx w') := fun wx g cap hc h => visible_any wx (some ⟨g, 0, none⟩) cap n l h hn (by omega) hc hk hu f t seq
  have RS : Hid (∀ wx, EntsAt wx (.slice a n c) l → Calls Try.prog 31 #[.slice a n c, .agg #[str f, str t], .int .i64 seq] wx fun e w' => ∃ v, e = .returned v ∧ EntsAt w' v (Mm.told seq (Mm.spanL f t l)) ∧ Below wx.heap.size wx w') := fun wx h => rscan_any wx a c n l h hn (by omega) f t seq
  have KE : Hid (∀ wx v, EntsAt wx (.slice a n c) l → EntsAt wx v (lentE l 3) → Calls Try.prog 24 #[v, .slice a n c] wx fun e w' => e = .returned (.bool true) ∧ Below wx.heap.size wx w') := fun wx v h hv => keptEntries_any wx a c n l h hn hno (by omega) v hv
  have hTl : (Mm.told seq (Mm.spanL f t l)).length ≤ 70 := by
    have h1 := Mm.told_len seq (Mm.spanL f t l)
    have h2 : (Mm.spanL f t l).length ≤ l.length := List.length_filter_le _ _
    omega
  have hTk : ∀ x ∈ Mm.told seq (Mm.spanL f t l), x.key.length ≤ 1000000 := fun x hx => by
    have h1 := ((Mm.told_ok seq (Mm.spanL f t l) (List.Pairwise.sublist List.filter_sublist hu)).mem x hx).1
    exact (hk x (List.mem_filter.1 h1).1).1
  have SE : Hid (∀ wx u u2, EntsAt wx u (Mm.told seq (Mm.spanL f t l)) → EntsAt wx u2 (Mm.told seq (Mm.spanL f t l)) → Calls Try.prog 11 #[u, u2] wx fun e w' => e = .returned (.bool true) ∧ Below wx.heap.size wx w') := fun wx u u2 h1 h2 => samee_any wx u u2 _ h1 h2 (by omega)
  have AP : Hid (∀ (wx : World) (base B gf cf : Nat) (v : Value), wx.ownsRow base 27 4 v (Mm.told seq (Mm.spanL f t l)).length (ecs (Mm.told seq (Mm.spanL f t l))) → wx.cell? ⟨B, 0, none⟩ = some (.slice (some ⟨gf, 0, none⟩) (n + 3) cf) → EntsAt wx (.slice (some ⟨gf, 0, none⟩) (n + 3) cf) (lentE l 3) → v.ownBlock ≠ some B → v.ownBlock ≠ some gf → base ≤ wx.heap.size → Calls Try.prog 27 #[v, .slice (some ⟨B, 0, none⟩) 1 1] wx fun e w' => e = .returned (.bool true) ∧ Below base wx w') := fun wx base B gf cf v o hB hL h1 h2 hb => apartE_one wx base B gf (n + 3) cf _ v _ (lentE l 3) o rfl hB hL (by rw [lentE_len]; omega) (by omega) (by omega) h1 h2 hTk hb
  have LF : Hid (∀ (wx : World) (g m cap cap' : Nat), EntsAt wx (.slice (some ⟨g, 0, none⟩) m cap) (lentE l 3) → EntsAt wx (.slice (some ⟨g, 0, none⟩) n cap') l) := fun wx g m cap cap' h => by
    rw [hn]
    exact ents_front h
  have OL : Hid (∀ (wx : World) (base g cap : Nat), wx.ownsRow base 27 4 (.slice (some ⟨g, 0, none⟩) (n + 3) cap) (n + 3) (ecs (lentE l 3)) → EntsAt wx (.slice (some ⟨g, 0, none⟩) (n + 3) cap) (lentE l 3) ∧ n + 3 ≤ cap) := fun wx base g cap h => by
    refine ⟨?_, ?_⟩
    · have e : n + 3 = (lentE l 3).length := by rw [lentE_len, hn]
      rw [e] at h ⊢
      exact EntsAt.own h
    · rcases h.2 with ⟨e, _⟩ | ⟨g', cap', cur, e, _, _, hnc, _⟩
      · cases e
      · simp only [Value.slice.injEq] at e; omega
  clear hi0 hs hat hok hn hsm hk hio hu hlen hno hTl hTk
  generalize Mm.told seq (Mm.spanL f t l) = T at *
  generalize l.find? (visP key seq) = o at *
  have L0 : Hid (∀ wx, Below W.heap.size W wx → EntsAt wx (.slice a n c) l) := fun wx hx => HA.out.later hx
  have TT : Hid (∀ wx, Below W.heap.size W wx → wx.cell? ⟨w.heap.size, 0, none⟩ = some (str f) ∧ wx.cell? ⟨w.heap.size, 1, none⟩ = some (str t)) := fun wx hx => ⟨keepC hx (Joins.cell_of_block HT.out 0), keepC hx (Joins.cell_of_block HT.out 1)⟩
  clear HA HT
  obtain ⟨E, ok, he⟩ : ∃ E ok, foundV o = .tuple #[entV E, .bool ok] := by
    cases o with
    | none => exact ⟨_, _, rfl⟩
    | some x => exact ⟨_, _, rfl⟩
  rw [he] at FA RF
  clear he
  obtain ⟨K, V, Q, D⟩ := E
  go_enter Try.func5, Try.ntmps5
  go_wp2_with (first
    | (go_at_call 14; refine LV.out.mono ?_; rintro r w1 ⟨rfl, b1⟩; clear LV)
    | (go_at_call 15; refine (SM.out _ b1).mono ?_; rintro r w2 ⟨rfl, b2⟩; have B2 := b1.trans (b2.mono b1.size); clear SM)
    | (go_at_call 28; refine (IO.out _ B2).mono ?_; rintro r w3 ⟨rfl, b3⟩; have B3 := B2.trans (b3.mono B2.size); clear IO)
    | (go_at_call 16; refine (LE.out _ (L0.out _ B3)).mono ?_; rintro r w4 ⟨g4, cap4, rfl, o4, b4⟩; have B4 := B3.trans (b4.mono B3.size); obtain ⟨E4, hc4⟩ := OL.out _ _ _ _ o4; have hg4 : g4 < w4.heap.size := (o4.lt g4 rfl).2; have c1 : (n : Int) ≤ (cap4 : Int) := (by omega); have c2 : ¬ cap4 = 0 := (by omega); have c3 : (0 : Int) ≤ (n : Int) := (by omega); clear LE o4 b1 b2 b3)
    | (go_at_call 10; refine (FA.out _ _ _ (LF.out _ _ _ _ _ E4)).mono ?_; rintro r w5 ⟨rfl, b5⟩; have B5 := B4.trans (b5.mono B4.size); clear FA)
    | (go_at_call 29; refine (RF.out _ (L0.out _ (B5.alloc B5.size _))).mono ?_; rintro r w6 ⟨rfl, b6⟩; clear RF))
  obtain ⟨w7, hw7⟩ : ∃ w7, w7 = w6.alloc (.cells #[str K, str V, .int .i64 Q, .bool D] 27) := ⟨_, rfl⟩
  have B6 := (B5.alloc B5.size (.cells #[str K, str V, .int .i64 Q, .bool D] 27)).trans (b6.mono (B5.alloc B5.size _).size)
  have b7 : Below w6.heap.size w6 w7 := by rw [hw7]; exact (Below.refl _ _).alloc (Nat.le_refl _) _
  have B7 : Below W.heap.size W w7 := B6.trans (b7.mono B6.size)
  have b57 : Below w5.heap.size w5 w7 := ((Below.refl _ _).alloc (Nat.le_refl _) (.cells #[str K, str V, .int .i64 Q, .bool D] 27)).trans ((b6.trans (b7.mono b6.size)).mono (by simp))
  have b47 : Below w4.heap.size w4 w7 := b5.trans (b57.mono b5.size)
  have Y5 := hide (keepB (b6.trans (b7.mono b6.size)) (World.alloc_heap_new w5 (.cells #[str K, str V, .int .i64 Q, .bool D] 27)))
  have Y6 : Hid (w7.heap[w6.heap.size]? = some (.cells #[str K, str V, .int .i64 Q, .bool D] 27 (0, 0))) := by show _ = _; rw [hw7]; exact World.alloc_heap_new w6 _
  have E7 := hide (E4.later b47)
  have hg7 : g4 < w7.heap.size := Nat.lt_of_lt_of_le hg4 b47.size
  have E7d := hide (LF.out _ _ _ _ cap4 (E7.out.later (Below.refl _ _).drew))
  have P0 := TT.out w7.drew B7.drew
  have hcn : n ≤ cap4 := by omega
  rw [← hw7]
  clear hw7 B6 b7 b57 b47 E4 hg4 B5 b5 b6 B4 b4 B3 B2
  go_region_held3 (fun wx => wx.cell? ⟨w.heap.size, 0, none⟩ = some (str f) ∧ wx.cell? ⟨w.heap.size, 1, none⟩ = some (str t))
    (first | exact P0 | exact P1)
    (first
      | (go_at_call 30; refine (VS.out _ _ _ hcn E7d.out).mono ?_; rintro e w8 ⟨v8, rfl, o8, b8⟩; have B8 := B7.drew.trans (b8.mono B7.drew.size); have P1 := TT.out _ B8))
  have b78 : Below w7.heap.size w7 w8 := (Below.refl _ _).drew.trans b8
  have E8 := hide (E7.out.later b78)
  obtain ⟨p0, p1, p2, p3, _⟩ := slot4 (show w8.heap[w5.heap.size]? = some (eO ⟨K, V, Q, D⟩) from keepB b78 Y5.out)
  obtain ⟨r0, r1, r2, r3, _⟩ := slot4 (show w8.heap[w6.heap.size]? = some (eO ⟨K, V, Q, D⟩) from keepB b78 Y6.out)
  obtain ⟨s0, s1⟩ := P1
  have O8 := hide o8
  have hb8 : w7.heap.size ≤ w8.heap.size := b78.size
  have hdz : w7.drew.heap.size = w7.heap.size := rfl
  rw [hdz] at O8
  have T8 := hide (EntsAt.own o8)
  clear o8 hdz P0 VS E7d E7 Y5 Y6 b8 b78
  go_wp2_with (first
    | (go_at_call 31; refine (RS.out _ (L0.out _ B8)).mono ?_; rintro r w9 ⟨v9, rfl, t9, b9⟩; have B9 := B8.trans (b9.mono B8.size); have T9 := hide t9; clear RS t9)
    | (go_at_call 11; refine (SE.out _ _ _ (T8.out.later b9) T9.out).mono ?_; rintro r w10 ⟨rfl, b10⟩; have B10 := B9.trans (b10.mono B9.size); have b80 := b9.trans (b10.mono b9.size); clear SE)
    | (go_at_call 24; refine (KE.out _ _ (L0.out _ B10) (E8.out.later b80)).mono ?_; rintro r w11 ⟨rfl, b11⟩; have B11 := B10.trans (b11.mono B10.size); have b81 := b80.trans (b11.mono b80.size); clear KE))
  refine (AP.out _ w7.heap.size w11.heap.size g4 cap4 v8 ?_ ?_ ?_ ?_ ?_ ?_).mono ?_
  · exact own_after O8.out (b81.alloc b81.size _)
  · exact Joins.cell_of_block (World.alloc_heap_new w11 _) 0
  · exact E8.out.later (b81.alloc b81.size _)
  · intro e; have h1 := (O8.out.lt _ e).2; have h2 := b81.size; omega
  · intro e; have h1 := (O8.out.lt _ e).1; omega
  · have h2 := b81.size; simp; omega
  rintro r w12 ⟨rfl, b12⟩
  have B12 := (B11.alloc B11.size _).trans (b12.mono B7.size)
  go_wp2_with (fail)
  go_ret
  exact ⟨rfl, HB.out.trans (B12.mono HB.out.size)⟩
end Go.Proofs.Ytmkchjgckmdmcaa.blockAsks
