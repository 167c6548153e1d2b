/-
  Lists are merged and folded as the document says: the walk.
-/
import Derived.Test.YtbdgdigpnfpnhaaBFoldsS
import Derived.Test.YtbdgdigpnfpnhaaBMgWalk
namespace Go.Proofs.Ytbdgdigpnfpnhaa.Q.blockFolds
open Go.RowKit
open Go.Proofs.Ytbdgdigpnfpnhaa.Q

theorem LLs_grownO {w w' : World} {vs : List Value} {ls : List (List Mm.Ent)} {r : Option Nat} (h : LLs w vs ls) (hg : w.grownBy w' r) (ha : Apt vs (fun b => r ≠ some b)) : LLs w' vs ls :=
  ⟨h.len, fun k h1 h2 => by
    obtain ⟨a, c, e, h3, h4, h5⟩ := h.at' k h1 h2
    refine ⟨a, c, e, h3, h4, ?_⟩
    rcases Nat.eq_zero_or_pos ls[k].length with h0 | h0
    · exact ⟨⟨a, c, rfl, fun hn => absurd (List.eq_nil_of_length_eq_zero h0) hn⟩⟩
    · obtain ⟨b, off, rfl⟩ := h5.some h0
      exact ents_grownO h5 hg (ha _ (List.getElem_mem h2) b off _ _ e)⟩
theorem ints_front {w : World} {ad : Addr} {n k c : Nat} {l m : List Int} (h : IntsAt w (.slice (some ad) k c) (l ++ m)) (hn : n = l.length) (c' : Nat) : IntsAt w (.slice (some ad) n c') l := by
  obtain ⟨a0, cap, e, h0, hf⟩ := h
  simp only [Value.slice.injEq] at e
  obtain ⟨rfl, _, rfl⟩ := e
  refine ⟨some ad, c', by rw [hn], (fun e => by cases e), fun hl => ?_⟩
  obtain ⟨b, off, e, hc⟩ := hf (by intro e; exact hl (List.append_eq_nil_iff.1 e).1)
  refine ⟨b, off, e, fun j hj => ?_⟩
  have := hc j (by rw [List.length_append]; omega)
  rw [List.getElem_append_left hj] at this
  exact this
theorem cap_of {w : World} {base e size n g c : Nat} {xs : List Value} (h : w.ownsRow base e size (.slice (some ⟨g, 0, none⟩) n c) n xs) : n ≤ c ∧ c ≤ 9223372036854775807 := by
  rcases h.2 with ⟨e, _⟩ | ⟨g', cap', cur, e, _, _, h3, h4, _⟩
  · cases e
  · simp only [Value.slice.injEq] at e; unfold maxLen at h4; omega

/-- The last call: what was folded stands apart from what was lent and from what was merged. -/
theorem apart_last (w : World) (ls : List (List Mm.Ent)) (us : List Value) (va : Option Addr) (n cp : Nat) (hn : n = ls.length) (hn12 : n ≤ 12) (hls : ∀ x ∈ ls, x.length ≤ 70) (A F : List Mm.Ent) (AL FL : Nat) (hAL : AL = A.length) (hFL : FL = F.length) (hA8 : AL ≤ 840) (hF8 : FL ≤ 840) (hk : ∀ x ∈ F, x.key.length ≤ 1000000)
    (wr : World) (bA bF : Nat) (M : Ln w ls us va n cp wr) (v2 : Option Addr) (c2 : Nat) (OA : wr.ownsRow bA 38 4 (.slice v2 AL c2) AL (ecs A)) (x5 : Option Addr) (y5 : Nat) (OF : wr.ownsRow bF 38 4 (.slice x5 FL y5) FL (ecs F))
    (hL : ∀ g, (Value.slice va n cp).ownBlock = some g → g < bA) (hU : Apt us (· < bF)) (hAF : ∀ g, (Value.slice v2 AL c2).ownBlock = some g → g < bF) (hab : bA ≤ bF) (hbF : bF ≤ wr.heap.size)
    (w5 : World) (g5 cap5 : Nat) (o5 : w5.ownsRow w.heap.size 23 1 (.slice (some ⟨g5, 0, none⟩) (n + 1) cap5) (n + 1) (us ++ [.slice v2 AL c2])) (gr : (wr.alloc (.cells #[.slice v2 AL c2] 23)).grownBy w5 (Value.slice va n cp).ownBlock) (hat : (Value.slice va n cp).ownBlock = some g5 ∨ g5 = (wr.alloc (.cells #[.slice v2 AL c2] 23)).heap.size) :
    Calls Try.prog 23 #[.slice x5 FL y5, .slice (some ⟨g5, 0, none⟩) (n + 1) cap5] w5 fun e w' => e = .returned (.bool true) ∧ Below bF w5 w' := by
  have bW : Below wr.heap.size wr (wr.alloc (.cells #[.slice v2 AL c2] 23)) := (Below.refl _ _).alloc (Nat.le_refl _) _
  have hs5 : (wr.alloc (.cells #[.slice v2 AL c2] 23)).heap.size ≤ w5.heap.size := gr.size
  have hsz : (wr.alloc (.cells #[.slice v2 AL c2] 23)).heap.size = wr.heap.size + 1 := by simp
  have noL : ∀ g, bA ≤ g → (Value.slice va n cp).ownBlock ≠ some g := fun g hg e => by have := hL g e; omega
  have oF5 : w5.ownsRow bF 38 4 (.slice x5 FL y5) FL (ecs F) := by
    refine (own_laterV OF bW).kept gr ?_
    cases hb : (Value.slice x5 FL y5).ownBlock with
    | none => exact .inl rfl
    | some gF => exact .inr (fun e => noL gF (by have := (OF.lt gF hb).1; omega) e.symm)
  have oA5 : w5.ownsRow bA 38 4 (.slice v2 AL c2) AL (ecs A) := by
    refine (own_laterV OA bW).kept gr ?_
    cases hb : (Value.slice v2 AL c2).ownBlock with
    | none => exact .inl rfl
    | some gA => exact .inr (fun e => noL gA (OA.lt gA hb).1 e.symm)
  have l5 : LLs w5 us ls := by
    refine LLs_grownO ((M.lls hn.symm).later bW) gr (fun v hv b off m c e => ?_)
    obtain ⟨k, hk', rfl⟩ := List.mem_iff_getElem.1 hv
    obtain ⟨g, cap, e2, _, _, _, _, h7⟩ := M.ent k hk' (by have := M.len; omega)
    rw [e2] at e
    simp only [Value.slice.injEq, Option.some.injEq, Addr.mk.injEq] at e
    rw [← e.1.1]
    exact h7
  have hcA : AL ≤ c2 ∧ c2 ≤ 9223372036854775807 := by
    rcases OA.2 with ⟨e, h0⟩ | ⟨g', cap', cur, e, _, _, h3, h4, _⟩
    · simp only [Value.slice.injEq] at e; omega
    · simp only [Value.slice.injEq] at e; unfold maxLen at h4; omega
  have hv : LLs w5 (us ++ [.slice v2 AL c2]) (ls ++ [A]) := l5.snoc _ _ ⟨v2, c2, by rw [hAL], by omega, hcA.2, by rw [hAL] at oA5; exact EntsAt.own oA5⟩
  refine apartE_many w5 bF g5 (n + 1) cap5 FL _ F (us ++ [.slice v2 AL c2]) (ls ++ [A]) oF5 hFL (fun k hk' => o5.cellAt k (by omega)) hv (by rw [List.length_append, hn]; rfl) ?_ ?_ (by omega) (by omega) ?_ ?_ hk (by omega)
  · intro v hv' m c e
    rcases List.mem_append.1 hv' with h | h
    · obtain ⟨k, hk', rfl⟩ := List.mem_iff_getElem.1 h
      obtain ⟨g, cap, e2, _⟩ := M.ent k hk' (by have := M.len; omega)
      rw [e2] at e
      simp only [Value.slice.injEq] at e
      cases e.1
    · rw [List.mem_singleton.1 h] at e
      simp only [Value.slice.injEq] at e
      rcases OA.2 with ⟨e2, h0⟩ | ⟨g', cap', cur, e2, _⟩
      · simp only [Value.slice.injEq] at e2; omega
      · simp only [Value.slice.injEq] at e2
        rw [e.1] at e2
        cases e2.1
  · intro x hx
    rcases List.mem_append.1 hx with h | h
    · have := hls x h; omega
    · rw [List.mem_singleton.1 h]; omega
  · intro e
    have h1 := OF.lt g5 e
    rcases hat with h | h
    · have := hL g5 h; omega
    · omega
  · intro g hg v hv' b off m c e
    have h1 := OF.lt g hg
    show b ≠ g
    rcases List.mem_append.1 hv' with h | h
    · have := hU v h b off m c e
      have : b < bF := this
      omega
    · rw [List.mem_singleton.1 h] at e
      simp only [Value.slice.injEq] at e
      rcases OA.2 with ⟨e2, h0⟩ | ⟨g', cap', cur, e2, _⟩
      · simp only [Value.slice.injEq] at e2
        rw [e.1] at e2
        cases e2.1
      · simp only [Value.slice.injEq] at e2
        rw [e.1, Option.some.injEq, Addr.mk.injEq] at e2
        have := hAF b (by rw [e.1, e2.1.2.1]; rfl)
        omega

set_option maxRecDepth 100000 in
set_option maxHeartbeats 8000000 in
theorem walk (w : World) (a : Option Addr) (n c : Nat) (vs : List Value) (ls : List (List Mm.Ent)) (hn : n = ls.length) (hcell : ls ≠ [] → ∃ b off, a = some ⟨b, off, none⟩ ∧ ∀ k (h : k < vs.length), w.cell? ⟨b, off + k, none⟩ = some vs[k]) (hL : LLs w vs ls) (hno : ∀ v ∈ vs, ∀ n c, v = .slice none n c → c = 0) (hl : n ≤ maxLen) (hs : ∀ x ∈ ls, x.length ≤ maxLen ∧ ∀ y ∈ x, y.key.length ≤ maxLen ∧ y.value.length ≤ maxLen)
    (ka : Option Addr) (kn kc : Nat) (keep : List Int) (hkeep : IntsAt w (.slice ka kn kc) keep) (hkn : kn = keep.length) (hkl : kn ≤ maxLen) (last : Bool) :
    Calls Try.prog 4 #[.slice a n c, .slice ka kn kc, .bool last] w fun e w' => e = .returned (.bool true) ∧ Below w.heap.size w w' := by
  have LV := hide (blives_any w)
  have hl' : n ≤ 9223372036854775807 := by unfold maxLen at hl; omega
  have hkl' : kn ≤ 9223372036854775807 := by unfold maxLen at hkl; omega
  by_cases h12 : n > 12
  · have g12 : (n : Int) > 12 := by omega
    clear hn hcell hL hno hs hkeep hkn h12 hl hkl
    go_enter Try.func4, Try.ntmps4
    go_wp2_with (go_at_call 24; refine LV.out.mono ?_; rintro e w1 ⟨rfl, b1⟩; clear LV)
    go_ret
    exact ⟨rfl, b1⟩
  have g12 : ¬ (n : Int) > 12 := by omega
  by_cases h70 : kn > 70
  · have g70 : (kn : Int) > 70 := by omega
    clear hn hcell hL hno hs hkeep hkn h12 hl hkl h70
    go_enter Try.func4, Try.ntmps4
    go_wp2_with (go_at_call 24; refine LV.out.mono ?_; rintro e w1 ⟨rfl, b1⟩; clear LV)
    go_ret
    exact ⟨rfl, b1⟩
  have g70 : ¬ (kn : Int) > 70 := by omega
  have n12 : n ≤ 12 := by omega
  have k70 : kn ≤ 70 := by omega
  have HN : Hid (n = ls.length) := hn
  have HKN : Hid (kn = keep.length) := hkn
  have HKE := hide hkeep
  have HL := hide hL
  have HC : Hid (ls ≠ [] → ∃ b off, a = some ⟨b, off, none⟩ ∧ ∀ k (h : k < vs.length), w.cell? ⟨b, off + k, none⟩ = some vs[k]) := hcell
  have HS := hide hs
  have ROW : Hid (∀ j (hj : j < ls.length), ∃ b off aj cj, a = some ⟨b, off, none⟩ ∧ EntsAt w (.slice aj ls[j].length cj) ls[j] ∧ (aj = none → cj = 0) ∧ ∀ wx, Below w.heap.size w wx → wx.cell? ⟨b, off + j, none⟩ = some (.slice aj ls[j].length cj)) := fun j hj => by
    obtain ⟨b, off, ha, hat⟩ := hcell (fun h0 => by rw [h0] at hj; cases hj)
    have jv : j < vs.length := by rw [hL.len]; exact hj
    obtain ⟨aj, cj, ej, _, _, EJ⟩ := hL.at' j hj jv
    refine ⟨b, off, aj, cj, ha, EJ, fun e => hno _ (List.getElem_mem jv) _ _ (by rw [ej, e]), fun wx hw => ?_⟩
    rw [← ej]
    exact keepC hw (hat j jv)
  clear hn hcell hL hno hs hkeep hkn h12 hl hkl h70
  go_enter Try.func4, Try.ntmps4
  go_wp2_with (go_at_call 24; refine LV.out.mono ?_; rintro e w1 ⟨rfl, b1⟩; clear LV)
  go_loopw [7, 8] (fun x i wr => ∃ (j cp : Nat) (va : Option Addr) (us : List Value), j ≤ n ∧ i = .int .i64 j ∧ x = .slice va j cp ∧ Hid (Ln w ls us va j cp wr ∧ ∀ x ∈ ls.take j, smallB x = true)) (fun _ i _ => n - (intOf i).toNat)
  case atStart => exact ⟨0, 0, none, [], Nat.zero_le _, rfl, rfl, Ln.nil w _ ls b1, fun x hx => by simp at hx⟩
  case round =>
    clear b1
    obtain ⟨j, cp, va, us, hj, rfl, rfl, HF⟩ := hrel
    by_cases hlt : j < n
    · have jl : j < ls.length := by have := HN.out; omega
      obtain ⟨b, off, aj, cj, rfl, EJ, NJ, RJ⟩ := ROW.out j jl
      have bx : Below w.heap.size w wr := HF.out.1.bel
      have dj := RJ wr bx
      obtain ⟨nj, hnj⟩ : ∃ nj, nj = ls[j].length := ⟨_, rfl⟩
      have SM : Hid (Calls Try.prog 25 #[.slice aj nj cj] wr fun e w' => e = .returned (.bool (smallB ls[j])) ∧ Below wr.heap.size wr w') := by
        rw [hnj]
        have h1 := HS.out _ (List.getElem_mem jl)
        exact small_any wr aj cj _ ls[j] (EJ.later bx) rfl h1.1 h1.2 _ rfl
      rw [← hnj] at dj
      have jn : (j : Int) < (n : Int) := by omega
      have j0 : (0 : Int) ≤ (j : Int) := by omega
      cases hsm : smallB ls[j]
      · rw [hsm] at SM
        clear hsm hnj RJ EJ NJ jl HF
        go_wp2_with (go_at_call 25; refine SM.out.mono ?_; rintro e w2 ⟨rfl, b2⟩; clear SM)
        go_ret
        exact ⟨rfl, bx.trans (b2.mono bx.size)⟩
      · rw [hsm] at SM
        have hn70 : nj ≤ 70 := by rw [hnj]; exact (blockMerge.small_facts hsm).1
        have RJ' : Hid (∀ wx, Below w.heap.size w wx → wx.cell? ⟨b, off + j, none⟩ = some (.slice aj nj cj)) := by rw [hnj]; exact RJ
        have LE : Hid (∀ wx, Below w.heap.size w wx → Calls Try.prog 26 #[.slice aj nj cj] wx fun e w' => ∃ g cap, e = .returned (.slice (some ⟨g, 0, none⟩) (nj + 3) cap) ∧ Hid (EntsAt w' (.slice (some ⟨g, 0, none⟩) (nj + 3) cap) (lentE ls[j] 3)) ∧ nj + 3 ≤ cap ∧ cap ≤ 9223372036854775807 ∧ wx.heap.size ≤ g ∧ g < w'.heap.size ∧ Below wx.heap.size wx w') := fun wx hx => by
          refine (lentEntries_any wx aj cj nj ls[j] (by rw [hnj]; exact EJ.later hx) hnj NJ (by omega)).mono ?_
          rintro e w' ⟨g, cap, rfl, ho, hb⟩
          have hcc := cap_of ho
          refine ⟨g, cap, rfl, ?_, hcc.1, hcc.2, (ho.lt g rfl).1, (ho.lt g rfl).2, hb⟩
          have hll : nj + 3 = (lentE ls[j] 3).length := by rw [lentE_len, hnj]
          have ho' := ho
          rw [hll] at ho' ⊢
          exact EntsAt.own ho'
        have SN : Hid (∀ (W0 W1 w2 : World) (g cap g2 cap2 : Nat), Below wr.heap.size wr W0 → Below W0.heap.size W0 W1 → nj + 3 ≤ cap → cap ≤ 9223372036854775807 → EntsAt W1 (.slice (some ⟨g, 0, none⟩) (nj + 3) cap) (lentE ls[j] 3) → W0.heap.size ≤ g → g < W1.heap.size → w2.ownsRow w.heap.size 23 1 (.slice (some ⟨g2, 0, none⟩) (j + 1) cap2) (j + 1) (us ++ [.slice (some ⟨g, 0, none⟩) nj cap]) → (W1.alloc (.cells #[.slice (some ⟨g, 0, none⟩) nj cap] 23)).grownBy w2 (Value.slice va j cp).ownBlock → ((Value.slice va j cp).ownBlock = some g2 ∨ g2 = (W1.alloc (.cells #[.slice (some ⟨g, 0, none⟩) nj cap] 23)).heap.size) →
            Hid (Ln w ls (us ++ [.slice (some ⟨g, 0, none⟩) nj cap]) (some ⟨g2, 0, none⟩) (j + 1) cap2 w2 ∧ ∀ x ∈ ls.take (j + 1), smallB x = true)) := fun W0 W1 w2 g cap g2 cap2 b0 b1 hc hc2 E1 hg hg2 o2 gr hat => by
          rw [hnj] at hc E1 o2 gr hat ⊢
          refine ⟨HF.out.1.snoc jl (b0.trans (b1.mono b0.size)) hc hc2 E1 (Nat.le_trans b0.size hg) hg2 ((Below.refl _ _).alloc (Nat.le_refl _) _) o2 gr hat, fun x hx => ?_⟩
          rw [List.take_succ_eq_append_getElem jl] at hx
          rcases List.mem_append.mp hx with h | h
          · exact HF.out.2 x h
          · rw [List.mem_singleton.mp h]; exact hsm
        have OU := hide HF.out.1.row
        have ZW := bx.size
        have y0 : (0 : Int) ≤ (nj : Int) := by omega
        clear hsm RJ EJ NJ HF
        generalize ls[j] = LJ at *
        clear hnj jl
        go_wp2_with (go_at_call 25; refine SM.out.mono ?_; rintro e w2 ⟨rfl, b2⟩; clear SM)
        have B2 : Below w.heap.size w w2.drew := (bx.trans (b2.mono bx.size)).drew
        have C2 : Below wr.heap.size wr w2.drew := b2.drew
        have P1 := RJ'.out w2.drew B2
        clear b2 dj
        go_region_held3 (fun wx => wx.cell? ⟨b, off + j, none⟩ = some (.slice aj nj cj))
          (first | exact P1 | exact P2 | exact P3 | exact P4)
          (first
            | (go_at_call 26; refine (LE.out _ B2).mono ?_; rintro e w3 ⟨g3, c3, rfl, L3, hc3, hc4, hg3, hg4, b3⟩; have B3 := B2.trans (b3.mono B2.size); have P2 := RJ'.out w3 B3; have P3 := RJ'.out _ (B3.alloc B3.size (.cells #[.slice (some ⟨g3, 0, none⟩) nj c3] 23)); have y1 : (nj : Int) ≤ (c3 : Int) := (by omega); have OU3 := hide ((own_laterV (own_laterV OU.out C2) b3).alloc (.cells #[.slice (some ⟨g3, 0, none⟩) nj c3] 23)); have ZZ : Hid (w.heap.size ≤ (w3.alloc (.cells #[.slice (some ⟨g3, 0, none⟩) nj c3] 23)).heap.size) := (B3.alloc B3.size _).size; clear LE)
            | (refine step_app_list _ (by rfl) _ _ (by rfl) w.heap.size _ us (.slice (some ⟨g3, 0, none⟩) nj c3) j rfl (by rfl) OU3.out w3.heap.size (by rfl) (cell_of_row _ _ _ _ _ _ (heap_alloc_new w3 _)) (by omega) ZZ.out ?_; intro g5 cap5 w5 o5 gr5 hat5; have M5 := SN.out _ w3 w5 g3 c3 g5 cap5 C2 b3 hc3 hc4 L3.out hg3 hg4 o5 gr5 hat5; have P4 := RJ'.out w5 M5.out.1.bel; clear o5 gr5 hat5))
        go_wp2_with (fail)
        exact ⟨⟨j + 1, cap5, _, _, by omega, by go_num, rfl, M5⟩, by simp [intOf]; omega⟩
    · have ej : j = n := by omega
      subst ej
      have jn : ¬ (j : Int) < (j : Int) := by omega
      have M0 := hide HF.out.1
      have SMA : Hid (∀ x ∈ ls, smallB x = true) := by
        have h := HF.out.2
        rw [List.take_of_length_le (by have := HN.out; omega)] at h
        exact h
      have S70 : Hid (∀ x ∈ ls, x.length ≤ 70 ∧ ∀ y ∈ x, y.key.length ≤ 600 ∧ y.value.length ≤ 600) := fun x hx => blockMerge.small_facts (SMA.out x hx)
      have ht840 : Bk.total ls ≤ 840 := by
        have := blockMerge.total_le ls fun x hx => (S70.out x hx).1
        have := HN.out
        omega
      obtain ⟨E, hE⟩ : ∃ E, E = Bk.mergeE ls := ⟨_, rfl⟩
      obtain ⟨A, hA⟩ : ∃ A, A = Bk.mergeL ls := ⟨_, rfl⟩
      obtain ⟨F, hF⟩ : ∃ F, F = foldF A keep last := ⟨_, rfl⟩
      obtain ⟨AL, hAL⟩ : ∃ AL, AL = A.length := ⟨_, rfl⟩
      obtain ⟨FL, hFL⟩ : ∃ FL, FL = F.length := ⟨_, rfl⟩
      have hA8 : AL ≤ 840 := by rw [hAL, hA]; exact Nat.le_trans (Bk.merge_len ls) ht840
      have hF8 : FL ≤ 840 := by rw [hFL, hF]; have := foldF_len A keep last; omega
      have hAo : Bk.inOrd A = true := by rw [hA]; exact Bk.merge_ord ls
      have hAk : ∀ x ∈ A, x.key.length ≤ 1000000 ∧ x.value.length ≤ 1000000 := fun x hx => by
        rw [hA] at hx
        obtain ⟨l, hl, h⟩ := Bk.merge_mem ls x hx
        have := (S70.out l hl).2 x h
        omega
      have hFk : ∀ x ∈ F, x.key.length ≤ 1000000 := fun x hx => by
        rw [hF] at hx
        exact (hAk x (foldF_mem A keep last x hx)).1
      have LI : Hid (∀ wx, Below w.heap.size w wx → Calls Try.prog 7 #[.slice ka kn kc] wx fun e w' => ∃ g cap, e = .returned (.slice (some ⟨g, 0, none⟩) (kn + 3) cap) ∧ Hid (IntsAt w' (.slice (some ⟨g, 0, none⟩) (kn + 3) cap) (lentI keep 3)) ∧ kn + 3 ≤ cap ∧ Below wx.heap.size wx w') := fun wx hx => by
        refine (lentInts_any wx ka kc kn keep (HKE.out.later hx) HKN.out (by omega)).mono ?_
        rintro e w' ⟨g, cap, rfl, ho, hb⟩
        refine ⟨g, cap, rfl, ?_, (cap_of ho).1, hb⟩
        have hll : kn + 3 = (lentI keep 3).length := by rw [lentI_len, HKN.out]
        have ho' := ho
        rw [hll] at ho' ⊢
        exact ints_own ho'
      have MG : Hid (∀ wx, Ln w ls us va j cp wx → Calls Try.prog 27 #[.slice va j cp] wx fun e w' => ∃ v c', e = .returned (.tuple #[.slice v AL c', .int .i64 E]) ∧ Hid (w'.ownsRow wx.heap.size 38 4 (.slice v AL c') AL (ecs A)) ∧ Below wx.heap.size wx w') := fun wx M => by
        rw [hE, hAL, hA]
        refine (merge_any wx va j cp us ls HN.out (fun h0 => ?_) (M.lls HN.out.symm) (by omega) (fun x hx => ?_) (by omega)).mono ?_
        · have hpos : j ≠ 0 := fun e => h0 (List.eq_nil_of_length_eq_zero (by rw [← HN.out]; exact e))
          obtain ⟨g, cap, hv⟩ := own_someE M.row hpos
          simp only [Value.slice.injEq] at hv
          obtain ⟨rfl, _, rfl⟩ := hv
          refine ⟨g, 0, rfl, fun k hk => ?_⟩
          rw [Nat.zero_add, M.row.cellAt k (by have := M.len; omega), List.getElem?_eq_getElem hk]
        · have := S70.out x hx
          exact ⟨by omega, fun y hy => by have := this.2 y hy; omega⟩
        · rintro e w' ⟨v, rfl, o, b⟩
          obtain ⟨va, ca, rfl⟩ := row_shape o
          exact ⟨va, ca, rfl, o, b⟩
      have RM : Hid (∀ wx, Below w.heap.size w wx → Calls Try.prog 28 #[.slice a j c] wx fun e w' => ∃ v c', e = .returned (.tuple #[.slice v AL c', .int .i64 E]) ∧ Hid (EntsAt w' (.slice v AL c') A) ∧ Below wx.heap.size wx w') := fun wx hx => by
        rw [hE, hAL, hA]
        refine (rmerge_any wx a j c vs ls HN.out (fun h0 => ?_) (HL.out.later hx) (by omega) (fun x hx => ?_) (by omega)).mono ?_
        · obtain ⟨b, off, ha, hat⟩ := HC.out h0
          exact ⟨b, off, ha, fun k hk => keepC hx (hat k hk)⟩
        · have := S70.out x hx
          omega
        · rintro e w' ⟨v, rfl, o, b⟩
          obtain ⟨va, ca, rfl⟩ := row_shape o
          exact ⟨va, ca, rfl, EntsAt.own o, b⟩
      have EO : Hid (∀ wx base v c', wx.ownsRow base 38 4 (.slice v AL c') AL (ecs A) → EntsAt wx (.slice v AL c') A) := fun wx base v c' h => by
        rw [hAL] at h ⊢
        exact EntsAt.own h
      have EOF : Hid (∀ wx base v c', wx.ownsRow base 38 4 (.slice v FL c') FL (ecs F) → EntsAt wx (.slice v FL c') F) := fun wx base v c' h => by
        rw [hFL] at h ⊢
        exact EntsAt.own h
      have SEA : Hid (∀ wx u u2, EntsAt wx u A → EntsAt wx u2 A → Calls Try.prog 20 #[u, u2] wx fun e w' => e = .returned (.bool true) ∧ Below wx.heap.size wx w') := fun wx u u2 h1 h2 => samee_any wx u u2 A h1 h2 (by omega)
      have SEF : Hid (∀ wx u u2, EntsAt wx u F → EntsAt wx u2 F → Calls Try.prog 20 #[u, u2] wx fun e w' => e = .returned (.bool true) ∧ Below wx.heap.size wx w') := fun wx u u2 h1 h2 => samee_any wx u u2 F h1 h2 (by omega)
      have FO : Hid (∀ wx v c' g gc cc, EntsAt wx (.slice v AL c') A → IntsAt wx (.slice (some ⟨g, 0, none⟩) (kn + 3) gc) (lentI keep 3) → Calls Try.prog 29 #[.slice v AL c', .slice (some ⟨g, 0, none⟩) kn cc, .bool last] wx fun e w' => ∃ x y, e = .returned (.slice x FL y) ∧ Hid (w'.ownsRow wx.heap.size 38 4 (.slice x FL y) FL (ecs F)) ∧ Below wx.heap.size wx w') := fun wx v c' g gc cc h1 h2 => by
        refine (fold_any wx v c' AL A h1 hAL (by omega) hAk (some ⟨g, 0, none⟩) cc kn keep (ints_front h2 HKN.out cc) HKN.out (by omega) last).mono ?_
        rintro e w' ⟨v, rfl, o, b⟩
        rw [foldF_is hAo, ← hF, ← hFL] at o
        obtain ⟨va, ca, rfl⟩ := row_shape o
        exact ⟨va, ca, rfl, o, b⟩
      have RFO : Hid (∀ wx v c', Below w.heap.size w wx → EntsAt wx (.slice v AL c') A → Calls Try.prog 30 #[.slice v AL c', .slice ka kn kc, .bool last] wx fun e w' => ∃ x y, e = .returned (.slice x FL y) ∧ Hid (EntsAt w' (.slice x FL y) F) ∧ Below wx.heap.size wx w') := fun wx v c' hx h1 => by
        refine (rfold_any wx v c' AL A h1 hAL (by omega) ka kc kn keep (HKE.out.later hx) HKN.out (by omega) last).mono ?_
        rintro e w' ⟨v, rfl, o, b⟩
        rw [← hF, ← hFL] at o
        obtain ⟨va, ca, rfl⟩ := row_shape o
        exact ⟨va, ca, rfl, EOF.out _ _ _ _ o, b⟩
      have KI : Hid (∀ wx u, Below w.heap.size w wx → IntsAt wx u (lentI keep 3) → Calls Try.prog 10 #[u, .slice ka kn kc] wx fun e w' => e = .returned (.bool true) ∧ Below wx.heap.size wx w') := fun wx u hx hu => keptInts_any wx ka kc kn keep (HKE.out.later hx) HKN.out (by omega) u hu
      have HAL := hide hAL
      have HFL := hide hFL
      have HFK := hide hFk
      have iN : (E != E) = false := by simp
      have k0 : (0 : Int) ≤ (kn : Int) := by omega
      clear HF SMA hE hA hF hAL hFL hAo hAk hFk HL HC HS HKE HKN ht840 hlt hj
      go_wp2_with (first
        | (go_at_call 7; have ta := M0.out; refine (LI.out _ M0.out.bel).mono ?_; rintro e w1 ⟨g1, c1, rfl, I1, hc1, b1⟩; have M1 := hide (M0.out.later b1); have NL : Hid (∀ g, (Value.slice va j cp).ownBlock = some g → g < w1.heap.size) := (fun g e => (M1.out.row.lt g e).2); have k1 : (kn : Int) ≤ (c1 : Int) := (by omega); clear LI M0 b1 ta)
        | (go_at_call 27; have ta := M1.out; refine (MG.out _ M1.out).mono ?_; rintro e w2 ⟨v2, c2, rfl, O2, b2⟩; have z2 := b2.size; have M2 := hide (M1.out.later b2); have I2 := hide (I1.out.later b2); clear MG M1 I1 b2 ta)
        | (go_at_call 28; have ta := M2.out; refine (RM.out _ M2.out.bel).mono ?_; rintro e w3 ⟨v3, c3, rfl, EB3, b3⟩; have z3 := b3.size; have M3 := hide (M2.out.later b3); have I3 := hide (I2.out.later b3); have O3 := hide (own_laterV O2.out b3); clear RM M2 I2 O2 b3 ta)
        | (go_at_call 20; have ta := M3.out; refine (SEA.out _ _ _ (EO.out _ _ _ _ O3.out) EB3.out).mono ?_; rintro e w4 ⟨rfl, b4⟩; have z4 := hide (Nat.le_trans z2 (Nat.le_trans z3 b4.size)); clear z2 z3; have M4 := hide (M3.out.later b4); have I4 := hide (I3.out.later b4); have O4 := hide (own_laterV O3.out b4); have EB4 := hide (EB3.out.later b4); clear M3 I3 O3 EB3 b4 ta))
      have NU : Hid (Apt us (· < w4.heap.size)) := fun v hv b off m c e => by
        obtain ⟨k, hk', rfl⟩ := List.mem_iff_getElem.1 hv
        obtain ⟨g, cap, e2, _, _, _, h6, _⟩ := M4.out.ent k hk' (by have := M4.out.len; have := HN.out; omega)
        rw [e2] at e
        simp only [Value.slice.injEq, Option.some.injEq, Addr.mk.injEq] at e
        rw [← e.1.1]
        exact h6
      have NA : Hid (∀ g, (Value.slice v2 AL c2).ownBlock = some g → g < w4.heap.size) := fun g e => (O4.out.lt g e).2
      have NB : Hid (w1.heap.size ≤ w4.heap.size) := z4.out
      have BW4 : Hid (w.heap.size ≤ w4.heap.size) := M4.out.bel.size
      go_wp2_with (first
        | (go_at_call 29; have ta := M4.out; refine (FO.out _ _ _ _ _ _ (EO.out _ _ _ _ O4.out) I4.out).mono ?_; rintro e w5 ⟨x5, y5, rfl, OF5, b5⟩; have n5 := hide b5.size; have M5 := hide (M4.out.later b5); have I5 := hide (I4.out.later b5); have O5 := hide (own_laterV O4.out b5); have EB5 := hide (EB4.out.later b5); clear FO M4 I4 O4 EB4 ta)
        | (go_at_call 20; have ta := M5.out; refine (SEA.out _ _ _ (EO.out _ _ _ _ O5.out) EB5.out).mono ?_; rintro e w6 ⟨rfl, b6⟩; have n6 := hide (Nat.le_trans n5.out b6.size); clear n5; have M6 := hide (M5.out.later b6); have I6 := hide (I5.out.later b6); have O6 := hide (own_laterV O5.out b6); have EB6 := hide (EB5.out.later b6); have OF6 := hide (own_laterV OF5.out b6); clear SEA M5 I5 O5 EB5 OF5 b6 ta)
        | (go_at_call 30; have ta := M6.out; refine (RFO.out _ _ _ M6.out.bel EB6.out).mono ?_; rintro e w7 ⟨x7, y7, rfl, ER7, b7⟩; have n7 := hide (Nat.le_trans n6.out b7.size); clear n6; have M7 := hide (M6.out.later b7); have I7 := hide (I6.out.later b7); have O7 := hide (own_laterV O6.out b7); have OF7 := hide (own_laterV OF6.out b7); clear RFO M6 I6 O6 EB6 OF6 b7 ta)
        | (go_at_call 20; have ta := M7.out; refine (SEF.out _ _ _ (EOF.out _ _ _ _ OF7.out) ER7.out).mono ?_; rintro e w8 ⟨rfl, b8⟩; have n8 := hide (Nat.le_trans n7.out b8.size); clear n7; have M8 := hide (M7.out.later b8); have I8 := hide (I7.out.later b8); have O8 := hide (own_laterV O7.out b8); have OF8 := hide (own_laterV OF7.out b8); clear SEF M7 I7 O7 ER7 OF7 b8 ta)
        | (go_at_call 10; have ta := M8.out; refine (KI.out _ _ M8.out.bel I8.out).mono ?_; rintro e w9 ⟨rfl, b9⟩; have n9 := hide (Nat.le_trans n8.out b9.size); clear n8; have M9 := hide (M8.out.later b9); have O9 := hide (own_laterV O8.out b9); have OF9 := hide (own_laterV OF8.out b9); clear KI M8 I8 O8 OF8 b9 ta))
      clear b5 k1 hc1 EO EOF iN k0
      go_loopw [15] (fun i wr2 => ∃ q : Nat, q ≤ j ∧ i = .int .i64 (q : Int) ∧ Below w9.heap.size w9 wr2) (fun i _ => j - (intOf i).toNat)
      case atStart => exact ⟨0, Nat.zero_le _, rfl, Below.refl _ _⟩
      case round =>
        obtain ⟨q, hq, rfl, bq⟩ := hrel
        by_cases hqj : q < j
        · have ql : q < ls.length := by have := HN.out; omega
          have qu : q < us.length := by rw [M9.out.len]; exact hqj
          obtain ⟨b, off, aq, cq, rfl, EQ, NQ, RQ⟩ := ROW.out q ql
          obtain ⟨gq, cpq, eu, hcq, hcq2, EL, hgq, _⟩ := M9.out.ent q qu ql
          obtain ⟨gl, cl, hv⟩ := own_someE M9.out.row (by omega)
          simp only [Value.slice.injEq] at hv
          obtain ⟨rfl, _, rfl⟩ := hv
          obtain ⟨nq, hnq⟩ : ∃ nq, nq = ls[q].length := ⟨_, rfl⟩
          have hn70 : nq ≤ 70 := by rw [hnq]; exact (S70.out _ (List.getElem_mem ql)).1
          have PK : Hid (∀ wx, Below w9.heap.size w9 wx → wx.cell? ⟨b, off + q, none⟩ = some (.slice aq nq cq) ∧ wx.cell? ⟨gl, q, none⟩ = some (.slice (some ⟨gq, 0, none⟩) nq cpq)) := fun wx hx => by
            refine ⟨by rw [hnq]; exact RQ wx (M9.out.bel.trans (hx.mono M9.out.bel.size)), ?_⟩
            rw [(own_laterV M9.out.row hx).cellAt q (by omega), List.getElem?_eq_getElem qu, eu, hnq]
          have KE : Hid (∀ wx, Below w9.heap.size w9 wx → Calls Try.prog 31 #[.slice (some ⟨gq, 0, none⟩) (nq + 3) cpq, .slice aq nq cq] wx fun e w' => e = .returned (.bool true) ∧ Below wx.heap.size wx w') := fun wx hx => by
            refine keptEntries_any wx aq cq nq ls[q] (by rw [hnq]; exact EQ.later (M9.out.bel.trans (hx.mono M9.out.bel.size))) hnq NQ (by omega) _ ?_
            rw [hnq]
            exact EL.later hx
          have q1 : (q : Int) < (j : Int) := by omega
          have q0 : (0 : Int) ≤ (q : Int) := by omega
          have r1 : (nq : Int) + 3 ≤ (cpq : Int) := by rw [hnq]; omega
          have r0 : (0 : Int) ≤ (nq : Int) + 3 := by omega
          have r2 : IntKind.i64.wrap ((nq : Int) + 3) = (nq : Int) + 3 := by rw [IntKind.wrap_i64]; omega
          have P0 := PK.out wr.drew bq.drew
          clear hnq RQ EQ NQ eu EL hgq ql qu hcq hcq2
          go_wp2_with (fail)
          go_region_held3 (fun wx => wx.cell? ⟨b, off + q, none⟩ = some (.slice aq nq cq) ∧ wx.cell? ⟨gl, q, none⟩ = some (.slice (some ⟨gq, 0, none⟩) nq cpq))
            (first | exact P0 | exact P1)
            (first
              | (go_at_call 31; refine (KE.out _ bq.drew).mono ?_; rintro e w3 ⟨rfl, b3⟩; have B3 : Below w9.heap.size w9 w3 := bq.drew.trans (b3.mono bq.drew.size); have P1 := PK.out _ B3))
          go_wp2_with (fail)
          exact ⟨⟨q + 1, by omega, by go_num, B3⟩, by simp [intOf]; omega⟩
        · have q1 : ¬ (q : Int) < (j : Int) := by omega
          have MX := hide (M9.out.later bq)
          have OX := hide (own_laterV O9.out bq)
          have OFX := hide (own_laterV OF9.out bq)
          have N4 : Hid (w4.heap.size ≤ wr.heap.size) := Nat.le_trans n9.out bq.size
          have ZZ : Hid (w.heap.size ≤ (wr.alloc (.cells #[.slice v2 AL c2] 23)).heap.size) := Nat.le_trans MX.out.bel.size ((Below.refl _ _).alloc (Nat.le_refl _) _).size
          have AP : Hid (∀ (w5 : World) (g5 cap5 : Nat), w5.ownsRow w.heap.size 23 1 (.slice (some ⟨g5, 0, none⟩) (j + 1) cap5) (j + 1) (us ++ [.slice v2 AL c2]) → (wr.alloc (.cells #[.slice v2 AL c2] 23)).grownBy w5 (Value.slice va j cp).ownBlock → ((Value.slice va j cp).ownBlock = some g5 ∨ g5 = (wr.alloc (.cells #[.slice v2 AL c2] 23)).heap.size) →
              Calls Try.prog 23 #[.slice x5 FL y5, .slice (some ⟨g5, 0, none⟩) (j + 1) cap5] w5 fun e w' => e = .returned (.bool true) ∧ Below w.heap.size w w') := fun w5 g5 cap5 o5 gr hat => by
            refine (apart_last w ls us va j cp HN.out (by omega) (fun x hx => (S70.out x hx).1) A F AL FL HAL.out HFL.out hA8 hF8 HFK.out wr w1.heap.size w4.heap.size MX.out v2 c2 OX.out x5 y5 OFX.out NL.out NU.out NA.out NB.out N4.out w5 g5 cap5 o5 gr hat).mono ?_
            rintro e w' ⟨rfl, b⟩
            have hb5 : Below w.heap.size w w5 := by
              have h1 : Below w.heap.size w (wr.alloc (.cells #[.slice v2 AL c2] 23)) := MX.out.bel.alloc MX.out.bel.size _
              exact h1.grown gr h1.size (fun k e => (MX.out.row.lt k e).1)
            exact ⟨rfl, hb5.trans (b.mono BW4.out)⟩
          have OL := hide (MX.out.row.alloc (.cells #[.slice v2 AL c2] 23))
          clear MX OX OFX M9 O9 OF9 NL NU NA NB N4 BW4
          go_wp2_with (first
            | (at_builtin; refine wpList_app_list2 _ rfl _ _ rfl w.heap.size _ us (.slice v2 AL c2) j rfl rfl OL.out wr.heap.size rfl (cell_of_row _ _ _ _ _ _ (heap_alloc_new wr _)) (by omega) ZZ.out ?_; intro g5 cap5 w5 o5 gr5 hat5; have AQ := hide (AP.out w5 g5 cap5 o5 gr5 hat5); clear AP OL o5 gr5 hat5)
            | (go_at_call 23; refine AQ.out.mono ?_; rintro e w6 ⟨rfl, b6⟩; clear AQ))
          go_ret
          exact ⟨rfl, b6⟩
end Go.Proofs.Ytbdgdigpnfpnhaa.Q.blockFolds
