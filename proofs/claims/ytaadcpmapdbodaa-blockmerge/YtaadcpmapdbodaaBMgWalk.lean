/-
  Merged lists are in order, and have all that was in them: the walk.
-/
import Derived.Test.YtaadcpmapdbodaaBMergeW
import Derived.Test.YtaadcpmapdbodaaBMgF
import Derived.Test.YtaadcpmapdbodaaBAsk
import Derived.Test.YtaadcpmapdbodaaBLives
import Derived.Test.YtaadcpmapdbodaaBSmall
namespace Go.Proofs.Ytaadcpmapdbodaa.blockMerge
open Go.RowKit
open Go.Proofs.Ytaadcpmapdbodaa

theorem small_facts {l : List Mm.Ent} (h : smallB l = true) : l.length ≤ 70 ∧ ∀ y ∈ l, y.key.length ≤ 600 ∧ y.value.length ≤ 600 := by
  unfold smallB at h
  simp only [Bool.and_eq_true, decide_eq_true_eq] at h
  refine ⟨h.2, fun y hy => ?_⟩
  have := List.all_eq_true.1 h.1 y hy
  unfold shortE at this
  simpa using this
theorem total_take (ls : List (List Mm.Ent)) (j : Nat) (h : j < ls.length) : Bk.total (ls.take (j + 1)) = Bk.total (ls.take j) + ls[j].length := by
  unfold Bk.total
  rw [List.take_succ_eq_append_getElem h, List.map_append, List.sum_append]
  simp
theorem total_le (ls : List (List Mm.Ent)) (h : ∀ x ∈ ls, x.length ≤ 70) : Bk.total ls ≤ ls.length * 70 := by
  induction ls with
  | nil => simp [Bk.total]
  | cons x ls ih =>
    have h1 := h x (by simp)
    have h2 := ih fun y hy => h y (by simp [hy])
    rw [Bk.total_cons, List.length_cons]
    omega

set_option maxRecDepth 100000 in
set_option maxHeartbeats 8000000 in
theorem walk (w : World) (a : Option Addr) (n c : Nat) (vs : List Value) (ls : List (List Mm.Ent)) (hn : n = ls.length) (hcell : ls ≠ [] → ∃ b off, a = some ⟨b, off, none⟩ ∧ ∀ k (h : k < vs.length), w.cell? ⟨b, off + k, none⟩ = some vs[k]) (hL : LLs w vs ls) (hl : n ≤ maxLen) (hs : ∀ x ∈ ls, x.length ≤ maxLen ∧ ∀ y ∈ x, y.key.length ≤ maxLen ∧ y.value.length ≤ maxLen) :
    Calls Try.prog 7 #[.slice a n c] w fun e w' => e = .returned (.bool true) ∧ Below w.heap.size w w' := by
  unfold maxLen at hl
  have LV := hide (blives_any w)
  by_cases h12 : 12 < n
  · have i1 : (n : Int) > 12 := by omega
    clear hcell hL hs hn
    go_enter Try.func7, Try.ntmps7
    go_wp2_with (go_at_call 28; refine LV.out.mono ?_; rintro e w1 ⟨rfl, b1⟩; clear LV)
    go_ret
    exact ⟨rfl, b1⟩
  · have i1 : ¬ (n : Int) > 12 := by omega
    have HN : Hid (n = ls.length) := hn
    have HC : Hid (ls ≠ [] → ∃ b off, a = some ⟨b, off, none⟩ ∧ ∀ k (h : k < vs.length), w.cell? ⟨b, off + k, none⟩ = some vs[k]) := hcell
    have HL := hide hL
    have HS : Hid (∀ x ∈ ls, x.length ≤ maxLen ∧ ∀ y ∈ x, y.key.length ≤ maxLen ∧ y.value.length ≤ maxLen) := hs
    have ROW : Hid (∀ j (h : j < ls.length), ∃ b off aj cj, a = some ⟨b, off, none⟩ ∧ EntsAt w (.slice aj ls[j].length cj) ls[j] ∧ ∀ wx, Below w.heap.size w wx → wx.cell? ⟨b, off + j, none⟩ = some (.slice aj ls[j].length cj)) := fun j hj => by
      obtain ⟨b, off, ha, hat⟩ := HC.out (fun h0 => by rw [h0] at hj; cases hj)
      obtain ⟨aj, cj, ej, _, _, EJ⟩ := hL.at' j hj (by rw [hL.len]; exact hj)
      refine ⟨b, off, aj, cj, ha, EJ, fun wx hw => ?_⟩
      rw [← ej]
      exact keepC hw (hat j (by rw [hL.len]; exact hj))
    clear hn hcell hL hs
    go_enter Try.func7, Try.ntmps7
    go_wp2_with (go_at_call 28; refine LV.out.mono ?_; rintro e w1 ⟨rfl, b1⟩; clear LV)
    go_loopw [3, 4] (fun x i wr => ∃ (j t : Nat), j ≤ n ∧ t ≤ j * 70 ∧ i = .int .i64 j ∧ x = .int .i64 t ∧ Below w.heap.size w wr ∧ Hid (t = Bk.total (ls.take j) ∧ ∀ x ∈ ls.take j, smallB x = true)) (fun _ i _ => n - (intOf i).toNat)
    case atStart => exact ⟨0, 0, Nat.zero_le _, Nat.zero_le _, rfl, rfl, b1, rfl, fun x hx => by simp at hx⟩
    case round =>
      clear b1
      obtain ⟨j, t, hj, ht, rfl, rfl, bx, HF⟩ := hrel
      by_cases hlt : j < n
      · have jl : j < ls.length := by have := HN.out; omega
        obtain ⟨b, off, aj, cj, rfl, EJ, RJ⟩ := ROW.out j jl
        have dj := RJ wr bx
        obtain ⟨nj, hnj⟩ : ∃ nj, nj = ls[j].length := ⟨_, rfl⟩
        have SM : Hid (Calls Try.prog 29 #[.slice aj nj cj] wr fun e w' => e = .returned (.bool (smallB ls[j])) ∧ Below wr.heap.size wr w') := by
          rw [hnj]
          have h1 := HS.out _ (List.getElem_mem jl)
          exact small_any wr aj cj _ ls[j] (EJ.later bx) rfl h1.1 h1.2 _ rfl
        have RJ' : Hid (∀ wx, Below w.heap.size w wx → wx.cell? ⟨b, off + j, none⟩ = some (.slice aj nj cj)) := by rw [hnj]; exact RJ
        rw [← hnj] at dj
        have jn : (j : Int) < (n : Int) := by omega
        have HTK : Hid (∀ x ∈ ls.take (j + 1), x ∈ ls.take j ∨ x = ls[j]) := fun x hx => by
          rw [List.take_succ_eq_append_getElem jl] at hx
          rcases List.mem_append.mp hx with h | h
          · exact .inl h
          · exact .inr (List.mem_singleton.mp h)
        cases hsm : smallB ls[j]
        · rw [hsm] at SM
          clear hsm hnj RJ RJ' EJ jl HTK HF
          go_wp2_with (go_at_call 29; refine SM.out.mono ?_; rintro e w2 ⟨rfl, b2⟩; clear SM)
          go_ret
          exact ⟨rfl, bx.trans (b2.mono bx.size)⟩
        · rw [hsm] at SM
          have hn70 : nj ≤ 70 := by rw [hnj]; exact (small_facts hsm).1
          have HF' : Hid (t + nj = Bk.total (ls.take (j + 1)) ∧ ∀ x ∈ ls.take (j + 1), smallB x = true) := by
            refine ⟨by rw [total_take ls j jl, ← HF.out.1, hnj], fun x hx => ?_⟩
            rcases HTK.out x hx with h | h
            · exact HF.out.2 x h
            · rw [h]; exact hsm
          clear hsm hnj RJ EJ jl HTK HF
          go_wp2_with (go_at_call 29; refine SM.out.mono ?_; rintro e w2 ⟨rfl, b2⟩; have B2 := bx.trans (b2.mono bx.size); have dj2 := RJ'.out w2 B2; clear SM)
          exact ⟨⟨j + 1, t + nj, by omega, by omega, by go_num, by go_num, B2, HF'⟩, by simp [intOf]; omega⟩
      · have ej : j = ls.length := by have := HN.out; omega
        have jn : ¬ (j : Int) < (n : Int) := by omega
        have HF' : Hid (t = Bk.total ls ∧ ∀ x ∈ ls, smallB x = true) := by
          have h := HF.out
          rw [ej, List.take_length] at h
          exact h
        have ht2 : Bk.total ls ≤ 840 := by
          have := total_le ls fun x hx => (small_facts (HF'.out.2 x hx)).1
          have := HN.out
          omega
        obtain ⟨E, hE⟩ : ∃ E, E = Bk.mergeE ls := ⟨_, rfl⟩
        obtain ⟨A, hA⟩ : ∃ A, A = Bk.mergeL ls := ⟨_, rfl⟩
        have MG : Hid (Calls Try.prog 42 #[.slice a n c] wr fun e w' => ∃ va ca, e = .returned (.tuple #[.slice va A.length ca, .int .i64 E]) ∧ EntsAt w' (.slice va A.length ca) A ∧ Below wr.heap.size wr w') := by
          rw [hA, hE]
          refine (merge_any wr a n c vs ls HN.out (fun h0 => ?_) (HL.out.later bx) (by omega) (fun x hx => ?_) (by omega)).mono ?_
          · obtain ⟨b, off, ha, hat⟩ := HC.out h0
            exact ⟨b, off, ha, fun k hk => keepC bx (hat k hk)⟩
          · have := small_facts (HF'.out.2 x hx)
            exact ⟨by omega, fun y hy => by have := this.2 y hy; omega⟩
          · rintro e w' ⟨v, rfl, o, b⟩
            have ha := EntsAt.own o
            obtain ⟨va, ca, rfl⟩ := ha.shape
            exact ⟨va, ca, rfl, ha, b⟩
        have bx' := hide bx
        by_cases hE0 : E = 0
        · have HALL : Hid (A.length = t ∧ Bk.inOrd A = true ∧ ∀ x ∈ ls, x.Sublist A) := by
            have := Bk.merge_all ls (by rw [← hE]; exact hE0)
            rw [← hA] at this
            exact ⟨by rw [this.1, HF'.out.1], this.2.1, this.2.2⟩
          obtain ⟨NA, hNA⟩ : ∃ NA, NA = A.length := ⟨_, rfl⟩
          have hNt : NA = t := by rw [hNA]; exact HALL.out.1
          have hNAb : NA ≤ 840 := by have := HF'.out.1; omega
          have IO : Hid (∀ wx va ca, EntsAt wx (.slice va NA ca) A → Calls Try.prog 46 #[.slice va NA ca] wx fun e w' => e = .returned (.bool true) ∧ Below wx.heap.size wx w') := fun wx va ca hx => by
            have := linOrder_any wx va ca NA A hx hNA (by omega)
            rwa [HALL.out.2.1] at this
          have HNA : Hid (NA = A.length) := hNA
          rw [← hNA] at MG
          subst hE0
          subst hNt
          have iN : ((NA : Int) != (NA : Int)) = false := by simp
          clear hE hA hNA HF HF' HL HC HS ej hlt hj
          go_wp2_with (first
            | (go_at_call 42; refine MG.out.mono ?_; rintro e w2 ⟨va, ca, rfl, EA, b2⟩; have B2 := bx'.out.trans (b2.mono bx'.out.size); clear MG)
            | (go_at_call 46; refine (IO.out _ _ _ EA).mono ?_; rintro e w3 ⟨rfl, b3⟩; have B3 := B2.trans (b3.mono B2.size); have EA3 := hide (EA.later b3); clear IO EA))
          have BB := hide B3
          clear B2 B3 bx b2 b3
          go_loopw [7] (fun i wr => ∃ p : Nat, p ≤ n ∧ i = .int .i64 p ∧ Below w3.heap.size w3 wr) (fun i _ => n - (intOf i).toNat)
          case atStart => exact ⟨0, Nat.zero_le _, rfl, Below.refl _ _⟩
          case round =>
            obtain ⟨p, hp, rfl, by'⟩ := hrel
            by_cases hpn : p < n
            · have pl : p < ls.length := by have := HN.out; omega
              obtain ⟨b, off, aj, cj, rfl, EJ, RJ⟩ := ROW.out p pl
              have SUB : Hid (ls[p].Sublist A) := HALL.out.2.2 _ (List.getElem_mem pl)
              obtain ⟨nj, hnj⟩ : ∃ nj, nj = ls[p].length := ⟨_, rfl⟩
              have hnA : nj ≤ NA := by rw [hnj, HNA.out]; exact SUB.out.length_le
              have HEJ : Hid (EntsAt w (.slice aj nj cj) ls[p]) := by rw [hnj]; exact EJ
              have HRJ : Hid (∀ wx, Below w3.heap.size w3 wx → wx.cell? ⟨b, off + p, none⟩ = some (.slice aj nj cj)) := fun wx hw => by
                rw [hnj]
                exact RJ wx (BB.out.trans (hw.mono BB.out.size))
              have HNJ : Hid (nj = ls[p].length) := hnj
              have pn : (p : Int) < (n : Int) := by omega
              clear EJ RJ hnj
              generalize ls[p] = x at *
              clear pl
              go_wp2_with (fail)
              go_loopw [8, 9] (fun x' y' wr => ∃ (k q : Nat), k ≤ nj ∧ q ≤ NA ∧ x' = .int .i64 k ∧ y' = .int .i64 q ∧ Below w3.heap.size w3 wr ∧ Hid ((x.drop k).Sublist (A.drop q))) (fun _ y' _ => NA - (intOf y').toNat)
              case atStart => exact ⟨0, 0, Nat.zero_le _, Nat.zero_le _, rfl, rfl, by', (by show List.Sublist _ _; rw [List.drop_zero, List.drop_zero]; exact SUB.out)⟩
              case round =>
                clear by'
                obtain ⟨k, q, hk, hq, rfl, rfl, bz, HSB⟩ := hrel
                have dc := HRJ.out _ bz
                by_cases hqn : q < NA
                · have qn : (q : Int) < (NA : Int) := by omega
                  by_cases hkn : k < nj
                  · have kn : (k : Int) < (nj : Int) := by omega
                    have ql : q < A.length := by have := HNA.out; omega
                    have kl : k < x.length := by have := HNJ.out; omega
                    obtain ⟨b7, o7, e7⟩ := EntsAt.some (EA3.out) (by omega)
                    subst e7
                    obtain ⟨b8, o8, e8⟩ := EntsAt.some (HEJ.out) (by omega)
                    subst e8
                    obtain ⟨x0, x1, x2, x3⟩ := (EA3.out.later bz).cells q ql
                    obtain ⟨y0, y1, y2, y3⟩ := (HEJ.out.later (BB.out.trans (bz.mono BB.out.size))).cells k kl
                    have HST : Hid ((A[q] = x[k] → (x.drop (k + 1)).Sublist (A.drop (q + 1))) ∧ (A[q] ≠ x[k] → (x.drop k).Sublist (A.drop (q + 1)))) := by
                      have h := HSB.out
                      rw [List.drop_eq_getElem_cons kl, List.drop_eq_getElem_cons ql] at h
                      have h2 := Bk.sub_step h
                      refine ⟨fun e => h2.1 e.symm, fun e => ?_⟩
                      rw [List.drop_eq_getElem_cons kl]
                      exact h2.2 (fun e' => e e'.symm)
                    generalize A[q] = X at *
                    generalize x[k] = Y at *
                    have EQ := eql_ent X Y
                    cases hs : sameE X Y
                    · have HN' : Hid ((x.drop k).Sublist (A.drop (q + 1))) := HST.out.2 (fun e => by rw [(sameE_iff X Y).2 e] at hs; cases hs)
                      rw [hs] at EQ
                      clear hs HST HSB ql kl
                      go_wp2_with (fail)
                      go_quiet (fail)
                      go_wp2_with (fail)
                      exact ⟨⟨k, q + 1, hk, by omega, rfl, by go_num, below_drewN bz _, HN'⟩, by simp [intOf]; omega⟩
                    · have HN' : Hid ((x.drop (k + 1)).Sublist (A.drop (q + 1))) := HST.out.1 ((sameE_iff X Y).1 hs)
                      rw [hs] at EQ
                      clear hs HST HSB ql kl
                      go_wp2_with (fail)
                      go_quiet (fail)
                      go_wp2_with (fail)
                      exact ⟨⟨k + 1, q + 1, by omega, by omega, by go_num, by go_num, below_drewN bz _, HN'⟩, by simp [intOf]; omega⟩
                  · obtain rfl : k = nj := by omega
                    have kn : ¬ (k : Int) < (k : Int) := by omega
                    have kk : ((k : Int) != (k : Int)) = false := by simp
                    clear HSB hkn
                    go_wp2_with (fail)
                    exact ⟨⟨p + 1, by omega, by go_num, bz⟩, by simp [intOf]; omega⟩
                · have qn : ¬ (q : Int) < (NA : Int) := by omega
                  have hkk : k = nj := by
                    have h := HSB.out
                    have e : A.drop q = [] := List.drop_of_length_le (by have := HNA.out; omega)
                    rw [e] at h
                    have h2 := List.drop_eq_nil_iff.1 (List.sublist_nil.1 h)
                    have := HNJ.out
                    omega
                  subst hkk
                  have kk : ((k : Int) != (k : Int)) = false := by simp
                  clear HSB
                  go_wp2_with (fail)
                  exact ⟨⟨p + 1, by omega, by go_num, bz⟩, by simp [intOf]; omega⟩
            · have pn : ¬ (p : Int) < (n : Int) := by omega
              go_wp2_with (fail)
              go_ret
              exact ⟨rfl, BB.out.trans (by'.mono BB.out.size)⟩
        · have HB := Bk.merge_bad ls (by rw [← hE]; exact hE0)
          rw [← hA, ← hE] at HB
          have HA0 : Hid (A = []) := HB.1
          rw [HA0.out] at MG
          have h910 := HB.2
          clear HB hE hA HF HF' HL HC HS ej hlt hj ROW
          rcases h910 with h9 | h10
          · subst h9
            go_wp2_with (go_at_call 42; refine MG.out.mono ?_; rintro e w2 ⟨va, ca, rfl, EA, b2⟩; have B2 := bx'.out.trans (b2.mono bx'.out.size); clear MG)
            go_ret
            exact ⟨rfl, B2⟩
          · subst h10
            go_wp2_with (go_at_call 42; refine MG.out.mono ?_; rintro e w2 ⟨va, ca, rfl, EA, b2⟩; have B2 := bx'.out.trans (b2.mono bx'.out.size); clear MG)
            go_ret
            exact ⟨rfl, B2⟩
end Go.Proofs.Ytaadcpmapdbodaa.blockMerge
