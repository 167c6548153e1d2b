/-
  Lists of entries merged: the walk. (Written by wip/gen/merge.py.)
-/
import Derived.Test.YtbdgdigpnfpnhaaKK
namespace Go.Proofs.Ytbdgdigpnfpnhaa.Q
open Go.RowKit

def sliceLenM : Value → Nat
  | .slice _ n _ => n
  | _ => 0

theorem ent_new (w : World) (e : Mm.Ent) : ∀ j u, (ec e)[j]? = some u → (w.alloc (entO e)).cell? ⟨w.heap.size, j, none⟩ = some u := fun j u hu => by
  have hj : j < 4 := by
    rcases Nat.lt_or_ge j 4 with h | h
    · exact h
    · rw [List.getElem?_eq_none (by show 4 ≤ j; exact h)] at hu; cases hu
  rw [Joins.cell_of_block (World.alloc_heap_new w (entO e)) j]
  match j, hj, hu with
  | 0, _, hu => exact hu
  | 1, _, hu => exact hu
  | 2, _, hu => exact hu
  | 3, _, hu => exact hu

set_option maxRecDepth 100000 in
set_option maxHeartbeats 8000000 in
theorem merge_any (w : World) (a : Option Addr) (n c : Nat) (vs : List Value) (ls : List (List Mm.Ent)) (hn : n = ls.length) (hcell : ls ≠ [] → ∃ b off, a = some ⟨b, off, none⟩ ∧ ∀ k (h : k < vs.length), w.cell? ⟨b, off + k, none⟩ = some vs[k]) (hL : LLs w vs ls) (hl : n ≤ 1000) (hs : ∀ x ∈ ls, x.length ≤ 1000 ∧ ∀ y ∈ x, y.key.length ≤ 1000000 ∧ y.value.length ≤ 1000000) (ht : Bk.total ls ≤ 100000) :
    Calls Try.prog 27 #[.slice a n c] w fun e w' => ∃ v, e = .returned (.tuple #[v, .int .i64 (Bk.mergeE ls)]) ∧ w'.ownsRow w.heap.size 38 4 v (Bk.mergeL ls).length (ecs (Bk.mergeL ls)) ∧ Below w.heap.size w w' := by
  have HN : Hid (n = ls.length) := hn
  have HC : Hid (ls ≠ [] → ∃ b off, a = some ⟨b, off, none⟩ ∧ ∀ k (h : k < vs.length), w.cell? ⟨b, off + k, none⟩ = some vs[k]) := hcell
  have HL := hide hL
  have HS : Hid (∀ x ∈ ls, x.length ≤ 1000 ∧ ∀ y ∈ x, y.key.length ≤ 1000000 ∧ y.value.length ≤ 1000000) := hs
  obtain ⟨T, hT⟩ : ∃ T, T = Bk.total ls := ⟨_, rfl⟩
  have HT : Hid (T = Bk.total ls) := hT
  have T1 : T ≤ 100000 := by rw [hT]; exact ht
  clear hn hcell hL hs ht hT
  go_enter Try.func27, Try.ntmps27
  go_wp2_with (fail)
  go_loopw [4, 12] (fun x i wr => ∃ (j m cp : Nat) (va : Option Addr) (us : List Value), j ≤ n ∧ m ≤ j ∧ i = .int .i64 j ∧ x = .slice va m cp ∧ wr.ownsRow w.heap.size 23 1 (.slice va m cp) m us ∧ Below w.heap.size w wr ∧ Hid (m = (Bk.lefts (ls.take j)).length ∧ LLs w us (Bk.lefts (ls.take j)) ∧ ∀ x ∈ ls.take j, Bk.inOrd x = true)) (fun _ i _ => n - (intOf i).toNat)
  case atStart => exact ⟨0, 0, 0, none, [], Nat.zero_le _, Nat.le_refl _, rfl, rfl, World.ownsRow_nil _ _ _ _, Below.refl _ _, rfl, LLs.nil w, fun x hx => by simp at hx⟩
  case round =>
    obtain ⟨j, m, cp, va, us, hj, hmj, rfl, rfl, ho, bx, HF⟩ := hrel
    by_cases hlt : j < n
    · have jl : j < ls.length := by have := HN.out; omega
      have jv : j < vs.length := by rw [HL.out.len]; exact jl
      obtain ⟨b, off, rfl, hat⟩ := HC.out (fun h0 => by rw [h0] at jl; cases jl)
      obtain ⟨aj, cj, ej, kj, kj2, EJ⟩ := HL.out.at' j jl jv
      have dj := keepC bx (hat j jv)
      rw [ej] at dj
      obtain ⟨S, hS⟩ : ∃ S, S = Bk.inOrd ls[j] := ⟨_, rfl⟩
      have lj := (HS.out _ (List.getElem_mem jl)).1
      obtain ⟨nj, hnj⟩ : ∃ nj, nj = ls[j].length := ⟨_, rfl⟩
      have IO : Hid (Calls Try.prog 61 #[.slice aj nj cj] wr fun e w' => e = .returned (.bool S) ∧ Below wr.heap.size wr w') := by
        rw [hnj]
        exact inOrder_any wr aj cj ls[j].length ls[j] (EJ.later bx) rfl (by omega) S hS
      rw [← hnj] at dj lj
      have jn : (j : Int) < (n : Int) := by omega
      have HTK : Hid (∀ x ∈ ls.take (j + 1), x ∈ ls.take j ∨ x = ls[j]) := fun x hx => by
        rw [List.take_succ_eq_append_getElem jl] at hx
        rcases List.mem_append.mp hx with h | h
        · exact .inl h
        · exact .inr (List.mem_singleton.mp h)
      have HNJ : Hid (nj = ls[j].length) := hnj
      have HSJ : Hid (S = Bk.inOrd ls[j]) := hS
      have HVJ : Hid (∃ a c, (Value.slice aj nj cj) = .slice a ls[j].length c ∧ ls[j].length ≤ c ∧ c ≤ 9223372036854775807 ∧ EntsAt w (.slice a ls[j].length c) ls[j]) := ⟨aj, cj, by rw [hnj], kj, kj2, EJ⟩
      clear hat EJ ej kj kj2 hS hnj
      cases S
      · have HE : Hid (Bk.mergeE ls = 10 ∧ Bk.mergeL ls = []) := by
          have hall : ls.all Bk.inOrd = false := by
            rw [Bool.eq_false_iff]
            intro h
            have := List.all_eq_true.1 h _ (List.getElem_mem jl)
            rw [← HSJ.out] at this
            cases this
          refine ⟨?_, ?_⟩
          · unfold Bk.mergeE; rw [hall]; rfl
          · unfold Bk.mergeL; rw [hall]; rfl
        clear HF HTK HVJ ho jl jv HNJ HSJ
        go_wp2_with (go_at_call 61; refine IO.out.mono ?_; rintro e w1 ⟨rfl, b1⟩; clear IO)
        go_ret2
        rw [HE.out.1, HE.out.2]
        exact ⟨_, rfl, World.ownsRow_nil _ _ _ _, bx.trans (b1.mono bx.size)⟩
      · by_cases h0 : nj = 0
        · have HF' : Hid (m = (Bk.lefts (ls.take (j + 1))).length ∧ LLs w us (Bk.lefts (ls.take (j + 1))) ∧ ∀ x ∈ ls.take (j + 1), Bk.inOrd x = true) := by
            have e : Bk.lefts (ls.take (j + 1)) = Bk.lefts (ls.take j) := by
              have hz : ls[j] = [] := List.eq_nil_of_length_eq_zero (by rw [← HNJ.out]; exact h0)
              rw [Bk.lefts_succ ls j jl, if_pos hz, List.append_nil]
            rw [e]
            refine ⟨HF.out.1, HF.out.2.1, fun x hx => ?_⟩
            rcases HTK.out x hx with h | h
            · exact HF.out.2.2 x h
            · rw [h]; exact HSJ.out.symm
          have i0 : ¬ (nj : Int) > 0 := by omega
          clear HF HTK HVJ jl jv HNJ HSJ h0
          go_wp2_with (go_at_call 61; refine IO.out.mono ?_; rintro e w1 ⟨rfl, b1⟩; clear IO)
          exact ⟨⟨j + 1, m, cp, va, us, by omega, by omega, by go_num, rfl, own_laterV ho b1, bx.trans (b1.mono bx.size), HF'⟩, by simp [intOf]; omega⟩
        · have HF' : Hid (m + 1 = (Bk.lefts (ls.take (j + 1))).length ∧ LLs w (us ++ [.slice aj nj cj]) (Bk.lefts (ls.take (j + 1))) ∧ ∀ x ∈ ls.take (j + 1), Bk.inOrd x = true) := by
            have e : Bk.lefts (ls.take (j + 1)) = Bk.lefts (ls.take j) ++ [ls[j]] := by
              have hz : ls[j] ≠ [] := fun h => h0 (by rw [HNJ.out, h]; rfl)
              rw [Bk.lefts_succ ls j jl, if_neg hz]
            rw [e]
            refine ⟨by rw [List.length_append, ← HF.out.1]; rfl, HF.out.2.1.snoc _ _ HVJ.out, fun x hx => ?_⟩
            rcases HTK.out x hx with h | h
            · exact HF.out.2.2 x h
            · rw [h]; exact HSJ.out.symm
          have i0 : (nj : Int) > 0 := by omega
          clear HF HTK HVJ jl jv HNJ HSJ
          go_wp2_with (first
            | (go_at_call 61; refine IO.out.mono ?_; rintro e w1 ⟨rfl, b1⟩; have B1 := bx.trans (b1.mono bx.size); have z1 := B1.size; have o1 := (own_laterV ho b1).alloc (.cells #[.slice aj nj cj] 23); have zz : w.heap.size ≤ (w1.alloc (.cells #[.slice aj nj cj] 23)).heap.size := (by simp; omega); clear IO)
            | (at_builtin; refine wpList_app_list _ rfl _ _ rfl w.heap.size _ us (.slice aj nj cj) m rfl rfl o1 w1.heap.size rfl (cell_of_row _ _ _ _ _ _ (heap_alloc_new w1 _)) (by omega) zz ?_; intro g2 cap2 w2 o2 gr2))
          exact ⟨⟨j + 1, m + 1, cap2, _, _, by omega, by omega, by go_num, rfl, o2, (B1.alloc z1 _).grown gr2 zz (fun k e => (ho.lt k e).1), HF'⟩, by simp [intOf]; omega⟩
    · have ej : j = ls.length := by have := HN.out; omega
      have jn : ¬ (j : Int) < (n : Int) := by omega
      have M0 : Mg w ls va none m cp 0 0 us (Bk.lefts ls) [] wr := by
        have h := HF.out
        rw [ej, List.take_length] at h
        exact ⟨ho, World.ownsRow_nil _ _ _ _, h.1, rfl, h.2.1, Bk.lefts_ne ls, by rw [Bk.total_lefts]; simp, rfl, fun x hx => (HS.out x (List.mem_filter.1 hx).1).2, (fun g _ e => by cases e), bx⟩
      have HALL : Hid (ls.all Bk.inOrd = true) := by
        have h := HF.out.2.2
        rw [ej, List.take_length] at h
        exact List.all_eq_true.2 h
      have MM0 := hide M0
      have m1000 : m ≤ 1000 := by omega
      clear M0 HF ho bx ej HC HL HS HN hlt hj
      go_wp2_with (fail)
      go_loopw [4, 7] (fun x y wr => ∃ (va vb : Option Addr) (m cp p cq : Nat) (us : List Value) (Lf : List (List Mm.Ent)) (O : List Mm.Ent), x = .slice va m cp ∧ y = .slice vb p cq ∧ m ≤ 1000 ∧ p ≤ T ∧ Hid (Mg w ls va vb m cp p cq us Lf O wr)) (fun _ y _ => T - sliceLenM y)
      case atStart => exact ⟨va, none, m, cp, 0, 0, us, Bk.lefts ls, [], rfl, rfl, m1000, Nat.zero_le _, MM0⟩
      case round =>
        clear MM0
        obtain ⟨va, vb, m, cp, p, cq, us, Lf, O, rfl, rfl, hm, hp, MM⟩ := hrel
        by_cases h0 : m = 0
        · have HE : Hid (Bk.mergeE ls = 0 ∧ Bk.mergeL ls = O) := by
            have hLf : Lf = [] := List.eq_nil_of_length_eq_zero (by rw [← MM.out.ml]; exact h0)
            have h := MM.out.same
            rw [hLf, Bk.mrg_nil] at h
            refine ⟨?_, ?_⟩
            · unfold Bk.mergeE; rw [HALL.out, ← h]; rfl
            · unfold Bk.mergeL; rw [HALL.out, ← h]; rfl
          subst h0
          have HR : Hid (wr.ownsRow w.heap.size 38 4 (.slice vb p cq) O.length (ecs O) ∧ Below w.heap.size w wr) := ⟨by rw [← MM.out.pl]; exact MM.out.out, MM.out.bel⟩
          clear MM
          go_wp2_with (fail)
          go_ret2
          rw [HE.out.1, HE.out.2]
          exact ⟨_, rfl, HR.out.1, HR.out.2⟩
        · have hLne : Lf ≠ [] := fun h => h0 (by rw [MM.out.ml, h]; rfl)
          obtain ⟨g4, cp', hva⟩ : ∃ g cap, (Value.slice va m cp) = .slice (some ⟨g, 0, none⟩) m cap := by
            rcases MM.out.left.2 with ⟨_, h1⟩ | ⟨g, cap, cur, e, _⟩
            · exact absurd h1 h0
            · exact ⟨g, cap, e⟩
          simp only [Value.slice.injEq] at hva
          obtain ⟨rfl, _, rfl⟩ := hva
          have hi := Bk.fore_lt Lf hLne
          have hiu : Bk.fore Lf < us.length := by rw [MM.out.lists.len]; exact hi
          have him : Bk.fore Lf < m := by rw [MM.out.ml]; exact hi
          obtain ⟨b, off, q, ci, eu, lq, kc, kc2, EQ, x0, x1, x2, x3⟩ := MM.out.lists.first (Bk.fore Lf) hi (MM.out.ne _ (List.getElem_mem hi)) hiu
          have FO : Hid (Calls Try.prog 62 #[.slice (some ⟨g4, 0, none⟩) m cp] wr fun e w' => e = .returned (.int .i64 ((Bk.fore Lf : Nat) : Int)) ∧ Below wr.heap.size wr w') :=
            foremost_any wr g4 m cp us Lf MM.out.ml (fun k h => by rw [MM.out.left.cellAt k (by have := MM.out.lists.len; have := MM.out.ml; omega), List.getElem?_eq_getElem h]) (MM.out.lists.later MM.out.bel) MM.out.ne (by omega) (by omega)
          have CU : Hid (∀ wx, Below wr.heap.size wr wx → wx.cell? ⟨g4, Bk.fore Lf, none⟩ = some (.slice (some ⟨b, off, none⟩) (q + 1) ci)) := fun wx hw => by
            rw [(own_laterV MM.out.left hw).cellAt _ (by omega), List.getElem?_eq_getElem hiu, eu]
          have CE : Hid (∀ wx, Below wr.heap.size wr wx → wx.cell? ⟨b, off, none⟩ = some (str (Bk.hdAt Lf (Bk.fore Lf)).key) ∧ wx.cell? ⟨b, off + 1, none⟩ = some (str (Bk.hdAt Lf (Bk.fore Lf)).value) ∧ wx.cell? ⟨b, off + 2, none⟩ = some (.int .i64 (Bk.hdAt Lf (Bk.fore Lf)).seq) ∧ wx.cell? ⟨b, off + 3, none⟩ = some (.bool (Bk.hdAt Lf (Bk.fore Lf)).del)) := fun wx hw => by
            have hb := MM.out.bel.trans (hw.mono MM.out.bel.size)
            exact ⟨keepC hb x0, keepC hb x1, keepC hb x2, keepC hb x3⟩
          obtain ⟨A, hA⟩ : ∃ A, (if ci = 1 then some (⟨b, off, none⟩ : Addr) else some ⟨b, off + 4, none⟩) = some A := by
            by_cases h : ci = 1
            · exact ⟨_, if_pos h⟩
            · exact ⟨_, if_neg h⟩
          have HTL : Hid ((Lf.getD (Bk.fore Lf) []).tail.length = q ∧ ∃ a c, (Value.slice (some A) q (ci - 1)) = .slice a (Lf.getD (Bk.fore Lf) []).tail.length c ∧ (Lf.getD (Bk.fore Lf) []).tail.length ≤ c ∧ c ≤ 9223372036854775807 ∧ EntsAt w (.slice a (Lf.getD (Bk.fore Lf) []).tail.length c) (Lf.getD (Bk.fore Lf) []).tail) := by
            rw [Bk.getD_at Lf _ hi]
            have ht : (Lf[Bk.fore Lf].tail).length = q := by rw [List.length_tail]; omega
            rw [ht]
            exact ⟨rfl, some A, ci - 1, rfl, by omega, by omega, ents_behind EQ lq A hA kc⟩
          have hsh := MM.out.short _ (List.getElem_mem hi) (Bk.hdAt Lf (Bk.fore Lf)) (by rw [Bk.hdAt_cons Lf _ hi (MM.out.ne _ (List.getElem_mem hi))]; simp)
          have OWN : Hid (∀ wx, Calls Try.prog 63 #[entV (Bk.hdAt Lf (Bk.fore Lf))] wx fun r w' => r = .returned (entV (Bk.hdAt Lf (Bk.fore Lf))) ∧ Below wx.heap.size wx w') := fun wx => own_e wx _ hsh.1 hsh.2
          have STP := hide (fun (hf : Bk.mayFollow O (Bk.hdAt Lf (Bk.fore Lf)) = true) (W3 w4 : World) (g' cap' : Nat) (b3 : Below wr.heap.size wr W3) (o4 : w4.ownsRow w.heap.size 38 4 (.slice (some ⟨g', 0, none⟩) (p + 1) cap') (p + 1) (ecs (O ++ [Bk.hdAt Lf (Bk.fore Lf)]))) (gr : W3.grownBy w4 (Value.slice vb p cq).ownBlock) (hat : (Value.slice vb p cq).ownBlock = some g' ∨ g' = W3.heap.size) => MM.out.step hLne hf b3 o4 gr hat (.slice (some A) q (ci - 1)) HTL.out.2)
          have DEL : Hid (∀ wx xs, xs.length = m → (∀ u ∈ xs, u.oneCell' = true) → wx.ownsRow w.heap.size 23 1 (.slice (some ⟨g4, 0, none⟩) m cp) m xs → Calls Try.prog 64 #[.slice (some ⟨g4, 0, none⟩) m cp, .int .i64 ((Bk.fore Lf : Nat) : Int), .int .i64 (((Bk.fore Lf : Nat) : Int) + 1)] wx fun e w' => e = .returned (.slice (some ⟨g4, 0, none⟩) (m - 1) cp) ∧ w'.ownsRow w.heap.size 23 1 (.slice (some ⟨g4, 0, none⟩) (m - 1) cp) (m - 1) (xs.eraseIdx (Bk.fore Lf)) ∧ wx.grownBy w' (some g4)) := fun wx xs hx h1 ho => by
            have hcap : m ≤ cp ∧ cp ≤ 9223372036854775807 := by
              rcases ho.2 with ⟨e, _⟩ | ⟨g', cap', cur, e, _, _, h3, h4, _⟩
              · cases e
              · simp only [Value.slice.injEq] at e; unfold maxLen at h4; omega
            exact delete_any wx _ g4 m cp _ xs hx.symm ho h1 him hcap.1 hcap.2
          have LEN : Hid ((us.set (Bk.fore Lf) (.slice (some A) q (ci - 1))).length = m ∧ ∀ u ∈ us.set (Bk.fore Lf) (.slice (some A) q (ci - 1)), u.oneCell' = true) := by
            refine ⟨by rw [List.length_set, MM.out.lists.len, ← MM.out.ml], fun u hu => ?_⟩
            rcases List.mem_or_eq_of_mem_set hu with h | h
            · exact MM.out.lists.one u h
            · rw [h]; rfl
          have HU : Hid (us[Bk.fore Lf]? = some (.slice (some ⟨b, off, none⟩) (q + 1) ci)) := by show _ = _; rw [List.getElem?_eq_getElem hiu, eu]
          have OUT := hide MM.out.out
          have HPL := hide MM.out.pl
          have SAME := hide MM.out.same
          have BEL := hide MM.out.bel
          have SUM : Hid (p + 1 ≤ T) := by
            have h1 := MM.out.sum
            have h2 := MM.out.pl
            have h3 := HT.out
            have h4 := Bk.total_cut Lf _ hi (MM.out.ne _ (List.getElem_mem hi))
            show p + 1 ≤ T
            omega
          have STOP : Hid (Bk.mayFollow O (Bk.hdAt Lf (Bk.fore Lf)) = false → Bk.mergeE ls = 9 ∧ Bk.mergeL ls = []) := fun hf => by
            have h := Bk.mrg_stop Lf O hLne MM.out.ne hf
            rw [MM.out.same] at h
            refine ⟨?_, ?_⟩
            · unfold Bk.mergeE; rw [HALL.out, h]; rfl
            · unfold Bk.mergeL; rw [HALL.out, h]; rfl
          have zz := BEL.out.size
          generalize Bk.hdAt Lf (Bk.fore Lf) = e at *
          generalize Bk.fore Lf = i at *
          have im : (i : Int) < (m : Int) := by omega
          have m0 : (m : Int) > 0 := by omega
          have qz : (0 : Int) < (q : Int) + 1 := by omega
          have q1 : (1 : Int) ≤ (q : Int) + 1 := by omega
          have qc : (q : Int) + 1 ≤ (ci : Int) := by omega
          have g4l : g4 < wr.heap.size := (MM.out.left.lt g4 rfl).2
          clear x0 x1 x2 x3 eu EQ lq kc hsh MM hiu hi hLne HALL
          go_wp2_with (go_at_call 62; refine FO.out.mono ?_; rintro r w1 ⟨rfl, b1⟩; have cu := CU.out _ b1; obtain ⟨c0, c1, c2, c3⟩ := CE.out _ b1; clear FO)
          have WE : Hid (∀ wx, Below w1.heap.size (w1.alloc (entO e)) wx → True) := fun _ _ => trivial
          obtain ⟨W2, hW2⟩ : ∃ W2, W2 = w1.alloc (.cells #[str e.key, str e.value, .int .i64 e.seq, .bool e.del] 38) := ⟨_, rfl⟩
          have bW2 : Below w1.heap.size w1 W2 := by rw [hW2]; exact (Below.refl _ _).alloc (Nat.le_refl _) _
          have E2 : W2.heap[w1.heap.size]? = some (.cells #[str e.key, str e.value, .int .i64 e.seq, .bool e.del] 38 (0, 0)) := by rw [hW2]; exact World.alloc_heap_new w1 _
          have BR : Below wr.heap.size wr W2 := b1.trans (bW2.mono b1.size)
          have EC : Hid (∀ wx, Below W2.heap.size W2 wx → wx.cell? ⟨w1.heap.size, 0, none⟩ = some (str e.key) ∧ wx.cell? ⟨w1.heap.size, 1, none⟩ = some (str e.value) ∧ wx.cell? ⟨w1.heap.size, 2, none⟩ = some (.int .i64 e.seq) ∧ wx.cell? ⟨w1.heap.size, 3, none⟩ = some (.bool e.del)) := fun wx hw => by
            have := keepB hw E2
            exact ⟨Joins.cell_of_block this 0, Joins.cell_of_block this 1, Joins.cell_of_block this 2, Joins.cell_of_block this 3⟩
          rw [← hW2]
          obtain ⟨E1, hE1⟩ : ∃ x, x = w1.heap.size := ⟨_, rfl⟩
          rw [← hE1] at EC ⊢
          clear hW2 WE E2 bW2 hE1 c0 c1 c2 c3 cu CE b1
          rcases List.eq_nil_or_concat O with ho | ⟨O', y, ho⟩
          · subst ho
            have hp0 : p = 0 := HPL.out
            subst hp0
            have hf : Bk.mayFollow [] e = true := rfl
            have HF := hide hf
            clear hf STOP
            go_quiet (fail)
            obtain ⟨X, hX⟩ : ∃ X, X = W2.drewN nq := ⟨_, rfl⟩
            have bX : Below W2.heap.size W2 X := by rw [hX]; exact below_drewN (Below.refl _ _) _
            rw [← hX]
            clear hX
            have BX : Below wr.heap.size wr X := BR.trans (bX.mono BR.size)
            obtain ⟨d0, d1, d2, d3⟩ := EC.out _ bX
            clear EC bX BR
            by_cases hq0 : q = 0
            · have HT0 : Hid ((Lf.getD i []).tail = []) := List.eq_nil_of_length_eq_zero (by rw [HTL.out.1]; exact hq0)
              subst hq0
              go_wp2_with (first
                | (go_at_call 63; refine (OWN.out _).mono ?_; rintro r w3 ⟨rfl, b3⟩; have B3 := BX.trans (b3.mono BX.size); have B3a : Below wr.heap.size wr (w3.alloc (entO e)) := B3.alloc B3.size _; have OA : Hid ((w3.alloc (entO e)).ownsRow w.heap.size 38 4 (.slice vb 0 cq) 0 (ecs [])) := (own_laterV OUT.out B3).alloc _; have NC := hide (ent_new w3 e); have ZB : Hid (w.heap.size ≤ (w3.alloc (entO e)).heap.size) := Nat.le_trans zz B3a.size; clear OWN b3)
                | (at_builtin; refine wpList_app_ent _ rfl _ _ rfl w.heap.size _ [] e 0 HPL.out rfl OA.out w3.heap.size rfl NC.out (by omega) ZB.out ?_; intro g5 cap5 w5 o5 gr5 hat5 lt5; obtain ⟨L5, B5, S1, S2, S3⟩ := STP.out HF.out (w3.alloc (entO e)) w5 g5 cap5 B3a o5 gr5 hat5; have S3' := hide (S3 HT0.out); have S2' := hide S2; have d5 : w5.cell? ⟨g4, i, none⟩ = some (.slice (some ⟨b, off, none⟩) (0 + 1) ci) := (L5.cellAt i (by omega)).trans HU.out; have f5 := L5.frozenAt i; clear L5 B5 S1 S2 S3 o5 gr5 hat5 OA NC ZB B3 B3a d0 d1 d2 d3)
                | (go_at_call 64; refine (DEL.out _ _ LEN.out.1 LEN.out.2 S2'.out).mono ?_; rintro r w6 ⟨rfl, o6, gr6⟩; have M6 := S3'.out w6 o6 gr6; clear DEL))
              exact ⟨⟨_, _, m - 1, cp, _, cap5, _, _, _, rfl, rfl, by omega, SUM.out, M6⟩, by have := SUM.out; simp [sliceLenM]; omega⟩
            · have HT0 : Hid ((Lf.getD i []).tail ≠ []) := fun h => hq0 (by rw [← HTL.out.1, h]; rfl)
              have qb : ((q : Int) == 0) = false := by simp; omega
              clear hq0
              go_wp2_with (first
                | (go_at_call 63; refine (OWN.out _).mono ?_; rintro r w3 ⟨rfl, b3⟩; have B3 := BX.trans (b3.mono BX.size); have B3a : Below wr.heap.size wr (w3.alloc (entO e)) := B3.alloc B3.size _; have OA : Hid ((w3.alloc (entO e)).ownsRow w.heap.size 38 4 (.slice vb 0 cq) 0 (ecs [])) := (own_laterV OUT.out B3).alloc _; have NC := hide (ent_new w3 e); have ZB : Hid (w.heap.size ≤ (w3.alloc (entO e)).heap.size) := Nat.le_trans zz B3a.size; clear OWN b3)
                | (at_builtin; refine wpList_app_ent _ rfl _ _ rfl w.heap.size _ [] e 0 HPL.out rfl OA.out w3.heap.size rfl NC.out (by omega) ZB.out ?_; intro g5 cap5 w5 o5 gr5 hat5 lt5; obtain ⟨L5, B5, S1, S2, S3⟩ := STP.out HF.out (w3.alloc (entO e)) w5 g5 cap5 B3a o5 gr5 hat5; have S1' := hide (S1 HT0.out); have d5 : w5.cell? ⟨g4, i, none⟩ = some (.slice (some ⟨b, off, none⟩) (q + 1) ci) := (L5.cellAt i (by omega)).trans HU.out; have f5 := L5.frozenAt i; clear L5 B5 S1 S2 S3 o5 gr5 hat5 OA NC ZB B3 B3a d0 d1 d2 d3))
              exact ⟨⟨_, _, m, cp, _, cap5, _, _, _, rfl, rfl, by omega, SUM.out, S1'⟩, by have := SUM.out; simp [sliceLenM]; omega⟩
          · rw [List.concat_eq_append] at ho
            have hk : p = O'.length + 1 := by rw [HPL.out, ho]; simp
            have HOO : Hid (Bk.mayFollow O e = Mm.ahead y e) := by show _ = _; rw [ho]; exact Bk.follow_snoc O' y e
            obtain ⟨g7, cq', hvb⟩ : ∃ g cap, (Value.slice vb p cq) = .slice (some ⟨g, 0, none⟩) p cap := by
              rcases OUT.out.2 with ⟨_, h1⟩ | ⟨g, cap, cur, e', _⟩
              · omega
              · exact ⟨g, cap, e'⟩
            simp only [Value.slice.injEq] at hvb
            obtain ⟨rfl, _, rfl⟩ := hvb
            have YC : Hid (∀ wx, Below wr.heap.size wr wx → wx.cell? ⟨g7, O'.length * 4, none⟩ = some (str y.key) ∧ wx.cell? ⟨g7, O'.length * 4 + 1, none⟩ = some (str y.value) ∧ wx.cell? ⟨g7, O'.length * 4 + 2, none⟩ = some (.int .i64 y.seq) ∧ wx.cell? ⟨g7, O'.length * 4 + 3, none⟩ = some (.bool y.del)) := fun wx hw => by
              have h1 : EntsAt wx (.slice (some ⟨g7, 0, none⟩) p cq) O := EntsAt.own (by rw [← HPL.out]; exact own_laterV OUT.out hw)
              have h2 := h1.cells O'.length (by rw [ho]; simp)
              rw [Nat.zero_add] at h2
              have e1 : O[O'.length]'(by rw [ho]; simp) = y := by simp [ho]
              rw [e1] at h2
              exact h2
            have AH : Hid (∀ wx, Calls Try.prog 13 #[entV y, entV e] wx fun r w' => r = .returned (.bool (Mm.ahead y e)) ∧ Below wx.heap.size wx w') := fun wx => ahead_any wx y e
            obtain ⟨R, hR⟩ : ∃ R, R = Mm.ahead y e := ⟨_, rfl⟩
            rw [← hR] at AH HOO
            obtain ⟨kk, hkk⟩ : ∃ kk, kk = O'.length := ⟨_, rfl⟩
            rw [← hkk] at YC hk
            clear ho hR hkk
            subst hk
            have k1 : ((kk + 1 : Nat) : Int) > 0 := by omega
            have k1' : (kk : Int) + 1 > 0 := by omega
            have k2 : (kk : Int) < (kk : Int) + 1 := by omega
            have k3 : (0 : Int) ≤ (kk : Int) := by omega
            have k4 : IntKind.i64.wrap (kk : Int) = (kk : Int) := by rw [IntKind.wrap_i64]; omega
            have KC : Hid (∀ wx, Below W2.heap.size W2 wx → (wx.cell? ⟨g7, kk * 4, none⟩ = some (str y.key) ∧ wx.cell? ⟨g7, kk * 4 + 1, none⟩ = some (str y.value) ∧ wx.cell? ⟨g7, kk * 4 + 2, none⟩ = some (.int .i64 y.seq) ∧ wx.cell? ⟨g7, kk * 4 + 3, none⟩ = some (.bool y.del)) ∧ (wx.cell? ⟨E1, 0, none⟩ = some (str e.key) ∧ wx.cell? ⟨E1, 1, none⟩ = some (str e.value) ∧ wx.cell? ⟨E1, 2, none⟩ = some (.int .i64 e.seq) ∧ wx.cell? ⟨E1, 3, none⟩ = some (.bool e.del))) := fun wx hw => ⟨YC.out wx (BR.trans (hw.mono BR.size)), EC.out wx hw⟩
            have P1 := KC.out W2.drew (Below.refl _ _).drew
            cases R
            · have HE := hide (STOP.out HOO.out)
              have HBW : Hid (∀ wx, Below W2.heap.size W2 wx → Below w.heap.size w wx) := fun wx hw => BEL.out.trans ((BR.trans (hw.mono BR.size)).mono BEL.out.size)
              clear STOP STP DEL OWN LEN HTL CU OUT SAME YC HU
              go_region_held3 (fun wx => (wx.cell? ⟨g7, kk * 4, none⟩ = some (str y.key) ∧ wx.cell? ⟨g7, kk * 4 + 1, none⟩ = some (str y.value) ∧ wx.cell? ⟨g7, kk * 4 + 2, none⟩ = some (.int .i64 y.seq) ∧ wx.cell? ⟨g7, kk * 4 + 3, none⟩ = some (.bool y.del)) ∧ (wx.cell? ⟨E1, 0, none⟩ = some (str e.key) ∧ wx.cell? ⟨E1, 1, none⟩ = some (str e.value) ∧ wx.cell? ⟨E1, 2, none⟩ = some (.int .i64 e.seq) ∧ wx.cell? ⟨E1, 3, none⟩ = some (.bool e.del)))
                (first | exact P1 | exact P2)
                (first
                  | (go_at_call 13; refine (AH.out _).mono ?_; rintro r w8 ⟨rfl, b8⟩; have D8 := (Below.refl W2.heap.size W2).drew.trans b8; have P2 := KC.out _ D8))
              go_wp2_with (fail)
              go_ret2
              rw [HE.out.1, HE.out.2]
              exact ⟨_, rfl, World.ownsRow_nil _ _ _ _, HBW.out _ D8⟩
            · have HF := hide HOO.out
              clear STOP
              go_region_held3 (fun wx => (wx.cell? ⟨g7, kk * 4, none⟩ = some (str y.key) ∧ wx.cell? ⟨g7, kk * 4 + 1, none⟩ = some (str y.value) ∧ wx.cell? ⟨g7, kk * 4 + 2, none⟩ = some (.int .i64 y.seq) ∧ wx.cell? ⟨g7, kk * 4 + 3, none⟩ = some (.bool y.del)) ∧ (wx.cell? ⟨E1, 0, none⟩ = some (str e.key) ∧ wx.cell? ⟨E1, 1, none⟩ = some (str e.value) ∧ wx.cell? ⟨E1, 2, none⟩ = some (.int .i64 e.seq) ∧ wx.cell? ⟨E1, 3, none⟩ = some (.bool e.del)))
                (first | exact P1 | exact P2)
                (first
                  | (go_at_call 13; refine (AH.out _).mono ?_; rintro r w8 ⟨rfl, b8⟩; have D8 := (Below.refl W2.heap.size W2).drew.trans b8; have P2 := KC.out _ D8))
              obtain ⟨X, hX⟩ : ∃ X, X = w8 := ⟨_, rfl⟩
              have bX : Below W2.heap.size W2 X := by rw [hX]; exact D8
              rw [← hX]
              clear hX P1 P2 D8 b8 AH KC
              have BX : Below wr.heap.size wr X := BR.trans (bX.mono BR.size)
              obtain ⟨d0, d1, d2, d3⟩ := EC.out _ bX
              clear EC bX BR
              by_cases hq0 : q = 0
              · have HT0 : Hid ((Lf.getD i []).tail = []) := List.eq_nil_of_length_eq_zero (by rw [HTL.out.1]; exact hq0)
                subst hq0
                go_wp2_with (first
                  | (go_at_call 63; refine (OWN.out _).mono ?_; rintro r w3 ⟨rfl, b3⟩; have B3 := BX.trans (b3.mono BX.size); have B3a : Below wr.heap.size wr (w3.alloc (entO e)) := B3.alloc B3.size _; have OA : Hid ((w3.alloc (entO e)).ownsRow w.heap.size 38 4 (.slice (some ⟨g7, 0, none⟩) (kk + 1) cq) (kk + 1) (ecs O)) := (own_laterV OUT.out B3).alloc _; have NC := hide (ent_new w3 e); have ZB : Hid (w.heap.size ≤ (w3.alloc (entO e)).heap.size) := Nat.le_trans zz B3a.size; clear OWN b3)
                  | (at_builtin; refine wpList_app_ent _ rfl _ _ rfl w.heap.size _ O e (kk + 1) HPL.out rfl OA.out w3.heap.size rfl NC.out (by omega) ZB.out ?_; intro g5 cap5 w5 o5 gr5 hat5 lt5; obtain ⟨L5, B5, S1, S2, S3⟩ := STP.out HF.out (w3.alloc (entO e)) w5 g5 cap5 B3a o5 gr5 hat5; have S3' := hide (S3 HT0.out); have S2' := hide S2; have d5 : w5.cell? ⟨g4, i, none⟩ = some (.slice (some ⟨b, off, none⟩) (0 + 1) ci) := (L5.cellAt i (by omega)).trans HU.out; have f5 := L5.frozenAt i; clear L5 B5 S1 S2 S3 o5 gr5 hat5 OA NC ZB B3 B3a d0 d1 d2 d3)
                  | (go_at_call 64; refine (DEL.out _ _ LEN.out.1 LEN.out.2 S2'.out).mono ?_; rintro r w6 ⟨rfl, o6, gr6⟩; have M6 := S3'.out w6 o6 gr6; clear DEL))
                exact ⟨⟨_, _, m - 1, cp, _, cap5, _, _, _, rfl, rfl, by omega, SUM.out, M6⟩, by have := SUM.out; simp [sliceLenM]; omega⟩
              · have HT0 : Hid ((Lf.getD i []).tail ≠ []) := fun h => hq0 (by rw [← HTL.out.1, h]; rfl)
                have qb : ((q : Int) == 0) = false := by simp; omega
                clear hq0
                go_wp2_with (first
                  | (go_at_call 63; refine (OWN.out _).mono ?_; rintro r w3 ⟨rfl, b3⟩; have B3 := BX.trans (b3.mono BX.size); have B3a : Below wr.heap.size wr (w3.alloc (entO e)) := B3.alloc B3.size _; have OA : Hid ((w3.alloc (entO e)).ownsRow w.heap.size 38 4 (.slice (some ⟨g7, 0, none⟩) (kk + 1) cq) (kk + 1) (ecs O)) := (own_laterV OUT.out B3).alloc _; have NC := hide (ent_new w3 e); have ZB : Hid (w.heap.size ≤ (w3.alloc (entO e)).heap.size) := Nat.le_trans zz B3a.size; clear OWN b3)
                  | (at_builtin; refine wpList_app_ent _ rfl _ _ rfl w.heap.size _ O e (kk + 1) HPL.out rfl OA.out w3.heap.size rfl NC.out (by omega) ZB.out ?_; intro g5 cap5 w5 o5 gr5 hat5 lt5; obtain ⟨L5, B5, S1, S2, S3⟩ := STP.out HF.out (w3.alloc (entO e)) w5 g5 cap5 B3a o5 gr5 hat5; have S1' := hide (S1 HT0.out); have d5 : w5.cell? ⟨g4, i, none⟩ = some (.slice (some ⟨b, off, none⟩) (q + 1) ci) := (L5.cellAt i (by omega)).trans HU.out; have f5 := L5.frozenAt i; clear L5 B5 S1 S2 S3 o5 gr5 hat5 OA NC ZB B3 B3a d0 d1 d2 d3))
                exact ⟨⟨_, _, m, cp, _, cap5, _, _, _, rfl, rfl, by omega, SUM.out, S1'⟩, by have := SUM.out; simp [sliceLenM]; omega⟩
end Go.Proofs.Ytbdgdigpnfpnhaa.Q
