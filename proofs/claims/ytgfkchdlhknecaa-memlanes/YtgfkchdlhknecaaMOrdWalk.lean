/-
  The walk of MemOrder: two tables, the entries put in one behind the other, and in another order.
-/
import Derived.Test.YtgfkchdlhknecaaMLives
import Derived.Test.YtgfkchdlhknecaaMOrdP
import Derived.Test.YtgfkchdlhknecaaMSmall
namespace Go.Proofs.Ytgfkchdlhknecaa
open Go.RowKit

theorem ents_entry {w : World} {a : Option Addr} {n cap : Nat} {l : List Mm.Ent} (h : EntsAt w (.slice a n cap) l) (j : Nat) (hj : j < l.length) : ∃ b off, a = some ⟨b, off, none⟩ ∧ w.cell? ⟨b, off + j * 4, none⟩ = some (str l[j].key) ∧ w.cell? ⟨b, off + j * 4 + 1, none⟩ = some (str l[j].value) ∧ w.cell? ⟨b, off + j * 4 + 2, none⟩ = some (.int .i64 l[j].seq) ∧ w.cell? ⟨b, off + j * 4 + 3, none⟩ = some (.bool l[j].del) := by
  obtain ⟨b, off, rfl⟩ := h.some (by omega)
  exact ⟨b, off, rfl, h.cells j hj⟩

/-- How it stands while the first table is filled. -/
structure Ord1 (w0 : World) (l : List Mm.Ent) (t u N2 N3 N4 j : Nat) (wr : World) : Prop where
  tab : ∃ L, TabS (fun i => (N2 ≤ i ∧ i < N3) ∨ N4 ≤ i) wr t [3, 1, 2, 1, 12] L ∧ (L.map (·.1)).Perm (l.take j)
  may : ∀ x ∈ l.take j, Mm.may x = true
  oth : TabS (fun i => N3 ≤ i ∧ i < N4) wr u [] []
  big : N4 ≤ wr.heap.size
  bel : Below w0.heap.size w0 wr
/-- And the second one. -/
structure Ord2 (w0 : World) (l : List Mm.Ent) (f : Nat) (L : List Mm.It) (t u N2 N3 N4 N5 j : Nat) (wr : World) : Prop where
  tab : ∃ M, TabS (fun i => (N3 ≤ i ∧ i < N4) ∨ N5 ≤ i) wr u [] M ∧ (M.map (·.1)).Perm ((Mm.turned l f).take j)
  oth : TabS (fun i => ((N2 ≤ i ∧ i < N3) ∨ N4 ≤ i) ∧ i < N5) wr t [3, 1, 2, 1, 12] L
  big : N5 ≤ wr.heap.size
  bel : Below w0.heap.size w0 wr

theorem perm_len {a b : List Mm.Ent} {n : Nat} (h : a.Perm b) (hb : b.length ≤ n) : a.length ≤ n := by rw [h.length_eq]; exact hb

/-- One entry more, in the first table. -/
theorem ord1_add {w0 : World} {l : List Mm.Ent} {t u N2 N3 N4 j : Nat} {wr : World} (h : Ord1 w0 l t u N2 N3 N4 j wr) (hj : j < l.length) (hl : l.length ≤ 60) (hs : ∀ x ∈ l, x.key.length ≤ 600 ∧ x.value.length ≤ 600) (n2 : w0.heap.size ≤ N2) (n3 : N2 ≤ N3) (n4 : N3 ≤ N4) :
    ∃ g, (g = 0 ∨ g = 2 ∨ g = 9) ∧ Calls Try.prog 16 #[.pointer (some ⟨t, 0, none⟩), entV l[j]] wr fun r w' => r = .returned (.int .i64 g) ∧ Below w0.heap.size w0 w' ∧ (g = 0 → Ord1 w0 l t u N2 N3 N4 (j + 1) w') := by
  obtain ⟨L, T, hp⟩ := h.tab
  have hx := hs _ (List.getElem_mem hj)
  have big := h.big
  have hL : L.length ≤ 60 := by
    have := perm_len hp (n := 60) (by rw [List.length_take]; omega)
    simpa using this
  refine ⟨Mm.addE l[j] L, by by_cases h0 : Mm.addE l[j] L = 0; exact .inl h0; exact .inr (Mm.add_three h0), ?_⟩
  refine (add_s T (fun i hi => by omega) l[j] (by omega) (by simp) (by omega) (by omega)).mono ?_
  rintro r w' ⟨rfl, T', mv⟩
  have bel : Below w0.heap.size w0 w' := h.bel.trans (mv.under h.bel.size (fun i hi => by omega))
  refine ⟨rfl, bel, fun h0 => ?_⟩
  · refine ⟨⟨_, T', ?_⟩, ?_, ?_, by have := mv.size; omega, bel⟩
    · rw [List.take_succ_eq_append_getElem hj]
      exact (Mm.add_perm h0).trans ((List.Perm.cons _ hp).trans (List.perm_append_comm (l₁ := [l[j]])))
    · intro x hx
      rw [List.take_succ_eq_append_getElem hj] at hx
      rcases List.mem_append.1 hx with hx | hx
      · exact h.may x hx
      · rw [List.mem_singleton.1 hx]; exact (Mm.add_zero.1 h0).1
    · exact h.oth.other mv (fun i _ hi hr => by omega)

/-- One entry more, in the second table. -/
theorem ord2_add {w0 : World} {l : List Mm.Ent} {f : Nat} {L : List Mm.It} {t u N2 N3 N4 N5 j : Nat} {wr : World} (h : Ord2 w0 l f L t u N2 N3 N4 N5 j wr) (hj : j < l.length) (hf : f < l.length) (hl : l.length ≤ 60) (hs : ∀ x ∈ l, x.key.length ≤ 600 ∧ x.value.length ≤ 600)
    (hm : ∀ x ∈ l, Mm.may x = true) (ha : Mm.Apart l) (n2 : w0.heap.size ≤ N2) (n3 : N2 ≤ N3) (n4 : N3 ≤ N4) (n5 : N4 ≤ N5) (e : Mm.Ent) (he : l[(f + j) % l.length]? = some e) :
    Calls Try.prog 16 #[.pointer (some ⟨u, 0, none⟩), entV e] wr fun r w' => r = .returned (.int .i64 0) ∧ Ord2 w0 l f L t u N2 N3 N4 N5 (j + 1) w' := by
  obtain ⟨M, T, hp⟩ := h.tab
  have hmem : e ∈ l := List.mem_of_getElem? he
  have hx := hs e hmem
  have big := h.big
  have tl := Mm.turned_len l f
  have hjt : j < (Mm.turned l f).length := by omega
  have et : (Mm.turned l f)[j] = e := by
    have := Mm.turned_get l f j hf hj
    rw [he, List.getElem?_eq_getElem hjt] at this
    exact Option.some.inj this
  have hM : M.length ≤ 60 := by
    have := perm_len hp (n := 60) (by rw [List.length_take]; omega)
    simpa using this
  have h0 : Mm.addE e M = 0 := by
    refine Mm.add_may T.sorted (hm e hmem) fun y hy hsm => ?_
    have hy' : y ∈ (Mm.turned l f).take j := hp.subset hy
    have hap := Mm.apart_perm (Mm.turned_perm l f).symm ha
    rw [← List.take_append_drop j (Mm.turned l f)] at hap
    have := (List.pairwise_append.1 hap).2.2 y hy' e (by rw [← et]; exact List.mem_of_getElem? (i := 0) (by rw [List.getElem?_drop]; exact List.getElem?_eq_getElem hjt))
    exact this ⟨hsm.1.symm, hsm.2.symm⟩
  refine (add_s T (fun i hi => by omega) e (by omega) (by simp) (by omega) (by omega)).mono ?_
  rintro r w' ⟨rfl, T', mv⟩
  rw [h0]
  have bel : Below w0.heap.size w0 w' := h.bel.trans (mv.under h.bel.size (fun i hi => by omega))
  refine ⟨rfl, ⟨⟨_, T', ?_⟩, h.oth.other mv (fun i _ hi hr => by omega), by have := mv.size; omega, bel⟩⟩
  rw [List.take_succ_eq_append_getElem hjt, et]
  exact (Mm.add_perm h0).trans ((List.Perm.cons _ hp).trans (List.perm_append_comm (l₁ := [e])))
theorem small_yes {l : List Mm.Ent} (h : smallB l = true) : l.length ≤ 60 ∧ ∀ x ∈ l, x.key.length ≤ 600 ∧ x.value.length ≤ 600 := by
  unfold smallB at h
  simp only [Bool.and_eq_true, decide_eq_true_eq] at h
  refine ⟨h.2, fun x hx => ?_⟩
  have := List.all_eq_true.1 h.1 x hx
  simpa [shortE] using this

namespace memOrder
set_option maxRecDepth 100000 in
set_option maxHeartbeats 8000000 in
theorem walk (w : World) (a : Option Addr) (c n : Nat) (l : List Mm.Ent) (h : EntsAt w (.slice a n c) l) (hn : n = l.length) (hl : n ≤ maxLen) (hk : ∀ x ∈ l, x.key.length ≤ maxLen ∧ x.value.length ≤ maxLen) (o : Int) (o1 : -9223372036854775808 ≤ o) (o2 : o ≤ 9223372036854775807) :
    Calls Try.prog 6 #[.slice a n c, .int .i64 o] w fun e w' => e = .returned (.bool true) ∧ Below w.heap.size w w' := by
  have H := hide h
  have HN : Hid (n = l.length) := hn
  have LV := hide mlives_any
  have SM : Hid (∀ wx, Below w.heap.size w wx → Calls Try.prog 19 #[.slice a n c] wx fun e w' => e = .returned (.bool (smallB l)) ∧ Below wx.heap.size wx w') := fun wx hw => small_any wx a c n l (H.out.later hw) hn hl hk _ rfl
  clear h hn hk hl
  cases hS : smallB l with
  | false =>
    rw [hS] at SM
    clear hS
    go_enter Try.func6, Try.ntmps6
    go_wp2_with (first
      | (go_at_call 10; refine (LV.out _).mono ?_; rintro e w1 ⟨rfl, B1⟩; clear LV)
      | (go_at_call 19; refine (SM.out _ B1).mono ?_; rintro e w2 ⟨rfl, b2⟩; have B2 := B1.trans (b2.mono B1.size); clear SM))
    go_ret
    exact ⟨rfl, B2⟩
  | true =>
    rw [hS] at SM
    obtain ⟨hl, hs⟩ := small_yes hS
    have HS := hide hs
    have HL := hide hl
    have hn60 : n ≤ 60 := by rw [HN.out]; exact hl
    clear hS hs hl
    have NT : Hid (∀ wx : World, Calls Try.prog 12 #[.slice (some ⟨wx.heap.size, 0, none⟩) 5 5] (wx.alloc (.cells #[.int .i64 3, .int .i64 1, .int .i64 2, .int .i64 1, .int .i64 12] 3)) fun e w' => ∃ b, e = .returned (.tuple #[.pointer (some ⟨b, 0, none⟩), .int .i64 0]) ∧ Below wx.heap.size wx w' ∧ TabS (fun i => wx.heap.size ≤ i) w' b [3, 1, 2, 1, 12] []) := fun wx => by
      refine (new_s _ _ [3, 1, 2, 1, 12] (ints_lit wx [3, 1, 2, 1, 12] #[.int .i64 3, .int .i64 1, .int .i64 2, .int .i64 1, .int .i64 12] rfl) (by simp) (by decide)).mono ?_
      rintro e w' ⟨bb, b, rfl, h⟩
      exact ⟨b, rfl, ((Below.refl _ _).alloc (Nat.le_refl _) _).trans (bb.mono (by simp)), h.narrow fun i _ hi => by simp at hi; omega⟩
    have NU : Hid (∀ wx : World, Calls Try.prog 12 #[.slice none 0 0] wx fun e w' => ∃ b, e = .returned (.tuple #[.pointer (some ⟨b, 0, none⟩), .int .i64 0]) ∧ Below wx.heap.size wx w' ∧ TabS (fun i => wx.heap.size ≤ i) w' b [] []) := fun wx => by
      refine (new_s wx _ [] (IntsAt.nil wx) (by simp) rfl).mono ?_
      rintro e w' ⟨bb, b, rfl, h⟩
      exact ⟨b, rfl, bb, h⟩
    go_enter Try.func6, Try.ntmps6
    go_wp2_with (first
      | (go_at_call 10; refine (LV.out _).mono ?_; rintro e w1 ⟨rfl, B1⟩; clear LV)
      | (go_at_call 19; refine (SM.out _ B1).mono ?_; rintro e w2 ⟨rfl, b2⟩; have B2 := B1.trans (b2.mono B1.size); clear SM)
      | (go_at_call 12; have g := NT; refine (NT.out _).mono ?_; rintro e w3 ⟨t, rfl, b3, t3⟩; have B3 := B2.trans (b3.mono B2.size); have z3 := b3.size; clear NT g)
      | (go_at_call 12; have g := NU; refine (NU.out _).mono ?_; rintro e w4 ⟨u, rfl, b4, u4⟩; have B4 := B3.trans (b4.mono B3.size); have z4 := b4.size; clear NU g))
    have O1 : Ord1 w l t u w2.heap.size w3.heap.size w4.heap.size 0 w4 := ⟨⟨[], (t3.narrow (R := fun i => w2.heap.size ≤ i ∧ i < w3.heap.size) fun i hi hw => ⟨hw, hi⟩).later b4 |>.narrow fun i _ hw => .inl hw, by simp⟩, by simp, u4.narrow fun i hi hw => ⟨hw, hi⟩, Nat.le_refl _, B4⟩
    have N2 := B2.size
    generalize w2.heap.size = N2' at *
    generalize w3.heap.size = N3' at *
    clear b2 b3 b4 t3 u4 B1 B2 B3
    generalize hN4 : w4.heap.size = N4' at *
    clear hN4
    go_loopw [10] (fun i wr => ∃ j : Nat, j ≤ n ∧ i = .int .i64 j ∧ Hid (Ord1 w l t u N2' N3' N4' j wr)) (fun i _ => n - (intOf i).toNat)
    case atStart => exact ⟨0, Nat.zero_le _, rfl, O1⟩
    case round =>
      obtain ⟨j, hj, rfl, OJ⟩ := hrel
      clear O1 B4
      by_cases hlt : j < n
      · have jl : j < l.length := by have := HN.out; omega
        obtain ⟨b, off, rfl, c0, c1, c2, c3⟩ := ents_entry (H.out.later OJ.out.bel) j jl
        obtain ⟨g, hg, AD0⟩ := ord1_add OJ.out jl HL.out HS.out N2 z3 z4
        have AD := hide AD0
        clear AD0
        generalize l[j] = x at *
        clear H OJ HS HL jl
        rcases hg with rfl | rfl | rfl
        · go_wp2_with (first
            | (go_at_call 16; refine AD.out.mono ?_; rintro r w5 ⟨rfl, b5, o5⟩; clear AD))
          exact ⟨⟨j + 1, by omega, by go_num, o5 trivial⟩, by simp [intOf]; omega⟩
        · go_wp2_with (first
            | (go_at_call 16; refine AD.out.mono ?_; rintro r w5 ⟨rfl, b5, o5⟩; clear AD))
          go_ret
          exact ⟨rfl, b5⟩
        · go_wp2_with (first
            | (go_at_call 16; refine AD.out.mono ?_; rintro r w5 ⟨rfl, b5, o5⟩; clear AD))
          go_ret
          exact ⟨rfl, b5⟩
      · obtain rfl : j = n := by omega
        have i3 : ¬ (j : Int) < (j : Int) := by omega
        obtain ⟨⟨L, T, hp⟩, hmay, oth, big, bel⟩ := OJ.out
        have etk : l.take j = l := List.take_of_length_le (by have := HN.out; omega)
        rw [etk] at hp hmay
        have up := Mm.up_map T.sorted
        have ap := Mm.apart_perm hp (Mm.up_apart up)
        have N5 : N4' ≤ wr.heap.size := big
        have O2 : ∀ f, Hid (Ord2 w l f L t u N2' N3' N4' wr.heap.size 0 wr) := fun f => ⟨⟨[], oth.narrow fun i _ hw => .inl hw, by simp⟩, T.narrow fun i hi hw => ⟨hw, hi⟩, Nat.le_refl _, bel⟩
        have HM := hide hmay
        have HA := hide ap
        have HP := hide hp
        have HU := hide up
        clear hp hmay oth big up ap T OJ etk hlt hj
        have PK : Hid (Calls Try.prog 29 #[.int .i64 o, .int .i64 (max 1 (j : Int))] wr fun e w' => e = .returned (.int .i64 ((pickN o (max 1 j) : Nat) : Int)) ∧ w' = wr) := by
          have := pick_is wr o (max 1 j) (by omega) (by omega) o1 o2
          rw [show ((max 1 j : Nat) : Int) = max 1 (j : Int) by omega] at this
          exact this
        have flt : 0 < j → pickN o (max 1 j) < j := fun h => by have := pickN_lt o (n := max 1 j) (by omega); omega
        have f60 : pickN o (max 1 j) ≤ 60 := by have := pickN_lt o (n := max 1 j) (by omega); omega
        generalize pickN o (max 1 j) = f at *
        have ON := O2 f
        generalize hN5 : wr.heap.size = N5' at *
        clear O2 hN5 o1 o2
        go_wp2_with (first
          | (go_at_call 29; refine still PK.out ?_; clear PK))
        go_loopw [13] (fun i wr => ∃ k : Nat, k ≤ j ∧ i = .int .i64 k ∧ Hid (Ord2 w l f L t u N2' N3' N4' N5' k wr)) (fun i _ => j - (intOf i).toNat)
        case atStart => exact ⟨0, Nat.zero_le _, rfl, ON⟩
        case round =>
          obtain ⟨k, hk, rfl, OK⟩ := hrel
          clear ON
          by_cases hlt : k < j
          · have jl : k < l.length := by have := HN.out; omega
            have rl : (f + k) % j < j := Nat.mod_lt _ (by omega)
            obtain ⟨r, hr⟩ : ∃ r, r = (f + k) % j := ⟨_, rfl⟩
            rw [← hr] at rl
            have rl2 : r < l.length := by have := HN.out; omega
            obtain ⟨b, off, rfl, c0, c1, c2, c3⟩ := ents_entry (H.out.later OK.out.bel) r rl2
            have AD := hide (ord2_add OK.out jl (by have := HN.out; have := flt (by omega); omega) HL.out HS.out HM.out HA.out N2 z3 z4 N5 l[r] (by rw [← HN.out, ← hr]; exact List.getElem?_eq_getElem rl2))
            have i1 : Int.tmod ((f : Int) + (k : Int)) (j : Int) = (r : Int) := by
              rw [hr, show (f : Int) + (k : Int) = ((f + k : Nat) : Int) by omega, Int.ofNat_tmod]
            have i2 : ((j : Int) == 0) = false := by simp; omega
            have i4 : ¬ (j : Int) = 0 := by omega
            have i5 : (r : Int) < (j : Int) := by omega
            generalize l[r] = x at *
            clear H OK HS HL HM HA HP HU HN jl rl2 hr flt
            go_wp2_with (first
              | (go_at_call 16; refine AD.out.mono ?_; rintro r w5 ⟨rfl, o5⟩; clear AD))
            exact ⟨⟨k + 1, by omega, by go_num, o5⟩, by simp [intOf]; omega⟩
          · obtain rfl : k = j := by omega
            obtain ⟨⟨M, U, hq⟩, oth, big, bel⟩ := OK.out
            have etk : (Mm.turned l f).take k = Mm.turned l f := List.take_of_length_le (by rw [Mm.turned_len]; have := HN.out; omega)
            rw [etk] at hq
            have eLM : M.map (·.1) = L.map (·.1) := Mm.up_unique _ _ (Mm.up_map U.sorted) HU.out ((hq.trans (Mm.turned_perm l f)).trans HP.out.symm)
            have eLn : (L.map (·.1)).length = k := by rw [HP.out.length_eq, ← HN.out]
            have lL : L.length = k := by simpa using eLn
            have lM : M.length = k := by have : (M.map (·.1)).length = k := by rw [eLM]; exact eLn
                                         simpa using this
            have A1 := hide (list_s oth (by omega) (k + 1) (by omega))
            have A2 : Hid (∀ wx, Below wr.heap.size wr wx → Calls Try.prog 32 #[.pointer (some ⟨u, 0, none⟩), .int .i64 ((k + 1 : Nat) : Int)] wx fun r w' => ∃ v, r = .returned v ∧ w'.ownsRow wx.heap.size 26 4 v ((M.map (·.1)).take (k + 1)).length (ecs ((M.map (·.1)).take (k + 1))) ∧ Below wx.heap.size wx w') := fun wx hw => list_s (U.later hw) (by omega) (k + 1) (by omega)
            rw [eLM] at A2
            rw [List.take_of_length_le (by omega), eLn] at A1 A2
            rw [show ((k + 1 : Nat) : Int) = (k : Int) + 1 by omega] at A1 A2
            have HE : Hid ((L.map (·.1)).length = k) := eLn
            generalize L.map (·.1) = E at *
            have i3 : ¬ (k : Int) < (k : Int) := by omega
            have HB := hide bel
            have SE : Hid (∀ (wx : World) aa bb cc dd base1 base2, wx.ownsRow base1 26 4 (.slice aa k bb) k (ecs E) → wx.ownsRow base2 26 4 (.slice cc k dd) k (ecs E) → Calls Try.prog 31 #[.slice aa k bb, .slice cc k dd] wx fun e w' => e = .returned (.bool true) ∧ Below wx.heap.size wx w') := fun wx aa bb cc dd base1 base2 h1 h2 => by
              have e := HE.out
              rw [← e] at h1 h2 ⊢
              exact samee_any wx _ _ E (EntsAt.own h1) (EntsAt.own h2) (by omega)
            clear H OK HS HL HM HA HP HN U hq oth big etk eLM eLn lL lM bel hk hlt flt
            go_wp2_with (first
              | (go_at_call 32; have g := A1; refine A1.out.mono ?_; rintro r w5 ⟨v5, rfl, r5, b5⟩; obtain ⟨a5, c5, rfl⟩ := row_shape r5; clear A1 g)
              | (go_at_call 32; have g := A2; refine (A2.out _ b5).mono ?_; rintro r w6 ⟨v6, rfl, r6, b6⟩; obtain ⟨a6, c6, rfl⟩ := row_shape r6; clear A2 g)
              | (go_at_call 31; refine (SE.out _ _ _ _ _ _ _ (own_same r5 (fun g hg => b6.block g (own_lt r5 g hg))) r6).mono ?_; rintro r w7 ⟨rfl, b7⟩; clear SE))
            have EA : Hid (∀ wx, Below w6.heap.size w6 wx → EntsAt wx (.slice a5 k c5) E) := fun wx hw => by
              have e := HE.out
              have r5' := own_same r5 (fun g hg => b6.block g (own_lt r5 g hg))
              rw [← e] at r5' ⊢
              exact (EntsAt.own r5').later hw
            have B7 : Below w.heap.size w w7 := ((HB.out.trans (b5.mono HB.out.size)).trans (b6.mono (Nat.le_trans HB.out.size b5.size))).trans (b7.mono (Nat.le_trans (Nat.le_trans HB.out.size b5.size) b6.size))
            clear r5 r6 b5 b6 HB
            go_loopw [16] (fun i wy => ∃ q : Nat, 1 ≤ q ∧ i = .int .i64 q ∧ q ≤ k + 1 ∧ Below w.heap.size w wy ∧ Below w6.heap.size w6 wy) (fun i _ => k + 1 - (intOf i).toNat)
            case atStart => exact ⟨1, Nat.le_refl _, rfl, by omega, B7, b7⟩
            case round =>
              obtain ⟨q, hq1, rfl, hq2, BY, by6⟩ := hrel
              clear B7 b7
              by_cases hqk : q < k
              · obtain ⟨m, rfl⟩ : ∃ m, q = m + 1 := ⟨q - 1, by omega⟩
                have qE : m + 1 < E.length := by have := HE.out; omega
                have mE : m < E.length := by omega
                obtain ⟨b, off, rfl⟩ := (EA.out _ by6).some (by omega)
                have hup : Mm.ahead E[m] E[m + 1] = true := by
                  have := List.pairwise_iff_getElem.1 HU.out m (m + 1) mE qE (by omega)
                  exact this
                have hdn := Mm.ahead_asym hup
                have A1 : Hid (∀ wx, Calls Try.prog 25 #[entV E[m], entV E[m + 1]] wx fun r w' => r = .returned (.bool true) ∧ Below wx.heap.size wx w') := fun wx => by
                  have := ahead_any wx E[m] E[m + 1]
                  rw [hup] at this
                  exact this
                have A2 : Hid (∀ wx, Calls Try.prog 25 #[entV E[m + 1], entV E[m]] wx fun r w' => r = .returned (.bool false) ∧ Below wx.heap.size wx w') := fun wx => by
                  have := ahead_any wx E[m + 1] E[m]
                  rw [hdn] at this
                  exact this
                have KC : Hid (∀ wx, Below wr.heap.size wr wx → (wx.cell? ⟨b, off + m * 4, none⟩ = some (str E[m].key) ∧ wx.cell? ⟨b, off + m * 4 + 1, none⟩ = some (str E[m].value) ∧ wx.cell? ⟨b, off + m * 4 + 2, none⟩ = some (.int .i64 E[m].seq) ∧ wx.cell? ⟨b, off + m * 4 + 3, none⟩ = some (.bool E[m].del)) ∧ wx.cell? ⟨b, off + (m + 1) * 4, none⟩ = some (str E[m + 1].key) ∧ wx.cell? ⟨b, off + (m + 1) * 4 + 1, none⟩ = some (str E[m + 1].value) ∧ wx.cell? ⟨b, off + (m + 1) * 4 + 2, none⟩ = some (.int .i64 E[m + 1].seq) ∧ wx.cell? ⟨b, off + (m + 1) * 4 + 3, none⟩ = some (.bool E[m + 1].del)) := fun wx hw => ⟨((EA.out _ by6).later hw).cells m mE, ((EA.out _ by6).later hw).cells (m + 1) qE⟩
                have P1 := KC.out wr.drew (Below.refl _ _).drew
                have qk : (m : Int) + 1 < (k : Int) := by omega
                have mk : (m : Int) < (k : Int) := by omega
                have m0 : (0 : Int) ≤ (m : Int) + 1 := by omega
                have m3 : (0 : Int) ≤ (m : Int) := by omega
                have wm : IntKind.i64.wrap (m : Int) = (m : Int) := by rw [IntKind.wrap_i64]; omega
                have wm1 : IntKind.i64.wrap ((m : Int) + 1) = (m : Int) + 1 := by rw [IntKind.wrap_i64]; omega
                generalize E[m] = x1 at *
                generalize E[m + 1] = x2 at *
                clear EA HU HE hup hdn qE mE
                rw [show ((m + 1 : Nat) : Int) = (m : Int) + 1 by omega]
                go_wp2_with (fail)
                go_region_held3 (fun wx => (wx.cell? ⟨b, off + m * 4, none⟩ = some (str x1.key) ∧ wx.cell? ⟨b, off + m * 4 + 1, none⟩ = some (str x1.value) ∧ wx.cell? ⟨b, off + m * 4 + 2, none⟩ = some (.int .i64 x1.seq) ∧ wx.cell? ⟨b, off + m * 4 + 3, none⟩ = some (.bool x1.del)) ∧ wx.cell? ⟨b, off + (m + 1) * 4, none⟩ = some (str x2.key) ∧ wx.cell? ⟨b, off + (m + 1) * 4 + 1, none⟩ = some (str x2.value) ∧ wx.cell? ⟨b, off + (m + 1) * 4 + 2, none⟩ = some (.int .i64 x2.seq) ∧ wx.cell? ⟨b, off + (m + 1) * 4 + 3, none⟩ = some (.bool x2.del))
                  (first | exact P1 | exact P2 | exact P3)
                  (first
                    | (go_at_call 25; have g := A1; refine (A1.out _).mono ?_; rintro r w8 ⟨rfl, b8⟩; have D8 := (Below.refl wr.heap.size wr).drew.trans b8; have P2 := KC.out _ D8; clear A1 g)
                    | (go_at_call 25; have g := A2; refine (A2.out _).mono ?_; rintro r w9 ⟨rfl, b9⟩; have D9 := D8.trans (b9.mono D8.size); have P3 := KC.out _ D9; clear A2 g))
                go_wp2_with (fail)
                exact ⟨⟨m + 1 + 1, by omega, by go_num, by omega, BY.trans (D9.mono BY.size), by6.trans (D9.mono by6.size)⟩, by simp [intOf]; omega⟩
              · have i5 : ¬ (q : Int) < (k : Int) := by omega
                clear EA HU HE
                go_wp2_with (fail)
                go_ret
                exact ⟨rfl, BY⟩
end memOrder
end Go.Proofs.Ytgfkchdlhknecaa
