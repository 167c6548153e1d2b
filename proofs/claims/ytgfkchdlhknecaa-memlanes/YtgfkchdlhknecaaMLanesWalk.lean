/-
  The walk of MemLanes: each lane is part of the one below it, and no search looks at more than the entries and twelve.
-/
import Derived.Test.YtgfkchdlhknecaaMNamesWalk
import Derived.Test.YtgfkchdlhknecaaMOrdWalk
namespace Go.Proofs.Ytgfkchdlhknecaa
open Go.RowKit

theorem nats_cell {w : World} {a : Option Addr} {n cap : Nat} {l : List Nat} (h : IntsAt w (.slice a n cap) (l.map fun (x : Nat) => (x : Int))) (j : Nat) (hj : j < l.length) : ∃ b off, a = some ⟨b, off, none⟩ ∧ w.cell? ⟨b, off + j, none⟩ = some (.int .i64 ((l[j] : Nat) : Int)) := by
  obtain ⟨b, off, ha, hc⟩ := ints_cell h j (by simpa using hj)
  refine ⟨b, off, ha, ?_⟩
  rw [hc]
  simp
namespace Mm
/-- Where one looks next, in a lane that rises and has the place. -/
theorem look (low : List Nat) (y k : Nat) (hu : low.Pairwise (· < ·)) (hy : y ∈ low) (hk : ∀ j (h : j < low.length), j < k → low[j] < y) : ∃ h : k < low.length, low[k] < y ∨ low[k] = y := by
  obtain ⟨q, hq, rfl⟩ := List.mem_iff_getElem.1 hy
  have hkq : k ≤ q := by
    rcases Nat.lt_or_ge q k with h | h
    · have := hk q hq h; omega
    · exact h
  refine ⟨by omega, ?_⟩
  rcases Nat.lt_or_eq_of_le hkq with h | h
  · exact .inl (List.pairwise_iff_getElem.1 hu k q (by omega) hq h)
  · subst h; exact .inr rfl
theorem costL_le (l : List It) (k : Bs) (s : Int) : costL l k s ≤ l.length + 12 := by
  unfold costL cost
  have h1 := costs_le (back ⟨k, [], s, false⟩ (l.map mk)) 12 (front ⟨k, [], s, false⟩ (l.map mk))
  have h2 : (l.map mk).length = (front ⟨k, [], s, false⟩ (l.map mk)).length + (back ⟨k, [], s, false⟩ (l.map mk)).length := by rw [← List.length_append, parts]
  rw [List.length_map] at h2
  omega
end Mm
theorem TabS.tall {S : Nat → Prop} {w : World} {b : Nat} {hs : List Nat} {l : List Mm.It} (h : TabS S w b hs l) : ∀ x ∈ l, 1 ≤ x.2 := by
  obtain ⟨hv, hd', ns, T, e, hS⟩ := h
  rw [← e]
  intro x hx
  obtain ⟨y, hy, rfl⟩ := List.mem_map.1 hx
  exact (T.tall y hy).1

namespace memLanes
abbrev askO (k lo hi : Mm.Bs) (s ln : Int) : Obj := .cells #[str k, .int .i64 s, str lo, str hi, .int .i64 ln] 60
/-- A table of the call's own, and the question, behind some calls. -/
structure Ln (w : World) (N : Nat) (k lo hi : Mm.Bs) (s ln : Int) (t : Nat) (hs : List Nat) (L : List Mm.It) (wr : World) : Prop where
  tab : TabS (fun i => N ≤ i) wr t hs L
  ask : wr.heap[w.heap.size]? = some (askO k lo hi s ln)
  big : N ≤ wr.heap.size
  low : w.heap.size < N
  bel : Below w.heap.size w wr
theorem Ln.later {w : World} {N : Nat} {k lo hi : Mm.Bs} {s ln : Int} {t : Nat} {hs : List Nat} {L : List Mm.It} {wr w' : World} (h : Ln w N k lo hi s ln t hs L wr) (hb : Below wr.heap.size wr w') : Ln w N k lo hi s ln t hs L w' :=
  ⟨h.tab.later hb, keepB hb h.ask, Nat.le_trans h.big hb.size, h.low, h.bel.trans (hb.mono h.bel.size)⟩

set_option maxRecDepth 100000 in
set_option maxHeartbeats 8000000 in
theorem walk (w : World) (ha : Option Addr) (hc hn : Nat) (H : List Int) (hI : IntsAt w (.slice ha hn hc) H) (hHn : hn = H.length) (hH : hn ≤ maxLen)
    (a : Option Addr) (c n : Nat) (l : List Mm.Ent) (h : EntsAt w (.slice a n c) l) (hn' : n = l.length) (hl : n ≤ maxLen) (hk : ∀ x ∈ l, x.key.length ≤ maxLen ∧ x.value.length ≤ maxLen) (k lo hi : Mm.Bs) (s ln : Int) :
    Calls Try.prog 7 #[.slice ha hn hc, .slice a n c, .agg #[str k, .int .i64 s, str lo, str hi, .int .i64 ln]] w fun e w' => e = .returned (.bool true) ∧ Below w.heap.size w w' := by
  have HE := hide h
  have HI := hide hI
  have HN : Hid (n = l.length) := hn'
  have HHN : Hid (hn = H.length) := hHn
  have LV := hide mlives_any
  have hn63 : hn ≤ 9223372036854775807 := by unfold maxLen at hH; omega
  have B0 : Below w.heap.size w (w.alloc (askO k lo hi s ln)) := (Below.refl _ _).alloc (Nat.le_refl _) _
  have a0 := World.alloc_heap_new w (askO k lo hi s ln)
  have SM : Hid (∀ wx, Below w.heap.size w wx → Calls Try.prog 19 #[.slice a n c] wx fun e w' => e = .returned (.bool (smallB l)) ∧ Below wx.heap.size wx w') := fun wx hw => small_any wx a c n l (HE.out.later hw) hn' hl hk _ rfl
  clear h hI hn' hHn hk hl hH
  cases hS : smallB l with
  | false =>
    rw [hS] at SM
    clear hS
    go_enter Try.func7, Try.ntmps7
    go_wp2_with (first
      | (go_at_call 10; refine (LV.out _).mono ?_; rintro e w1 ⟨rfl, b1⟩; have B1 := B0.trans (b1.mono B0.size); clear LV)
      | (go_at_call 19; refine (SM.out _ B1).mono ?_; rintro e w2 ⟨rfl, b2⟩; have B2 := B1.trans (b2.mono B1.size); clear SM))
    go_ret
    exact ⟨rfl, B2⟩
  | true =>
    rw [hS] at SM
    obtain ⟨hl, hs⟩ := small_yes hS
    have HS := hide hs
    have n60 : n ≤ 60 := by rw [HN.out]; exact hl
    clear hS hs hl
    by_cases h60 : (hn : Int) > 60
    · go_enter Try.func7, Try.ntmps7
      go_wp2_with (first
        | (go_at_call 10; refine (LV.out _).mono ?_; rintro e w1 ⟨rfl, b1⟩; have B1 := B0.trans (b1.mono B0.size); clear LV)
        | (go_at_call 19; refine (SM.out _ B1).mono ?_; rintro e w2 ⟨rfl, b2⟩; have B2 := B1.trans (b2.mono B1.size); clear SM))
      go_ret
      exact ⟨rfl, B2⟩
    cases hO : H.all okH with
    | false =>
      have NW : Hid (∀ wx, Below w.heap.size w wx → Calls Try.prog 12 #[.slice ha hn hc] wx fun e w' => e = .returned (.tuple #[.pointer none, .int .i64 2]) ∧ Below wx.heap.size wx w') := fun wx hw => by
        refine (new_any wx _ H (HI.out.later hw) (by have := HHN.out; omega)).mono ?_
        rintro e w' ⟨bb, (⟨h1, _⟩ | ⟨_, rfl⟩)⟩
        · rw [hO] at h1; cases h1
        · exact ⟨rfl, bb⟩
      clear hO
      go_enter Try.func7, Try.ntmps7
      go_wp2_with (first
        | (go_at_call 10; refine (LV.out _).mono ?_; rintro e w1 ⟨rfl, b1⟩; have B1 := B0.trans (b1.mono B0.size); clear LV)
        | (go_at_call 19; refine (SM.out _ B1).mono ?_; rintro e w2 ⟨rfl, b2⟩; have B2 := B1.trans (b2.mono B1.size); clear SM)
        | (go_at_call 12; refine (NW.out _ B2).mono ?_; rintro e w3 ⟨rfl, b3⟩; have B3 := B2.trans (b3.mono B2.size); clear NW))
      go_ret
      exact ⟨rfl, B3⟩
    | true =>
      have NW : Hid (∀ wx, Below w.heap.size w wx → Calls Try.prog 12 #[.slice ha hn hc] wx fun e w' => ∃ b, e = .returned (.tuple #[.pointer (some ⟨b, 0, none⟩), .int .i64 0]) ∧ Below wx.heap.size wx w' ∧ TabS (fun i => wx.heap.size ≤ i) w' b (H.map Int.toNat) []) := fun wx hw => by
        refine (new_s wx _ H (HI.out.later hw) (by have := HHN.out; omega) hO).mono ?_
        rintro e w' ⟨bb, b, rfl, h⟩
        exact ⟨b, rfl, bb, h⟩
      have hh60 : (H.map Int.toNat).length ≤ 60 := by rw [List.length_map, ← HHN.out]; omega
      generalize H.map Int.toNat = hs at *
      clear hO
      go_enter Try.func7, Try.ntmps7
      go_wp2_with (first
        | (go_at_call 10; refine (LV.out _).mono ?_; rintro e w1 ⟨rfl, b1⟩; have B1 := B0.trans (b1.mono B0.size); have a1 := keepB b1 a0; clear LV)
        | (go_at_call 19; refine (SM.out _ B1).mono ?_; rintro e w2 ⟨rfl, b2⟩; have B2 := B1.trans (b2.mono B1.size); have a2 := keepB b2 a1; clear SM)
        | (go_at_call 12; refine (NW.out _ B2).mono ?_; rintro e w3 ⟨t, rfl, b3, t3⟩; have B3 := B2.trans (b3.mono B2.size); have a3 := keepB b3 a2; clear NW))
      have L0 : Ln w w2.heap.size k lo hi s ln t hs [] w3 := ⟨t3, a3, b3.size, (Array.getElem?_eq_some_iff.1 a2).1, B3⟩
      generalize w2.heap.size = N at *
      clear b1 b2 b3 B0 B1 B2 B3 a0 a1 a2 a3 t3 HI
      go_loopw [9] (fun i wr => ∃ j : Nat, j ≤ n ∧ i = .int .i64 j ∧ Hid (∃ L, L.length ≤ j ∧ Ln w N k lo hi s ln t hs L wr)) (fun i _ => n - (intOf i).toNat)
      case atStart => exact ⟨0, Nat.zero_le _, rfl, [], Nat.le_refl _, L0⟩
      case round =>
        obtain ⟨j, hj, rfl, LJ⟩ := hrel
        clear L0
        obtain ⟨L, hL, LL⟩ := LJ.out
        by_cases hlt : j < n
        · have jl : j < l.length := by have := HN.out; omega
          obtain ⟨b, off, rfl, c0, c1, c2, c3⟩ := ents_entry (HE.out.later LL.bel) j jl
          have hx := HS.out l[j] (List.getElem_mem jl)
          have AD : Hid (Calls Try.prog 16 #[.pointer (some ⟨t, 0, none⟩), entV l[j]] wr fun r w' => ∃ g : Int, r = .returned (.int .i64 g) ∧ ∃ L, L.length ≤ j + 1 ∧ Ln w N k lo hi s ln t hs L w') := by
            refine (add_s LL.tab (fun i hi => Nat.le_trans LL.big hi) l[j] (by omega) (by omega) (by omega) (by omega)).mono ?_
            rintro r w' ⟨rfl, T', mv⟩
            refine ⟨_, rfl, _, ?_, T', ?_, Nat.le_trans LL.big mv.size, LL.low, LL.bel.trans (mv.under LL.bel.size (fun i hi => by have := LL.low; omega))⟩
            · have := Mm.add_len (hs := hs) (e := l[j]) (l := L); omega
            · exact (mv.block _ (Array.getElem?_eq_some_iff.1 LL.ask).1 (by have := LL.low; omega)).trans LL.ask
          generalize l[j] = x at *
          clear HE LJ LL HS jl hx
          go_wp2_with (first
            | (go_at_call 16; refine AD.out.mono ?_; rintro r w5 ⟨g, rfl, l5⟩; clear AD))
          exact ⟨⟨j + 1, by omega, by go_num, l5⟩, by simp [intOf]; omega⟩
        · obtain rfl : j = n := by omega
          have i3 : ¬ (j : Int) < (j : Int) := by omega
          have LT := hide LL
          clear HE LJ HS hlt hj HN LL
          go_wp2_with (fail)
          go_loopw [10] (fun i wy => ∃ m : Nat, m ≤ 11 ∧ i = .int .i64 ((m : Int) + 1 + 1) ∧ Hid (Ln w N k lo hi s ln t hs L wy)) (fun i _ => (13 - intOf i).toNat)
          case atStart => exact ⟨0, by omega, rfl, LT⟩
          case round =>
            obtain ⟨m, hm, rfl, LM⟩ := hrel
            clear LT
            by_cases hm11 : m < 11
            · have LA : Hid (Calls Try.prog 14 #[.pointer (some ⟨t, 0, none⟩), .int .i64 ((m : Int) + 1 + 1)] wr fun r w' => ∃ a c, r = .returned (.slice a (Mm.places (m + 1 + 1) 0 L).length c) ∧ IntsAt w' (.slice a (Mm.places (m + 1 + 1) 0 L).length c) ((Mm.places (m + 1 + 1) 0 L).map fun (x : Nat) => (x : Int)) ∧ Below wr.heap.size wr w') := by
                have := lane_s LM.out.tab (by omega) (m + 1) (by omega)
                rw [show ((m + 1 : Nat) : Int) = (m : Int) + 1 by omega] at this
                exact this
              have LB : Hid (∀ wx, Below wr.heap.size wr wx → Calls Try.prog 14 #[.pointer (some ⟨t, 0, none⟩), .int .i64 ((m : Int) + 1)] wx fun r w' => ∃ a c, r = .returned (.slice a (Mm.places (m + 1) 0 L).length c) ∧ IntsAt w' (.slice a (Mm.places (m + 1) 0 L).length c) ((Mm.places (m + 1) 0 L).map fun (x : Nat) => (x : Int)) ∧ Below wx.heap.size wx w') := fun wx hw => lane_s (LM.out.later hw).tab (by omega) m (by omega)
              have UP := hide (Mm.places_up (m + 1 + 1) L 0).1
              have LO := hide (Mm.places_up (m + 1) L 0).1
              have SB := hide (Mm.places_sub (m + 1) L 0)
              have ul := Mm.places_len (m + 1 + 1) L 0
              have ll := Mm.places_len (m + 1) L 0
              generalize Mm.places (m + 1 + 1) 0 L = up at *
              generalize Mm.places (m + 1) 0 L = low at *
              obtain ⟨U, hU⟩ : ∃ U, U = up.length := ⟨_, rfl⟩
              obtain ⟨V, hV⟩ : ∃ V, V = low.length := ⟨_, rfl⟩
              have HU : Hid (U = up.length) := hU
              have HV : Hid (V = low.length) := hV
              rw [← hU] at LA ul
              rw [← hV] at LB ll
              clear hU hV
              have i4 : (m : Int) + 1 + 1 ≤ 12 := by omega
              go_wp2_with (first
                | (go_at_call 14; have g := LA; refine LA.out.mono ?_; rintro r w5 ⟨a5, c5, rfl, e5, b5⟩; clear LA g)
                | (go_at_call 14; have g := LB; refine (LB.out _ b5).mono ?_; rintro r w6 ⟨a6, c6, rfl, e6, b6⟩; clear LB g))
              have L6 := hide ((LM.out.later b5).later b6)
              have EU : Hid (∀ wx, Below w6.heap.size w6 wx → IntsAt wx (.slice a5 U c5) (up.map fun (x : Nat) => (x : Int))) := fun wx hw => (e5.later b6).later hw
              have EL : Hid (∀ wx, Below w6.heap.size w6 wx → IntsAt wx (.slice a6 V c6) (low.map fun (x : Nat) => (x : Int))) := fun wx hw => e6.later hw
              clear e5 e6 b5 b6 LM
              go_loopw [13, 14] (fun kv iv wy => ∃ q i : Nat, i ≤ U ∧ q ≤ V ∧ kv = .int .i64 q ∧ iv = .int .i64 i ∧ Hid (∀ j (h : j < low.length), j < q → ∀ i' (h' : i' < up.length), i ≤ i' → low[j] < up[i']) ∧ Below w6.heap.size w6 wy) (fun _ iv _ => U - (intOf iv).toNat)
              case atStart => exact ⟨0, 0, Nat.zero_le _, Nat.zero_le _, rfl, rfl, (fun j _ h => absurd h (Nat.not_lt_zero _)), Below.refl _ _⟩
              case round =>
                obtain ⟨q, i, hi, hq, rfl, rfl, HQ, by6⟩ := hrel
                by_cases hiU : i < U
                · have iu : i < up.length := by have := HU.out; omega
                  have Q0 : Hid (∀ j (h : j < low.length), j < q → low[j] < up[i]) := fun j h hj => HQ.out j h hj i iu (Nat.le_refl _)
                  have hiU' : (i : Int) < (U : Int) := by omega
                  have NX : Hid (∀ i' (h' : i' < up.length), i < i' → up[i] < up[i']) := fun i' h' hlt => List.pairwise_iff_getElem.1 UP.out i i' iu h' hlt
                  have MY := hide (SB.out up[i] (List.getElem_mem iu))
                  obtain ⟨y, hy⟩ : ∃ y, y = up[i] := ⟨_, rfl⟩
                  have HY : Hid (∀ wx, Below w6.heap.size w6 wx → ∃ b off, a5 = some ⟨b, off, none⟩ ∧ wx.cell? ⟨b, off + i, none⟩ = some (.int .i64 (y : Int))) := fun wx hw => by rw [hy]; exact nats_cell (EU.out wx hw) i iu
                  rw [← hy] at Q0 NX MY
                  clear HQ hy
                  go_wp2_with (fail)
                  go_loopw [13] (fun kv wy => ∃ q : Nat, q ≤ V ∧ kv = .int .i64 q ∧ Hid (∀ j (h : j < low.length), j < q → low[j] < y) ∧ Below w6.heap.size w6 wy) (fun kv _ => V + 1 - (intOf kv).toNat)
                  case atStart => exact ⟨q, hq, rfl, Q0, by6⟩
                  case round =>
                    clear Q0 by6 hq
                    obtain ⟨q, hq, rfl, Q1, by6⟩ := hrel
                    obtain ⟨ql, hcase⟩ := Mm.look low y q LO.out MY.out Q1.out
                    obtain ⟨b, off, rfl, cy⟩ := HY.out _ by6
                    obtain ⟨b2, off2, rfl, cl⟩ := nats_cell (EL.out _ by6) q ql
                    have qV : (q : Int) < (V : Int) := by have := HV.out; omega
                    have qV2 : ((q : Int) == (V : Int)) = false := by simp; omega
                    obtain ⟨z, hz⟩ : ∃ z, z = low[q] := ⟨_, rfl⟩
                    rw [← hz] at cl hcase
                    rcases hcase with hlt | heq
                    · have Q2 : Hid (∀ j (h : j < low.length), j < q + 1 → low[j] < y) := fun j h hj => by
                        rcases Nat.lt_or_eq_of_le (Nat.le_of_lt_succ hj) with h1 | h1
                        · exact Q1.out j h h1
                        · subst h1; rw [← hz]; exact hlt
                      have zl : (z : Int) < (y : Int) := by omega
                      clear Q1 hz MY NX HY EU EL LO UP SB
                      go_wp2_with (fail)
                      go_quiet (fail)
                      go_wp2_with (fail)
                      exact ⟨⟨q + 1, by omega, by go_num, Q2, below_drewN by6 _⟩, by simp [intOf]; omega⟩
                    · subst heq
                      have zl : ¬ (z : Int) < (z : Int) := by omega
                      have zn : ((z : Int) != (z : Int)) = false := by simp
                      have Q2 : Hid (∀ j (h : j < low.length), j < q → ∀ i' (h' : i' < up.length), i + 1 ≤ i' → low[j] < up[i']) := fun j h hj i' h' hi' => by
                        have h1 := Q1.out j h hj
                        have h2 := NX.out i' h' (by omega)
                        omega
                      clear Q1 hz MY NX HY EU EL LO UP SB
                      go_wp2_with (fail)
                      go_quiet (fail)
                      go_wp2_with (fail)
                      go_quiet (fail)
                      go_wp2_with (fail)
                      exact ⟨⟨q, i + 1, by omega, hq, rfl, by go_num, Q2, below_drewN by6 _⟩, by simp [intOf]; omega⟩
                · have i5 : ¬ (i : Int) < (U : Int) := by omega
                  have L7 := hide (L6.out.later by6)
                  clear EU EL LO UP SB HQ L6
                  go_wp2_with (fail)
                  exact ⟨⟨m + 1, by omega, by go_num, L7⟩, by simp [intOf]; omega⟩
            · obtain rfl : m = 11 := by omega
              have CO : Hid (Calls Try.prog 15 #[.pointer (some ⟨t, 0, none⟩), str k, .int .i64 s] wr fun r w' => r = .returned (.int .i64 (Mm.costL L k s : Int)) ∧ Below wr.heap.size wr w') := cost_s LM.out.tab (by omega) k s
              have cb := Mm.costL_le L k s
              have p1 := Mm.places_one L LM.out.tab.tall 0
              have L1 : Hid (∀ wx, Below wr.heap.size wr wx → Calls Try.prog 14 #[.pointer (some ⟨t, 0, none⟩), .int .i64 1] wx fun r w' => ∃ a c, r = .returned (.slice a L.length c) ∧ Below wx.heap.size wx w') := fun wx hw => by
                refine (lane_s (LM.out.later hw).tab (by omega) 0 (by omega)).mono ?_
                rintro r w' ⟨a, c, rfl, _, bb⟩
                rw [p1]
                exact ⟨a, c, rfl, bb⟩
              have LN : Hid (∀ wx, Below wr.heap.size wr wx → Calls Try.prog 17 #[.pointer (some ⟨t, 0, none⟩)] wx fun r w' => r = .returned (.int .i64 (L.length : Int)) ∧ w' = wx) := fun wx hw => len_s (LM.out.later hw).tab
              have q0 := Joins.cell_of_block LM.out.ask 0
              have q1 := Joins.cell_of_block LM.out.ask 1
              have BL := LM.out.bel
              generalize Mm.costL L k s = C at *
              generalize L.length = N' at *
              have i6 : ¬ ((11 : Nat) : Int) + 1 + 1 ≤ 12 := by omega
              have i7 : (C : Int) ≥ 0 := by omega
              have i8 : (C : Int) ≤ (N' : Int) + 12 := by omega
              clear LM p1
              go_wp2_with (first
                | (go_at_call 15; refine CO.out.mono ?_; rintro r w5 ⟨rfl, b5⟩; clear CO)
                | (go_at_call 14; refine (L1.out _ b5).mono ?_; rintro r w6 ⟨a6, c6, rfl, b6⟩; have B6 := b5.trans (b6.mono b5.size); clear L1)
                | (go_at_call 17; refine still (LN.out _ B6) ?_))
              go_ret
              exact ⟨rfl, BL.trans (B6.mono BL.size)⟩
end memLanes
end Go.Proofs.Ytgfkchdlhknecaa
