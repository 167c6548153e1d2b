/-
  A reader that takes a record to pieces: what its calls answer, and what is left.
-/
import Derived.Test.YtppfkhpofbbnbaaGreatDoorWlP
import Derived.Test.YtppfkhpofbbnbaaGreatDoorKWr
import Derived.Test.YtppfkhpofbbnbaaGreatDoorKRecs
import Derived.Lib.SmallJoins
namespace Go.Proofs.YtppfkhpofbbnbaaGreatDoor
open Go.RowKit

/-- A reader lies at block rb. -/
structure RdAt (w : World) (rb top : Nat) (s : Wl.Rd) : Prop where
  form : ∃ ao cap, w.heap[rb]? = some (.cells #[.slice ao s.rest.length cap, .bool s.bad] 97 (0, 0)) ∧ s.rest.length ≤ cap ∧ ((ao = none ∧ cap = 0) ∨ ∃ b off, ao = some ⟨b, off, none⟩) ∧ (s.rest ≠ [] → ∃ b off, ao = some ⟨b, off, none⟩ ∧ b < top ∧ BytesAt w b off s.rest)
  len : s.rest.length ≤ 1000000000
  le : top ≤ rb

theorem RdAt.lt {w : World} {rb top : Nat} {s : Wl.Rd} (h : RdAt w rb top s) : rb < w.heap.size := by
  obtain ⟨⟨ao, cap, hb, _⟩, _, _⟩ := h
  exact (Array.getElem?_eq_some_iff.1 hb).1
theorem RdAt.later {w w' : World} {rb top : Nat} {s : Wl.Rd} (h : RdAt w rb top s) (hb : Below w.heap.size w w') : RdAt w' rb top s := by
  have hl := h.lt
  obtain ⟨⟨ao, cap, h1, h2, h3, h4⟩, h5, h6⟩ := h
  refine ⟨⟨ao, cap, (hb.block rb hl).trans h1, h2, h3, fun h0 => ?_⟩, h5, h6⟩
  obtain ⟨b, off, e, hne, hat⟩ := h4 h0
  exact ⟨b, off, e, hne, hat.later hb⟩
theorem bytes_other {w w' : World} {rb b off : Nat} {l : List UInt8} (h : BytesAt w b off l) (hg : w.grownBy w' (some rb)) (hne : b ≠ rb) : BytesAt w' b off l := fun j hj =>
  hg.cell (h j hj) (by simpa using hne)
theorem bytesAt_drop {w : World} {b off : Nat} {l : List UInt8} (h : BytesAt w b off l) (n : Nat) (hn : n ≤ l.length) : BytesAt w b (off + n) (l.drop n) := fun j hj => by
  rw [List.length_drop] at hj
  have := h (n + j) (by omega)
  rw [Nat.add_assoc, this, List.getElem_drop]

theorem grown_set (w : World) (rb i : Nat) (u : Value) : w.grownBy (w.setCell ⟨rb, i, none⟩ u) (some rb) := ⟨rfl, rfl, rfl, by simp [World.setCell], fun k _ hne => Below.heap_setCell _ _ _ _ (fun e => hne (by rw [e]))⟩
theorem rfail_any (w : World) (rb top : Nat) (hle : top ≤ rb) (v : Value) (bad : Bool) (hb : w.heap[rb]? = some (.cells #[v, .bool bad] 97 (0, 0))) :
    Calls Tryz.prog 92 #[.pointer (some ⟨rb, 0, none⟩)] w fun e w' => (∃ u, e = .returned u) ∧ RdAt w' rb top ⟨[], true⟩ ∧ w.grownBy w' (some rb) ∧ w'.heap.size = w.heap.size := by
  have c0 : w.cell? ⟨rb, 0, none⟩ = some v := Joins.cell_of_block hb 0
  have f0 : w.frozen? ⟨rb, 0, none⟩ = false := Joins.unfrozen_of_block hb 0
  have f1 : w.frozen? ⟨rb, 1, none⟩ = false := Joins.unfrozen_of_block hb 1
  have c1 : w.cell? ⟨rb, 1, none⟩ = some (.bool bad) := Joins.cell_of_block hb 1
  have HB : Hid _ := hb
  clear hb
  go_enter Tryz.func92, Tryz.ntmps92
  go_wp2_with (fail)
  go_end0
  exact ⟨⟨_, rfl⟩, ⟨⟨none, 0, (Joins.block_setCell (Joins.block_setCell HB.out _) _).trans rfl, Nat.le_refl _, .inl ⟨rfl, rfl⟩, fun h => absurd rfl h⟩, by simp, hle⟩, grownBy_trans (grown_set _ rb _ _) (grown_set _ rb _ _) (.inl rfl), by simp⟩

set_option maxRecDepth 100000 in
set_option maxHeartbeats 1000000 in
theorem rnumber_any (w : World) (rb top : Nat) (s : Wl.Rd) (most : Nat) (h : RdAt w rb top s) (hm : most ≤ 1073741824) :
    Calls Tryz.prog 59 #[.pointer (some ⟨rb, 0, none⟩), .int .i64 (most : Int)] w fun e w' => e = .returned (.int .i64 (Wl.rnumX s most : Int)) ∧ RdAt w' rb top (Wl.rnum s most) ∧ w.grownBy w' (some rb) ∧ w'.heap.size = w.heap.size := by
  obtain ⟨⟨ao, cap, hb, hc, hno, hf⟩, hlen, hle⟩ := h
  have c0 : w.cell? ⟨rb, 0, none⟩ = some (.slice ao s.rest.length cap) := Joins.cell_of_block hb 0
  have f0 : w.frozen? ⟨rb, 0, none⟩ = false := Joins.unfrozen_of_block hb 0
  have f1 : w.frozen? ⟨rb, 1, none⟩ = false := Joins.unfrozen_of_block hb 1
  have c1 : w.cell? ⟨rb, 1, none⟩ = some (.bool s.bad) := Joins.cell_of_block hb 1
  have SM := Enc.small_any w (.slice ao s.rest.length cap) s.rest most (by omega) (by omega) ⟨⟨ao, cap, rfl, fun h0 => by obtain ⟨b, off, e, _, hat⟩ := hf h0; exact ⟨b, off, e, hat⟩⟩, by omega⟩
  have HB : Hid _ := hb
  by_cases hE : Enc.smE s.rest most = 0
  · have hcd : (Enc.rd s.rest).2.2 = 0 ∧ (0 : Int) ≤ most ∧ ((Enc.rd s.rest).1 : Int) ≤ most := by
      unfold Enc.smE at hE
      split at hE
      · assumption
      · cases hE
    have hX : Enc.smX s.rest most = ((Enc.rd s.rest).1 : Int) := if_pos hcd
    have hN : Enc.smN s.rest most = ((Enc.rd s.rest).2.1 : Int) := if_pos hcd
    have hmd := Enc.rd_made s.rest hcd.1
    obtain ⟨X, eX⟩ : ∃ X, X = (Enc.rd s.rest).1 := ⟨_, rfl⟩
    obtain ⟨N, eN⟩ : ∃ N, N = (Enc.rd s.rest).2.1 := ⟨_, rfl⟩
    rw [← eX] at hX hmd
    rw [← eN] at hN hmd
    have hN1 : 1 ≤ N := by
      have h1 := congrArg List.length hmd.1
      have h2 := Enc.leb_pos X
      rw [List.length_take] at h1
      omega
    have HX : Hid (Wl.rnumX s most = X) := by show _ = _; unfold Wl.rnumX; rw [hX]; rfl
    have HR : Hid (Wl.rnum s most = ⟨s.rest.drop N, s.bad⟩) := by show _ = _; unfold Wl.rnum; rw [if_pos hE, hN]; rfl
    have HD : Hid ((s.rest.drop N).length = s.rest.length - N) := List.length_drop
    obtain ⟨b, off, rfl, hne, hat⟩ := hf (by intro e; rw [e] at hmd; simp at hmd; omega)
    have HAT : Hid (BytesAt w b off s.rest) := hat
    have hNl := hmd.2
    rw [hX, hN, hE] at SM
    obtain ⟨L, hL⟩ : ∃ L, L = s.rest.length := ⟨_, rfl⟩
    have HL : Hid (L = s.rest.length) := hL
    rw [← hL] at SM c0 hc hNl hlen HD
    have k1 : (N : Int) ≤ (L : Int) := by omega
    have k2 : (L : Int) ≤ (cap : Int) := by omega
    have k3 : (N : Int) ≤ (cap : Int) := by omega
    clear hf hno hcd hX hN hmd eX eN hE hat hL hb
    by_cases k4 : cap = N
    · subst k4
      have HC : Hid (L = cap) := by show _ = _; omega
      go_enter Tryz.func59, Tryz.ntmps59
      go_wp2_with (first
        | (go_at_call 91; refine SM.mono ?_; rintro e w1 ⟨rfl, rfl⟩))
      go_ret
      rw [HX.out, HR.out]
      have hd0 : s.rest.drop cap = [] := List.drop_eq_nil_of_le (by have := HL.out; omega)
      rw [hd0]
      exact ⟨rfl, ⟨⟨some ⟨b, off, none⟩, 0, (Joins.block_setCell HB.out _).trans rfl, Nat.le_refl _, (.inr ⟨_, _, rfl⟩), fun h => absurd rfl h⟩, by simp, hle⟩, grown_set _ rb _ _, by simp⟩
    · go_enter Tryz.func59, Tryz.ntmps59
      go_wp2_with (fail)
      refine SM.mono ?_
      rintro e w1 ⟨rfl, rfl⟩
      clear SM
      go_wp2_with (fail)
      go_ret
      rw [HX.out, HR.out]
      refine ⟨rfl, ⟨⟨_, cap - N, (Joins.block_setCell HB.out _).trans ?_, ?_, (.inr ⟨_, _, rfl⟩), fun _ => ⟨b, off + N, rfl, hne, ?_⟩⟩, ?_, hle⟩, grown_set _ rb _ _, by simp⟩
      · rw [HD.out]; rfl
      · rw [HD.out]; omega
      · exact bytes_other (bytesAt_drop HAT.out N (by have := HL.out; omega)) (grown_set _ rb _ _) (by omega)
      · rw [HD.out]; omega
  · have HX : Hid (Wl.rnumX s most = 0) := by
      show _ = _
      unfold Wl.rnumX Enc.smX
      unfold Enc.smE at hE
      split at hE
      · exact absurd rfl hE
      · rename_i h; rw [if_neg h]; rfl
    have HR : Hid (Wl.rnum s most = ⟨[], true⟩) := if_neg hE
    have hb1 : (Enc.smE s.rest most != 0) = true := by simpa using hE
    obtain ⟨E, eE⟩ : ∃ E, E = Enc.smE s.rest most := ⟨_, rfl⟩
    obtain ⟨X, eX⟩ : ∃ X, X = Enc.smX s.rest most := ⟨_, rfl⟩
    obtain ⟨N, eN⟩ : ∃ N, N = Enc.smN s.rest most := ⟨_, rfl⟩
    rw [← eE] at hb1
    rw [← eE, ← eX, ← eN] at SM
    clear hE eE eX eN hf hno hb
    have FA := rfail_any w rb top hle _ _ HB.out
    go_enter Tryz.func59, Tryz.ntmps59
    go_wp2_with (first
      | (go_at_call 91; refine SM.mono ?_; rintro e w1 ⟨rfl, rfl⟩)
      | (go_at_call 92; refine FA.mono ?_; rintro e w2 ⟨⟨u2, rfl⟩, r2, g2, z2⟩))
    go_ret
    rw [HX.out, HR.out]
    exact ⟨rfl, r2, g2, z2⟩

set_option maxRecDepth 100000 in
set_option maxHeartbeats 1000000 in
theorem rtext_any (w : World) (rb top : Nat) (s : Wl.Rd) (most : Nat) (h : RdAt w rb top s) (hm : most ≤ 1073741824) :
    Calls Tryz.prog 93 #[.pointer (some ⟨rb, 0, none⟩), .int .i64 (most : Int)] w fun e w' => e = .returned (str (Wl.rtextX s most)) ∧ RdAt w' rb top (Wl.rtext s most) ∧ w.grownBy w' (some rb) ∧ w'.heap.size = w.heap.size := by
  have NM := rnumber_any w rb top s most h hm
  obtain ⟨n, hn⟩ : ∃ n, n = Wl.rnumX s most := ⟨_, rfl⟩
  obtain ⟨t, ht⟩ : ∃ t, t = Wl.rnum s most := ⟨_, rfl⟩
  rw [← hn, ← ht] at NM
  have hx : Wl.rtextX s most = if n > t.rest.length then [] else t.rest.take n := by unfold Wl.rtextX; rw [← hn, ← ht]
  have hr : Wl.rtext s most = if n > t.rest.length then ⟨[], true⟩ else ⟨t.rest.drop n, t.bad⟩ := by unfold Wl.rtext; rw [← hn, ← ht]
  have hn9 : n ≤ 1073741824 := by rw [hn]; have := Wl.rnumX_le s most; omega
  clear hn ht h
  by_cases hlt : n > t.rest.length
  · rw [if_pos hlt] at hx hr
    have HX : Hid _ := hx
    have HR : Hid _ := hr
    clear hx hr
    go_enter Tryz.func93, Tryz.ntmps93
    go_wp2_with (fail)
    refine NM.mono ?_
    rintro e w1 ⟨rfl, r1, g1, z1⟩
    obtain ⟨⟨ao, cap, hb, hc, hno, hf⟩, hlen, hle⟩ := r1
    have c0 : w1.cell? ⟨rb, 0, none⟩ = some (.slice ao t.rest.length cap) := Joins.cell_of_block hb 0
    have f0 : w1.frozen? ⟨rb, 0, none⟩ = false := Joins.unfrozen_of_block hb 0
    have f1 : w1.frozen? ⟨rb, 1, none⟩ = false := Joins.unfrozen_of_block hb 1
    have HB : Hid _ := hb
    have hlt' : (n : Int) > (t.rest.length : Int) := by omega
    have FA := rfail_any w1 rb top hle _ _ hb
    clear hf hno hb NM hlt HB
    go_wp2_with (first
      | (go_at_call 92; refine FA.mono ?_; rintro e w2 ⟨⟨u2, rfl⟩, r2, g2, z2⟩))
    go_ret
    rw [HX.out, HR.out]
    exact ⟨rfl, r2, grownBy_trans g1 g2 (.inl rfl), z2.trans z1⟩
  · rw [if_neg hlt] at hx hr
    have HX : Hid _ := hx
    have HR : Hid _ := hr
    clear hx hr
    go_enter Tryz.func93, Tryz.ntmps93
    go_wp2_with (fail)
    refine NM.mono ?_
    rintro e w1 ⟨rfl, r1, g1, z1⟩
    obtain ⟨⟨ao, cap, hb, hc, hno, hf⟩, hlen, hle⟩ := r1
    have c0 : w1.cell? ⟨rb, 0, none⟩ = some (.slice ao t.rest.length cap) := Joins.cell_of_block hb 0
    have f0 : w1.frozen? ⟨rb, 0, none⟩ = false := Joins.unfrozen_of_block hb 0
    have HB : Hid _ := hb
    have k1 : ¬ (n : Int) > (t.rest.length : Int) := by omega
    have hD : (t.rest.drop n).length = t.rest.length - n := List.length_drop
    have hT : (t.rest.take n).length = n := by rw [List.length_take]; omega
    by_cases h0 : t.rest = []
    · have hl0 : t.rest.length = 0 := by rw [h0]; rfl
      have hn0 : n = 0 := by omega
      subst hn0
      have HD : Hid (t.rest.drop 0 = []) := by show _ = _; rw [h0]; rfl
      have CV : ∀ (c : Nat), (convert 22 9 (.slice ao 0 c)).run Tryz.prog w1 = .ok (.string ⟨#[]⟩) w1 := fun c => by
        cases ao with
        | none => exact run_convert_bytes_nil w1 22 5 Tryz.underlying22 Tryz.underlying5 0 c _ Tryz.underlying9
        | some ad => exact run_convert_bytes_back w1 22 9 5 ad c [] Tryz.underlying22 Tryz.underlying5 Tryz.underlying9 (fun j hj => by simp at hj)
      rw [hl0] at c0
      clear hf NM hlt hD hT k1 hc hlen h0 hl0 hb
      rcases hno with ⟨rfl, rfl⟩ | ⟨b, off, rfl⟩
      · go_wp2_with (fail)
        go_ret
        rw [HX.out, HR.out, HD.out]
        exact ⟨rfl, ⟨⟨none, 0, (Joins.block_setCell HB.out _).trans rfl, Nat.le_refl _, .inl ⟨rfl, rfl⟩, fun h => absurd rfl h⟩, by simp, hle⟩, grownBy_trans g1 (grown_set _ rb _ _) (.inl rfl), by simpa using z1⟩
      · by_cases hc0 : cap = 0
        · subst hc0
          go_wp2_with (fail)
          go_ret
          rw [HX.out, HR.out, HD.out]
          exact ⟨rfl, ⟨⟨some ⟨b, off, none⟩, 0, (Joins.block_setCell HB.out _).trans rfl, Nat.le_refl _, (.inr ⟨_, _, rfl⟩), fun h => absurd rfl h⟩, by simp, hle⟩, grownBy_trans g1 (grown_set _ rb _ _) (.inl rfl), by simpa using z1⟩
        · go_wp2_with (fail)
          go_ret
          rw [HX.out, HR.out, HD.out]
          exact ⟨rfl, ⟨⟨some ⟨b, off, none⟩, cap, (Joins.block_setCell HB.out _).trans rfl, Nat.zero_le _, (.inr ⟨_, _, rfl⟩), fun h => absurd rfl h⟩, by simp, hle⟩, grownBy_trans g1 (grown_set _ rb _ _) (.inl rfl), by simpa using z1⟩
    · obtain ⟨b, off, rfl, hne, hat⟩ := hf h0
      have CV : ∀ (c : Nat), (convert 22 9 (.slice (some ⟨b, off, none⟩) n c)).run Tryz.prog w1 = .ok (str (t.rest.take n)) w1 := fun c => by
        have := run_convert_bytes_back (P := Tryz.prog) w1 22 9 5 ⟨b, off, none⟩ c (t.rest.take n) Tryz.underlying22 Tryz.underlying5 Tryz.underlying9 (fun j hj => by
          have hadd : (⟨b, off, none⟩ : Addr).add j = ⟨b, off + j, none⟩ := by unfold Addr.add; split <;> simp_all
          rw [hT] at hj
          rw [hadd, hat j (by omega), List.getElem_take])
        rw [hT] at this
        exact this
      obtain ⟨q, hq⟩ : ∃ q, q = t.rest.take n := ⟨_, rfl⟩
      rw [← hq] at CV HX
      obtain ⟨L, hL⟩ : ∃ L, L = t.rest.length := ⟨_, rfl⟩
      have HL : Hid (L = t.rest.length) := hL
      have HAT : Hid (BytesAt w1 b off t.rest) := hat
      rw [← hL] at c0 hc k1 hlen hD
      have HD : Hid ((t.rest.drop n).length = L - n) := hD
      have nL : n ≤ L := by omega
      have k2 : (n : Int) ≤ (L : Int) := by omega
      have k3 : (L : Int) ≤ (cap : Int) := by omega
      have k5 : (n : Int) ≤ (cap : Int) := by omega
      clear hf hno NM hlt hat hL hT hq h0 hD hb
      by_cases k4 : cap = n
      · subst k4
        have hd0 : Hid (t.rest.drop cap = []) := List.drop_eq_nil_of_le (by have := HL.out; omega)
        go_wp2_with (fail)
        go_ret
        rw [HX.out, HR.out, hd0.out]
        exact ⟨rfl, ⟨⟨some ⟨b, off, none⟩, 0, (Joins.block_setCell HB.out _).trans (by simp), Nat.le_refl _, (.inr ⟨_, _, rfl⟩), fun h => absurd rfl h⟩, by simp, hle⟩, grownBy_trans g1 (grown_set _ rb _ _) (.inl rfl), by simpa using z1⟩
      · go_wp2_with (fail)
        go_ret
        rw [HX.out, HR.out]
        refine ⟨rfl, ⟨⟨some ⟨b, off + n, none⟩, cap - n, (Joins.block_setCell HB.out _).trans ?_, ?_, (.inr ⟨_, _, rfl⟩), fun _ => ⟨b, off + n, rfl, hne, ?_⟩⟩, ?_, hle⟩, grownBy_trans g1 (grown_set _ rb _ _) (.inl rfl), by simpa using z1⟩
        · rw [HD.out]; rfl
        · rw [HD.out]; omega
        · exact bytes_other (bytesAt_drop HAT.out n (by have := HL.out; omega)) (grown_set _ rb _ _) (by omega)
        · rw [HD.out]; omega

theorem RdAt.kept {w w' : World} {rb top r : Nat} {s : Wl.Rd} (h : RdAt w rb top s) (hg : w.grownBy w' (some r)) (h1 : r ≠ rb) (h2 : top ≤ r) : RdAt w' rb top s := by
  have hl := h.lt
  obtain ⟨⟨ao, cap, g1, g2, g3, g4⟩, h5, h6⟩ := h
  refine ⟨⟨ao, cap, (hg.block rb hl (by simpa using fun e => h1 e.symm)).trans g1, g2, g3, fun h0 => ?_⟩, h5, h6⟩
  obtain ⟨b, off, e, hlt, hat⟩ := g4 h0
  exact ⟨b, off, e, hlt, bytes_other hat hg (by omega)⟩

/-- Where a result of three parts lies. -/
theorem slot3 {w : World} {B : Nat} {x y z : Value} {t : TypeId} (h : w.heap[B]? = some (.cells #[x, y, z] t (0, 0))) : w.cell? ⟨B, 0, none⟩ = some x ∧ w.cell? ⟨B, 1, none⟩ = some y ∧ w.cell? ⟨B, 2, none⟩ = some z ∧ w.frozen? ⟨B, 0, none⟩ = false ∧ w.frozen? ⟨B, 1, none⟩ = false ∧ w.frozen? ⟨B, 2, none⟩ = false ∧ B < w.heap.size :=
  ⟨Joins.cell_of_block h 0, Joins.cell_of_block h 1, Joins.cell_of_block h 2, Joins.unfrozen_of_block h 0, Joins.unfrozen_of_block h 1, Joins.unfrozen_of_block h 2, (Array.getElem?_eq_some_iff.1 h).1⟩
theorem slot2 {w : World} {B : Nat} {x y : Value} {t : TypeId} (h : w.heap[B]? = some (.cells #[x, y] t (0, 0))) : w.cell? ⟨B, 0, none⟩ = some x ∧ w.cell? ⟨B, 1, none⟩ = some y ∧ w.frozen? ⟨B, 0, none⟩ = false ∧ w.frozen? ⟨B, 1, none⟩ = false ∧ B < w.heap.size :=
  ⟨Joins.cell_of_block h 0, Joins.cell_of_block h 1, Joins.unfrozen_of_block h 0, Joins.unfrozen_of_block h 1, (Array.getElem?_eq_some_iff.1 h).1⟩

theorem store3 {w : World} {B : Nat} {x y z : Value} {t : TypeId} (h : w.heap[B]? = some (.cells #[x, y, z] t (0, 0))) (x' y' z' : Value) :
    (((w.setCell ⟨B, 0, none⟩ x').setCell ⟨B, 1, none⟩ y').setCell ⟨B, 2, none⟩ z').heap[B]? = some (.cells #[x', y', z'] t (0, 0)) ∧ w.grownBy (((w.setCell ⟨B, 0, none⟩ x').setCell ⟨B, 1, none⟩ y').setCell ⟨B, 2, none⟩ z') (some B) :=
  ⟨(Joins.block_setCell (Joins.block_setCell (Joins.block_setCell h _) _) _).trans rfl, grownBy_trans (grownBy_trans (grown_set _ B _ _) (grown_set _ B _ _) (.inl rfl)) (grown_set _ B _ _) (.inl rfl)⟩
theorem store2 {w : World} {B : Nat} {x y : Value} {t : TypeId} (h : w.heap[B]? = some (.cells #[x, y] t (0, 0))) (x' y' : Value) :
    ((w.setCell ⟨B, 0, none⟩ x').setCell ⟨B, 1, none⟩ y').heap[B]? = some (.cells #[x', y'] t (0, 0)) ∧ w.grownBy ((w.setCell ⟨B, 0, none⟩ x').setCell ⟨B, 1, none⟩ y') (some B) :=
  ⟨(Joins.block_setCell (Joins.block_setCell h _) _).trans rfl, grownBy_trans (grown_set _ B _ _) (grown_set _ B _ _) (.inl rfl)⟩

def wv (x : Wl.Wr) : Value := .agg #[str x.key, str x.value, .bool x.del]

set_option maxRecDepth 100000 in
set_option maxHeartbeats 2000000 in
theorem rwrite_any (w : World) (rb top : Nat) (s : Wl.Rd) (h : RdAt w rb top s) :
    Calls Tryz.prog 60 #[.pointer (some ⟨rb, 0, none⟩)] w fun e w' => e = .returned (wv (Wl.rwriteX s)) ∧ RdAt w' rb top (Wl.rwrite s) ∧ w.grownBy w' (some rb) := by
  have hl := h.lt
  obtain ⟨B, hB⟩ : ∃ B, B = w.heap.size := ⟨_, rfl⟩
  have A0 : Below w.heap.size w (w.alloc (.cells #[.string ⟨#[]⟩, .string ⟨#[]⟩, .bool false] 34)) := (Below.refl _ _).alloc (Nat.le_refl _) _
  have N1 := rnumber_any _ rb top s 1 (h.later A0) (by decide)
  have T1 : Hid (∀ wx, RdAt wx rb top (Wl.rnum s 1) → Calls Tryz.prog 93 #[.pointer (some ⟨rb, 0, none⟩), .int .i64 512] wx fun e w' => e = .returned (str (Wl.rtextX (Wl.rnum s 1) 512)) ∧ RdAt w' rb top (Wl.rtext (Wl.rnum s 1) 512) ∧ wx.grownBy w' (some rb) ∧ w'.heap.size = wx.heap.size) := fun wx hx => rtext_any wx rb top _ 512 hx (by decide)
  have T2 : Hid (∀ wx, RdAt wx rb top (Wl.rtext (Wl.rnum s 1) 512) → Calls Tryz.prog 93 #[.pointer (some ⟨rb, 0, none⟩), .int .i64 4096] wx fun e w' => e = .returned (str (Wl.rtextX (Wl.rtext (Wl.rnum s 1) 512) 4096)) ∧ RdAt w' rb top (Wl.rtext (Wl.rtext (Wl.rnum s 1) 512) 4096) ∧ wx.grownBy w' (some rb) ∧ w'.heap.size = wx.heap.size) := fun wx hx => rtext_any wx rb top _ 4096 hx (by decide)
  have G0 : Hid (w.grownBy (w.alloc (.cells #[.string ⟨#[]⟩, .string ⟨#[]⟩, .bool false] 34)) (some rb)) := World.grownBy_alloc _ _ _
  have P0 : Hid ((w.alloc (.cells #[.string ⟨#[]⟩, .string ⟨#[]⟩, .bool false] 34)).heap[w.heap.size]? = some (.cells #[.string ⟨#[]⟩, .string ⟨#[]⟩, .bool false] 34 (0, 0))) := World.alloc_heap_new w _
  have NE : Hid (∀ {a b : World} {o : Obj}, a.grownBy b (some rb) → a.heap[w.heap.size]? = some o → b.heap[w.heap.size]? = some o) := fun {a b o} hg ha => (hg.block _ (Array.getElem?_eq_some_iff.1 ha).1 (by simp; omega)).trans ha
  clear h A0 hB
  by_cases hk : Wl.rnumX s 1 = 1
  · have HX : Hid (Wl.rwriteX s = ⟨Wl.rtextX (Wl.rnum s 1) 512, [], true⟩) := if_pos hk
    have HR : Hid (Wl.rwrite s = Wl.rtext (Wl.rnum s 1) 512) := if_pos hk
    rw [hk] at N1
    rw [HX.out, HR.out]
    generalize Wl.rtextX (Wl.rnum s 1) 512 = K at T1
    clear hk HX HR
    go_enter Tryz.func60, Tryz.ntmps60
    go_wp2_with (first
      | (go_at_call 59; refine N1.mono ?_; rintro e w1 ⟨rfl, r1, g1, z1⟩; have P1 := NE.out g1 P0.out; have G1 : Hid _ := grownBy_trans G0.out g1 (.inl rfl); clear N1)
      | (go_at_call 93; refine (T1.out _ r1).mono ?_; rintro e w2 ⟨rfl, r2, g2, z2⟩; have P2 := NE.out g2 P1; have G2 : Hid _ := grownBy_trans G1.out g2 (.inl rfl); obtain ⟨q0, q1, q2, f0, f1, f2, q3⟩ := slot3 P2; clear T1))
    obtain ⟨P3, G3⟩ := store3 P2 (.string ⟨K.toArray⟩) (.string ⟨#[]⟩) (.bool true)
    have R3 := r2.kept G3 (by omega) (by have := r2.le; omega)
    have G4 := grownBy_trans G2.out G3 (.inr ⟨_, rfl, Nat.le_refl _⟩)
    clear G2 G1 G0 P1 P0 r1 r2 g1 g2 q0 q1 q2 f0 f1 f2 NE T2
    generalize (((w2.setCell ⟨w.heap.size, 0, none⟩ (.string ⟨K.toArray⟩)).setCell ⟨w.heap.size, 1, none⟩ (.string ⟨#[]⟩)).setCell ⟨w.heap.size, 2, none⟩ (.bool true)) = W3 at P3 R3 G4 ⊢
    obtain ⟨q0, q1, q2, _, _, _, _⟩ := slot3 P3
    refine bodyPost_ret (v := .agg #[str K, str [], .bool true]) (by simp [results, Tryz.results60, go_sem, q0, q1, q2]) rfl ?_
    exact ⟨rfl, R3, G4⟩
  · have HX : Hid (Wl.rwriteX s = ⟨Wl.rtextX (Wl.rnum s 1) 512, Wl.rtextX (Wl.rtext (Wl.rnum s 1) 512) 4096, false⟩) := if_neg hk
    have HR : Hid (Wl.rwrite s = Wl.rtext (Wl.rtext (Wl.rnum s 1) 512) 4096) := if_neg hk
    have hn : ((Wl.rnumX s 1 : Int) == 1) = false := by simp; omega
    rw [HX.out, HR.out]
    generalize Wl.rtextX (Wl.rtext (Wl.rnum s 1) 512) 4096 = V at T2
    generalize Wl.rtextX (Wl.rnum s 1) 512 = K at T1
    generalize Wl.rnumX s 1 = n at N1 hn
    clear hk HX HR
    go_enter Tryz.func60, Tryz.ntmps60
    go_wp2_with (first
      | (go_at_call 59; refine N1.mono ?_; rintro e w1 ⟨rfl, r1, g1, z1⟩; have P1 := NE.out g1 P0.out; have G1 : Hid _ := grownBy_trans G0.out g1 (.inl rfl); clear N1)
      | (go_at_call 93; have tok := T1; refine (T1.out _ r1).mono ?_; rintro e w2 ⟨rfl, r2, g2, z2⟩; have P2 := NE.out g2 P1; have G2 : Hid _ := grownBy_trans G1.out g2 (.inl rfl); clear T1 tok)
      | (go_at_call 93; refine (T2.out _ r2).mono ?_; rintro e w3 ⟨rfl, r3, g3, z3⟩; have P3 := NE.out g3 P2; have G3 : Hid _ := grownBy_trans G2.out g3 (.inl rfl); obtain ⟨q0, q1, q2, f0, f1, f2, q3⟩ := slot3 P3; clear T2))
    obtain ⟨P4, G4⟩ := store3 P3 (.string ⟨K.toArray⟩) (.string ⟨V.toArray⟩) (.bool false)
    have R4 := r3.kept G4 (by omega) (by have := r3.le; omega)
    have G5 := grownBy_trans G3.out G4 (.inr ⟨_, rfl, Nat.le_refl _⟩)
    clear G3 G2 G1 G0 P2 P1 P0 r1 r2 r3 g1 g2 g3 q0 q1 q2 f0 f1 f2 NE
    generalize (((w3.setCell ⟨w.heap.size, 0, none⟩ (.string ⟨K.toArray⟩)).setCell ⟨w.heap.size, 1, none⟩ (.string ⟨V.toArray⟩)).setCell ⟨w.heap.size, 2, none⟩ (.bool false)) = W4 at P4 R4 G5 ⊢
    obtain ⟨q0, q1, q2, _, _, _, _⟩ := slot3 P4
    refine bodyPost_ret (v := .agg #[str K, str V, .bool false]) (by simp [results, Tryz.results60, go_sem, q0, q1, q2]) rfl ?_
    exact ⟨rfl, R4, G5⟩
end Go.Proofs.YtppfkhpofbbnbaaGreatDoor
