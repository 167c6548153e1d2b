/-
  A reader that takes an edit's bytes to pieces: what its calls answer, and what is left. (WDec's texts, for the manifest's reader.) .. and what follows from it.
-/
import Derived.Test.YtlhnjloimhcpfabGreatDoorWlP
import Derived.Test.YtlhnjloimhcpfabGreatDoorKWr
import Derived.Test.YtlhnjloimhcpfabGreatDoorKRecs
import Derived.Lib.SmallJoins
import Derived.Test.YtlhnjloimhcpfabGreatDoorYG
import Derived.Test.YtlhnjloimhcpfabGreatDoorYJ
namespace Go.Proofs.YtlhnjloimhcpfabGreatDoor
open Go.RowKit

/-- A reader lies at block rb. -/
structure YRd (w : World) (rb top : Nat) (s : Wl.Rd) : Prop where
  form : ∃ ao cap, w.heap[rb]? = some (.cells #[.slice ao s.rest.length cap, .bool s.bad] 155 (0, 0)) ∧ s.rest.length ≤ cap ∧ ((ao = none ∧ cap = 0) ∨ ∃ b off, ao = some ⟨b, off, none⟩) ∧ (s.rest ≠ [] → ∃ b off, ao = some ⟨b, off, none⟩ ∧ b < top ∧ BytesAt w b off s.rest)
  len : s.rest.length ≤ 1000000000
  le : top ≤ rb

theorem YRd.lt {w : World} {rb top : Nat} {s : Wl.Rd} (h : YRd w rb top s) : rb < w.heap.size := by
  obtain ⟨⟨ao, cap, hb, _⟩, _, _⟩ := h
  exact (Array.getElem?_eq_some_iff.1 hb).1
theorem YRd.later {w w' : World} {rb top : Nat} {s : Wl.Rd} (h : YRd w rb top s) (hb : Below w.heap.size w w') : YRd w' rb top s := by
  have hl := h.lt
  obtain ⟨⟨ao, cap, h1, h2, h3, h4⟩, h5, h6⟩ := h
  refine ⟨⟨ao, cap, (hb.block rb hl).trans h1, h2, h3, fun h0 => ?_⟩, h5, h6⟩
  obtain ⟨b, off, e, hne, hat⟩ := h4 h0
  exact ⟨b, off, e, hne, hat.later hb⟩
theorem ybytes_other {w w' : World} {rb b off : Nat} {l : List UInt8} (h : BytesAt w b off l) (hg : w.grownBy w' (some rb)) (hne : b ≠ rb) : BytesAt w' b off l := fun j hj =>
  hg.cell (h j hj) (by simpa using hne)
theorem ybytesAt_drop {w : World} {b off : Nat} {l : List UInt8} (h : BytesAt w b off l) (n : Nat) (hn : n ≤ l.length) : BytesAt w b (off + n) (l.drop n) := fun j hj => by
  rw [List.length_drop] at hj
  have := h (n + j) (by omega)
  rw [Nat.add_assoc, this, List.getElem_drop]

theorem ygrown_set (w : World) (rb i : Nat) (u : Value) : w.grownBy (w.setCell ⟨rb, i, none⟩ u) (some rb) := ⟨rfl, rfl, rfl, by simp [World.setCell], fun k _ hne => Below.heap_setCell _ _ _ _ (fun e => hne (by rw [e]))⟩
theorem yfail_any (w : World) (rb top : Nat) (hle : top ≤ rb) (v : Value) (bad : Bool) (hb : w.heap[rb]? = some (.cells #[v, .bool bad] 155 (0, 0))) :
    Calls Tryz.prog 143 #[.pointer (some ⟨rb, 0, none⟩)] w fun e w' => (∃ u, e = .returned u) ∧ YRd w' rb top ⟨[], true⟩ ∧ w.grownBy w' (some rb) ∧ w'.heap.size = w.heap.size := by
  have c0 : w.cell? ⟨rb, 0, none⟩ = some v := Joins.cell_of_block hb 0
  have f0 : w.frozen? ⟨rb, 0, none⟩ = false := Joins.unfrozen_of_block hb 0
  have f1 : w.frozen? ⟨rb, 1, none⟩ = false := Joins.unfrozen_of_block hb 1
  have c1 : w.cell? ⟨rb, 1, none⟩ = some (.bool bad) := Joins.cell_of_block hb 1
  have HB : Hid _ := hb
  clear hb
  go_enter Tryz.func143, Tryz.ntmps143
  go_wp2_with (fail)
  go_end0
  exact ⟨⟨_, rfl⟩, ⟨⟨none, 0, (Joins.block_setCell (Joins.block_setCell HB.out _) _).trans rfl, Nat.le_refl _, .inl ⟨rfl, rfl⟩, fun h => absurd rfl h⟩, by simp, hle⟩, grownBy_trans (ygrown_set _ rb _ _) (ygrown_set _ rb _ _) (.inl rfl), by simp⟩

set_option maxRecDepth 100000 in
set_option maxHeartbeats 1000000 in
theorem ynumber_any (w : World) (rb top : Nat) (s : Wl.Rd) (most : Nat) (h : YRd w rb top s) (hm : most ≤ 1073741824) :
    Calls Tryz.prog 104 #[.pointer (some ⟨rb, 0, none⟩), .int .i64 (most : Int)] w fun e w' => e = .returned (.int .i64 (Wl.rnumX s most : Int)) ∧ YRd w' rb top (Wl.rnum s most) ∧ w.grownBy w' (some rb) ∧ w'.heap.size = w.heap.size := by
  obtain ⟨⟨ao, cap, hb, hc, hno, hf⟩, hlen, hle⟩ := h
  have c0 : w.cell? ⟨rb, 0, none⟩ = some (.slice ao s.rest.length cap) := Joins.cell_of_block hb 0
  have f0 : w.frozen? ⟨rb, 0, none⟩ = false := Joins.unfrozen_of_block hb 0
  have f1 : w.frozen? ⟨rb, 1, none⟩ = false := Joins.unfrozen_of_block hb 1
  have c1 : w.cell? ⟨rb, 1, none⟩ = some (.bool s.bad) := Joins.cell_of_block hb 1
  have SM := Enc.small_any w (.slice ao s.rest.length cap) s.rest most (by omega) (by omega) ⟨⟨ao, cap, rfl, fun h0 => by obtain ⟨b, off, e, _, hat⟩ := hf h0; exact ⟨b, off, e, hat⟩⟩, by omega⟩
  have HB : Hid _ := hb
  by_cases hE : Enc.smE s.rest most = 0
  · have hcd : (Enc.rd s.rest).2.2 = 0 ∧ (0 : Int) ≤ most ∧ ((Enc.rd s.rest).1 : Int) ≤ most := by
      unfold Enc.smE at hE
      split at hE
      · assumption
      · cases hE
    have hX : Enc.smX s.rest most = ((Enc.rd s.rest).1 : Int) := if_pos hcd
    have hN : Enc.smN s.rest most = ((Enc.rd s.rest).2.1 : Int) := if_pos hcd
    have hmd := Enc.rd_made s.rest hcd.1
    obtain ⟨X, eX⟩ : ∃ X, X = (Enc.rd s.rest).1 := ⟨_, rfl⟩
    obtain ⟨N, eN⟩ : ∃ N, N = (Enc.rd s.rest).2.1 := ⟨_, rfl⟩
    rw [← eX] at hX hmd
    rw [← eN] at hN hmd
    have hN1 : 1 ≤ N := by
      have h1 := congrArg List.length hmd.1
      have h2 := Enc.leb_pos X
      rw [List.length_take] at h1
      omega
    have HX : Hid (Wl.rnumX s most = X) := by show _ = _; unfold Wl.rnumX; rw [hX]; rfl
    have HR : Hid (Wl.rnum s most = ⟨s.rest.drop N, s.bad⟩) := by show _ = _; unfold Wl.rnum; rw [if_pos hE, hN]; rfl
    have HD : Hid ((s.rest.drop N).length = s.rest.length - N) := List.length_drop
    obtain ⟨b, off, rfl, hne, hat⟩ := hf (by intro e; rw [e] at hmd; simp at hmd; omega)
    have HAT : Hid (BytesAt w b off s.rest) := hat
    have hNl := hmd.2
    rw [hX, hN, hE] at SM
    obtain ⟨L, hL⟩ : ∃ L, L = s.rest.length := ⟨_, rfl⟩
    have HL : Hid (L = s.rest.length) := hL
    rw [← hL] at SM c0 hc hNl hlen HD
    have k1 : (N : Int) ≤ (L : Int) := by omega
    have k2 : (L : Int) ≤ (cap : Int) := by omega
    have k3 : (N : Int) ≤ (cap : Int) := by omega
    clear hf hno hcd hX hN hmd eX eN hE hat hL hb
    by_cases k4 : cap = N
    · subst k4
      have HC : Hid (L = cap) := by show _ = _; omega
      go_enter Tryz.func104, Tryz.ntmps104
      go_wp2_with (first
        | (go_at_call 142; refine SM.mono ?_; rintro e w1 ⟨rfl, rfl⟩))
      go_ret
      rw [HX.out, HR.out]
      have hd0 : s.rest.drop cap = [] := List.drop_eq_nil_of_le (by have := HL.out; omega)
      rw [hd0]
      exact ⟨rfl, ⟨⟨some ⟨b, off, none⟩, 0, (Joins.block_setCell HB.out _).trans rfl, Nat.le_refl _, (.inr ⟨_, _, rfl⟩), fun h => absurd rfl h⟩, by simp, hle⟩, ygrown_set _ rb _ _, by simp⟩
    · go_enter Tryz.func104, Tryz.ntmps104
      go_wp2_with (fail)
      refine SM.mono ?_
      rintro e w1 ⟨rfl, rfl⟩
      clear SM
      go_wp2_with (fail)
      go_ret
      rw [HX.out, HR.out]
      refine ⟨rfl, ⟨⟨_, cap - N, (Joins.block_setCell HB.out _).trans ?_, ?_, (.inr ⟨_, _, rfl⟩), fun _ => ⟨b, off + N, rfl, hne, ?_⟩⟩, ?_, hle⟩, ygrown_set _ rb _ _, by simp⟩
      · rw [HD.out]; rfl
      · rw [HD.out]; omega
      · exact ybytes_other (ybytesAt_drop HAT.out N (by have := HL.out; omega)) (ygrown_set _ rb _ _) (by omega)
      · rw [HD.out]; omega
  · have HX : Hid (Wl.rnumX s most = 0) := by
      show _ = _
      unfold Wl.rnumX Enc.smX
      unfold Enc.smE at hE
      split at hE
      · exact absurd rfl hE
      · rename_i h; rw [if_neg h]; rfl
    have HR : Hid (Wl.rnum s most = ⟨[], true⟩) := if_neg hE
    have hb1 : (Enc.smE s.rest most != 0) = true := by simpa using hE
    obtain ⟨E, eE⟩ : ∃ E, E = Enc.smE s.rest most := ⟨_, rfl⟩
    obtain ⟨X, eX⟩ : ∃ X, X = Enc.smX s.rest most := ⟨_, rfl⟩
    obtain ⟨N, eN⟩ : ∃ N, N = Enc.smN s.rest most := ⟨_, rfl⟩
    rw [← eE] at hb1
    rw [← eE, ← eX, ← eN] at SM
    clear hE eE eX eN hf hno hb
    have FA := yfail_any w rb top hle _ _ HB.out
    go_enter Tryz.func104, Tryz.ntmps104
    go_wp2_with (first
      | (go_at_call 142; refine SM.mono ?_; rintro e w1 ⟨rfl, rfl⟩)
      | (go_at_call 143; refine FA.mono ?_; rintro e w2 ⟨⟨u2, rfl⟩, r2, g2, z2⟩))
    go_ret
    rw [HX.out, HR.out]
    exact ⟨rfl, r2, g2, z2⟩

set_option maxRecDepth 100000 in
set_option maxHeartbeats 1000000 in
theorem ykey_any (w : World) (rb top : Nat) (s : Wl.Rd) (h : YRd w rb top s) :
    Calls Tryz.prog 144 #[.pointer (some ⟨rb, 0, none⟩)] w fun e w' => e = .returned (str (Wl.rtextX s 512)) ∧ YRd w' rb top (Wl.rtext s 512) ∧ w.grownBy w' (some rb) ∧ w'.heap.size = w.heap.size := by
  have NM := ynumber_any w rb top s 512 h (by decide)
  obtain ⟨n, hn⟩ : ∃ n, n = Wl.rnumX s 512 := ⟨_, rfl⟩
  obtain ⟨t, ht⟩ : ∃ t, t = Wl.rnum s 512 := ⟨_, rfl⟩
  rw [← hn, ← ht] at NM
  have hx : Wl.rtextX s 512 = if n > t.rest.length then [] else t.rest.take n := by unfold Wl.rtextX; rw [← hn, ← ht]
  have hr : Wl.rtext s 512 = if n > t.rest.length then ⟨[], true⟩ else ⟨t.rest.drop n, t.bad⟩ := by unfold Wl.rtext; rw [← hn, ← ht]
  have hn9 : n ≤ 1073741824 := by rw [hn]; have := Wl.rnumX_le s 512; omega
  clear hn ht h
  by_cases hlt : n > t.rest.length
  · rw [if_pos hlt] at hx hr
    have HX : Hid _ := hx
    have HR : Hid _ := hr
    clear hx hr
    go_enter Tryz.func144, Tryz.ntmps144
    go_wp2_with (fail)
    refine NM.mono ?_
    rintro e w1 ⟨rfl, r1, g1, z1⟩
    obtain ⟨⟨ao, cap, hb, hc, hno, hf⟩, hlen, hle⟩ := r1
    have c0 : w1.cell? ⟨rb, 0, none⟩ = some (.slice ao t.rest.length cap) := Joins.cell_of_block hb 0
    have f0 : w1.frozen? ⟨rb, 0, none⟩ = false := Joins.unfrozen_of_block hb 0
    have f1 : w1.frozen? ⟨rb, 1, none⟩ = false := Joins.unfrozen_of_block hb 1
    have HB : Hid _ := hb
    have hlt' : (n : Int) > (t.rest.length : Int) := by omega
    have FA := yfail_any w1 rb top hle _ _ hb
    clear hf hno hb NM hlt HB
    go_wp2_with (first
      | (go_at_call 143; refine FA.mono ?_; rintro e w2 ⟨⟨u2, rfl⟩, r2, g2, z2⟩))
    go_ret
    rw [HX.out, HR.out]
    exact ⟨rfl, r2, grownBy_trans g1 g2 (.inl rfl), z2.trans z1⟩
  · rw [if_neg hlt] at hx hr
    have HX : Hid _ := hx
    have HR : Hid _ := hr
    clear hx hr
    go_enter Tryz.func144, Tryz.ntmps144
    go_wp2_with (fail)
    refine NM.mono ?_
    rintro e w1 ⟨rfl, r1, g1, z1⟩
    obtain ⟨⟨ao, cap, hb, hc, hno, hf⟩, hlen, hle⟩ := r1
    have c0 : w1.cell? ⟨rb, 0, none⟩ = some (.slice ao t.rest.length cap) := Joins.cell_of_block hb 0
    have f0 : w1.frozen? ⟨rb, 0, none⟩ = false := Joins.unfrozen_of_block hb 0
    have HB : Hid _ := hb
    have k1 : ¬ (n : Int) > (t.rest.length : Int) := by omega
    have hD : (t.rest.drop n).length = t.rest.length - n := List.length_drop
    have hT : (t.rest.take n).length = n := by rw [List.length_take]; omega
    by_cases h0 : t.rest = []
    · have hl0 : t.rest.length = 0 := by rw [h0]; rfl
      have hn0 : n = 0 := by omega
      subst hn0
      have HD : Hid (t.rest.drop 0 = []) := by show _ = _; rw [h0]; rfl
      have CV : ∀ (c : Nat), (convert 33 9 (.slice ao 0 c)).run Tryz.prog w1 = .ok (.string ⟨#[]⟩) w1 := fun c => by
        cases ao with
        | none => exact run_convert_bytes_nil w1 33 5 Tryz.underlying33 Tryz.underlying5 0 c _ Tryz.underlying9
        | some ad => exact run_convert_bytes_back w1 33 9 5 ad c [] Tryz.underlying33 Tryz.underlying5 Tryz.underlying9 (fun j hj => by simp at hj)
      rw [hl0] at c0
      clear hf NM hlt hD hT k1 hc hlen h0 hl0 hb
      rcases hno with ⟨rfl, rfl⟩ | ⟨b, off, rfl⟩
      · go_wp2_with (fail)
        go_ret
        rw [HX.out, HR.out, HD.out]
        exact ⟨rfl, ⟨⟨none, 0, (Joins.block_setCell HB.out _).trans rfl, Nat.le_refl _, .inl ⟨rfl, rfl⟩, fun h => absurd rfl h⟩, by simp, hle⟩, grownBy_trans g1 (ygrown_set _ rb _ _) (.inl rfl), by simpa using z1⟩
      · by_cases hc0 : cap = 0
        · subst hc0
          go_wp2_with (fail)
          go_ret
          rw [HX.out, HR.out, HD.out]
          exact ⟨rfl, ⟨⟨some ⟨b, off, none⟩, 0, (Joins.block_setCell HB.out _).trans rfl, Nat.le_refl _, (.inr ⟨_, _, rfl⟩), fun h => absurd rfl h⟩, by simp, hle⟩, grownBy_trans g1 (ygrown_set _ rb _ _) (.inl rfl), by simpa using z1⟩
        · go_wp2_with (fail)
          go_ret
          rw [HX.out, HR.out, HD.out]
          exact ⟨rfl, ⟨⟨some ⟨b, off, none⟩, cap, (Joins.block_setCell HB.out _).trans rfl, Nat.zero_le _, (.inr ⟨_, _, rfl⟩), fun h => absurd rfl h⟩, by simp, hle⟩, grownBy_trans g1 (ygrown_set _ rb _ _) (.inl rfl), by simpa using z1⟩
    · obtain ⟨b, off, rfl, hne, hat⟩ := hf h0
      have CV : ∀ (c : Nat), (convert 33 9 (.slice (some ⟨b, off, none⟩) n c)).run Tryz.prog w1 = .ok (str (t.rest.take n)) w1 := fun c => by
        have := run_convert_bytes_back (P := Tryz.prog) w1 33 9 5 ⟨b, off, none⟩ c (t.rest.take n) Tryz.underlying33 Tryz.underlying5 Tryz.underlying9 (fun j hj => by
          have hadd : (⟨b, off, none⟩ : Addr).add j = ⟨b, off + j, none⟩ := by unfold Addr.add; split <;> simp_all
          rw [hT] at hj
          rw [hadd, hat j (by omega), List.getElem_take])
        rw [hT] at this
        exact this
      obtain ⟨q, hq⟩ : ∃ q, q = t.rest.take n := ⟨_, rfl⟩
      rw [← hq] at CV HX
      obtain ⟨L, hL⟩ : ∃ L, L = t.rest.length := ⟨_, rfl⟩
      have HL : Hid (L = t.rest.length) := hL
      have HAT : Hid (BytesAt w1 b off t.rest) := hat
      rw [← hL] at c0 hc k1 hlen hD
      have HD : Hid ((t.rest.drop n).length = L - n) := hD
      have nL : n ≤ L := by omega
      have k2 : (n : Int) ≤ (L : Int) := by omega
      have k3 : (L : Int) ≤ (cap : Int) := by omega
      have k5 : (n : Int) ≤ (cap : Int) := by omega
      clear hf hno NM hlt hat hL hT hq h0 hD hb
      by_cases k4 : cap = n
      · subst k4
        have hd0 : Hid (t.rest.drop cap = []) := List.drop_eq_nil_of_le (by have := HL.out; omega)
        go_wp2_with (fail)
        go_ret
        rw [HX.out, HR.out, hd0.out]
        exact ⟨rfl, ⟨⟨some ⟨b, off, none⟩, 0, (Joins.block_setCell HB.out _).trans (by simp), Nat.le_refl _, (.inr ⟨_, _, rfl⟩), fun h => absurd rfl h⟩, by simp, hle⟩, grownBy_trans g1 (ygrown_set _ rb _ _) (.inl rfl), by simpa using z1⟩
      · go_wp2_with (fail)
        go_ret
        rw [HX.out, HR.out]
        refine ⟨rfl, ⟨⟨some ⟨b, off + n, none⟩, cap - n, (Joins.block_setCell HB.out _).trans ?_, ?_, (.inr ⟨_, _, rfl⟩), fun _ => ⟨b, off + n, rfl, hne, ?_⟩⟩, ?_, hle⟩, grownBy_trans g1 (ygrown_set _ rb _ _) (.inl rfl), by simpa using z1⟩
        · rw [HD.out]; rfl
        · rw [HD.out]; omega
        · exact ybytes_other (ybytesAt_drop HAT.out n (by have := HL.out; omega)) (ygrown_set _ rb _ _) (by omega)
        · rw [HD.out]; omega
end Go.Proofs.YtlhnjloimhcpfabGreatDoor
namespace Go.Proofs.YtlhnjloimhcpfabGreatDoor
open Go.RowKit

theorem YRd.kept {w w' : World} {rb top r : Nat} {s : Wl.Rd} (h : YRd w rb top s) (hg : w.grownBy w' (some r)) (h1 : r ≠ rb) (h2 : top ≤ r) : YRd w' rb top s := by
  have hl := h.lt
  obtain ⟨⟨ao, cap, g1, g2, g3, g4⟩, h5, h6⟩ := h
  refine ⟨⟨ao, cap, (hg.block rb hl (by simpa using fun e => h1 e.symm)).trans g1, g2, g3, fun h0 => ?_⟩, h5, h6⟩
  obtain ⟨b, off, e, hlt, hat⟩ := g4 h0
  exact ⟨b, off, e, hlt, ybytes_other hat hg (by omega)⟩

/-- A block that is none of the reader's is turned. -/
theorem turn_x {w a : World} {rb top X k : Nat} {s : Wl.Rd} {cs : Array Value} {t : TypeId} (r : YRd a rb top s) (p : a.heap[X]? = some (.cells cs t (0, 0))) (g : w.grownBy a (some rb)) (hX : w.heap.size ≤ X) (hrb : rb < w.heap.size) (v : Value) :
    YRd (a.setCell ⟨X, k, none⟩ v) rb top s ∧ (a.setCell ⟨X, k, none⟩ v).heap[X]? = some (.cells (cs.setIfInBounds k v) t (0, 0)) ∧ w.grownBy (a.setCell ⟨X, k, none⟩ v) (some rb) :=
  ⟨r.kept (ygrown_set _ X k v) (by omega) (by have := r.le; omega), Joins.block_setCell p v, grownBy_trans g (ygrown_set _ X k v) (.inr ⟨_, rfl, hX⟩)⟩

set_option maxRecDepth 100000 in
set_option maxHeartbeats 4000000 in
theorem ywords_gen (w : World) (rb top : Nat) (s s1 s2 s3 s4 s5 : Wl.Rd) (v1 v2 v3 : Int) (v4 v5 : Mf.Bs) (h : YRd w rb top s)
    (N1 : Hid (∀ wx, YRd wx rb top s → Calls Tryz.prog 104 #[.pointer (some ⟨rb, 0, none⟩), .int .i64 999999] wx fun e w' => e = .returned (.int .i64 v1) ∧ YRd w' rb top s1 ∧ wx.grownBy w' (some rb) ∧ w'.heap.size = wx.heap.size))
    (N2 : Hid (∀ wx, YRd wx rb top s1 → Calls Tryz.prog 104 #[.pointer (some ⟨rb, 0, none⟩), .int .i64 6] wx fun e w' => e = .returned (.int .i64 v2) ∧ YRd w' rb top s2 ∧ wx.grownBy w' (some rb) ∧ w'.heap.size = wx.heap.size))
    (N3 : Hid (∀ wx, YRd wx rb top s2 → Calls Tryz.prog 104 #[.pointer (some ⟨rb, 0, none⟩), .int .i64 65536] wx fun e w' => e = .returned (.int .i64 v3) ∧ YRd w' rb top s3 ∧ wx.grownBy w' (some rb) ∧ w'.heap.size = wx.heap.size))
    (N4 : Hid (∀ wx, YRd wx rb top s3 → Calls Tryz.prog 144 #[.pointer (some ⟨rb, 0, none⟩)] wx fun e w' => e = .returned (str v4) ∧ YRd w' rb top s4 ∧ wx.grownBy w' (some rb) ∧ w'.heap.size = wx.heap.size))
    (N5 : Hid (∀ wx, YRd wx rb top s4 → Calls Tryz.prog 144 #[.pointer (some ⟨rb, 0, none⟩)] wx fun e w' => e = .returned (str v5) ∧ YRd w' rb top s5 ∧ wx.grownBy w' (some rb) ∧ w'.heap.size = wx.heap.size))
    : Calls Tryz.prog 105 #[.pointer (some ⟨rb, 0, none⟩)] w fun e w' => e = .returned (mv ⟨v1, v2, v3, v4, v5⟩) ∧ YRd w' rb top s5 ∧ w.grownBy w' (some rb) := by
  have hl := h.lt
  have A0 : Below w.heap.size w ((w.alloc (.cells #[.int .i64 0, .int .i64 0, .int .i64 0, .string ⟨#[]⟩, .string ⟨#[]⟩] 43)).alloc (.cells #[.int .i64 0, .int .i64 0, .int .i64 0, .string ⟨#[]⟩, .string ⟨#[]⟩] 43)) := ((Below.refl _ _).alloc (Nat.le_refl _) _).alloc (by simp) _
  have r0 := h.later A0
  have G0 : Hid (w.grownBy ((w.alloc (.cells #[.int .i64 0, .int .i64 0, .int .i64 0, .string ⟨#[]⟩, .string ⟨#[]⟩] 43)).alloc (.cells #[.int .i64 0, .int .i64 0, .int .i64 0, .string ⟨#[]⟩, .string ⟨#[]⟩] 43)) (some rb)) := grownBy_trans (World.grownBy_alloc _ _ _) (World.grownBy_alloc _ _ _) (.inl rfl)
  have PX0 : Hid (((w.alloc (.cells #[.int .i64 0, .int .i64 0, .int .i64 0, .string ⟨#[]⟩, .string ⟨#[]⟩] 43)).alloc (.cells #[.int .i64 0, .int .i64 0, .int .i64 0, .string ⟨#[]⟩, .string ⟨#[]⟩] 43)).heap[w.heap.size + 1]? = some (.cells #[.int .i64 0, .int .i64 0, .int .i64 0, .string ⟨#[]⟩, .string ⟨#[]⟩] 43 (0, 0))) := by
    have := World.alloc_heap_new (w.alloc (.cells #[.int .i64 0, .int .i64 0, .int .i64 0, .string ⟨#[]⟩, .string ⟨#[]⟩] 43)) (.cells #[.int .i64 0, .int .i64 0, .int .i64 0, .string ⟨#[]⟩, .string ⟨#[]⟩] 43)
    rw [World.size_alloc] at this
    exact this
  have PR0 : Hid (((w.alloc (.cells #[.int .i64 0, .int .i64 0, .int .i64 0, .string ⟨#[]⟩, .string ⟨#[]⟩] 43)).alloc (.cells #[.int .i64 0, .int .i64 0, .int .i64 0, .string ⟨#[]⟩, .string ⟨#[]⟩] 43)).heap[w.heap.size]? = some (.cells #[.int .i64 0, .int .i64 0, .int .i64 0, .string ⟨#[]⟩, .string ⟨#[]⟩] 43 (0, 0))) := (Below.heap_alloc _ _ _ (by simp)).trans (World.alloc_heap_new w _)
  have NE : Hid (∀ {a b : World} {o : Obj}, a.grownBy b (some rb) → a.heap[w.heap.size + 1]? = some o → b.heap[w.heap.size + 1]? = some o) := fun {a b o} hg ha => (hg.block _ (Array.getElem?_eq_some_iff.1 ha).1 (by simp; omega)).trans ha
  have NR : Hid (∀ {a b : World} {o : Obj}, a.grownBy b (some rb) → a.heap[w.heap.size]? = some o → b.heap[w.heap.size]? = some o) := fun {a b o} hg ha => (hg.block _ (Array.getElem?_eq_some_iff.1 ha).1 (by simp; omega)).trans ha
  have NX : Hid (∀ {a : World} {k : Nat} {v : Value} {o : Obj}, a.heap[w.heap.size]? = some o → (a.setCell ⟨w.heap.size + 1, k, none⟩ v).heap[w.heap.size]? = some o) := fun {a k v o} ha => (Below.heap_setCell _ _ _ _ (by simp)).trans ha
  clear h A0
  go_enter Tryz.func105, Tryz.ntmps105
  go_wp2_with (first
    | (go_at_call 104; have tok := r0; refine (N1.out _ r0).mono ?_; rintro e u1 ⟨rfl, q1, g1, z1⟩; have p1 := NE.out g1 PX0.out; have GG1 := grownBy_trans G0.out g1 (.inl rfl); obtain ⟨c10, c11, c12, c13, c14, f10, f11, f12, f13, f14, l1⟩ := slot5 p1; obtain ⟨r1, px1, gx1⟩ := turn_x (k := 0) q1 p1 GG1 (Nat.le_succ _) hl (.int .i64 v1); have PX1 : Hid ((u1.setCell ⟨w.heap.size + 1, 0, none⟩ (.int .i64 v1)).heap[w.heap.size + 1]? = some (.cells #[.int .i64 v1, .int .i64 0, .int .i64 0, .string ⟨#[]⟩, .string ⟨#[]⟩] 43 (0, 0))) := px1; have PR1 := hide (NX.out (k := 0) (v := .int .i64 v1) (NR.out g1 PR0.out)); have G1 := hide gx1; clear N1 r0 q1 g1 p1 GG1 px1 gx1 PX0 PR0 G0 tok)
    | (go_at_call 104; have tok := r1; refine (N2.out _ r1).mono ?_; rintro e u2 ⟨rfl, q2, g2, z2⟩; have p2 := NE.out g2 PX1.out; have GG2 := grownBy_trans G1.out g2 (.inl rfl); obtain ⟨c20, c21, c22, c23, c24, f20, f21, f22, f23, f24, l2⟩ := slot5 p2; obtain ⟨r2, px2, gx2⟩ := turn_x (k := 1) q2 p2 GG2 (Nat.le_succ _) hl (.int .i64 v2); have PX2 : Hid ((u2.setCell ⟨w.heap.size + 1, 1, none⟩ (.int .i64 v2)).heap[w.heap.size + 1]? = some (.cells #[.int .i64 v1, .int .i64 v2, .int .i64 0, .string ⟨#[]⟩, .string ⟨#[]⟩] 43 (0, 0))) := px2; have PR2 := hide (NX.out (k := 1) (v := .int .i64 v2) (NR.out g2 PR1.out)); have G2 := hide gx2; clear N2 r1 q2 g2 p2 GG2 px2 gx2 PX1 PR1 G1 tok)
    | (go_at_call 104; have tok := r2; refine (N3.out _ r2).mono ?_; rintro e u3 ⟨rfl, q3, g3, z3⟩; have p3 := NE.out g3 PX2.out; have GG3 := grownBy_trans G2.out g3 (.inl rfl); obtain ⟨c30, c31, c32, c33, c34, f30, f31, f32, f33, f34, l3⟩ := slot5 p3; obtain ⟨r3, px3, gx3⟩ := turn_x (k := 2) q3 p3 GG3 (Nat.le_succ _) hl (.int .i64 v3); have PX3 : Hid ((u3.setCell ⟨w.heap.size + 1, 2, none⟩ (.int .i64 v3)).heap[w.heap.size + 1]? = some (.cells #[.int .i64 v1, .int .i64 v2, .int .i64 v3, .string ⟨#[]⟩, .string ⟨#[]⟩] 43 (0, 0))) := px3; have PR3 := hide (NX.out (k := 2) (v := .int .i64 v3) (NR.out g3 PR2.out)); have G3 := hide gx3; clear N3 r2 q3 g3 p3 GG3 px3 gx3 PX2 PR2 G2 tok)
    | (go_at_call 144; have tok := r3; refine (N4.out _ r3).mono ?_; rintro e u4 ⟨rfl, q4, g4, z4⟩; have p4 := NE.out g4 PX3.out; have GG4 := grownBy_trans G3.out g4 (.inl rfl); obtain ⟨c40, c41, c42, c43, c44, f40, f41, f42, f43, f44, l4⟩ := slot5 p4; obtain ⟨r4, px4, gx4⟩ := turn_x (k := 3) q4 p4 GG4 (Nat.le_succ _) hl (str v4); have PX4 : Hid ((u4.setCell ⟨w.heap.size + 1, 3, none⟩ (str v4)).heap[w.heap.size + 1]? = some (.cells #[.int .i64 v1, .int .i64 v2, .int .i64 v3, str v4, .string ⟨#[]⟩] 43 (0, 0))) := px4; have PR4 := hide (NX.out (k := 3) (v := str v4) (NR.out g4 PR3.out)); have G4 := hide gx4; clear N4 r3 q4 g4 p4 GG4 px4 gx4 PX3 PR3 G3 tok)
    | (go_at_call 144; have tok := r4; refine (N5.out _ r4).mono ?_; rintro e u5 ⟨rfl, q5, g5, z5⟩; have p5 := NE.out g5 PX4.out; have GG5 := grownBy_trans G4.out g5 (.inl rfl); obtain ⟨c50, c51, c52, c53, c54, f50, f51, f52, f53, f54, l5⟩ := slot5 p5; obtain ⟨r5, px5, gx5⟩ := turn_x (k := 4) q5 p5 GG5 (Nat.le_succ _) hl (str v5); have PX5 : Hid ((u5.setCell ⟨w.heap.size + 1, 4, none⟩ (str v5)).heap[w.heap.size + 1]? = some (.cells #[.int .i64 v1, .int .i64 v2, .int .i64 v3, str v4, str v5] 43 (0, 0))) := px5; have PR5 := hide (NX.out (k := 4) (v := str v5) (NR.out g5 PR4.out)); have G5 := hide gx5; obtain ⟨x0, x1, x2, x3, x4, xf0, xf1, xf2, xf3, xf4, xl⟩ := slot5 PX5.out; obtain ⟨y0, y1, y2, y3, y4, yf0, yf1, yf2, yf3, yf4, yl⟩ := slot5 PR5.out; clear N5 r4 q5 g5 p5 GG5 px5 gx5 PX4 PR4 G4 tok))
  obtain ⟨P6, G6⟩ := store5 PR5.out (.int .i64 v1) (.int .i64 v2) (.int .i64 v3) (str v4) (str v5)
  have R6 := r5.kept G6 (by omega) (by have := r5.le; omega)
  have G7 := grownBy_trans G5.out G6 (.inr ⟨_, rfl, Nat.le_refl _⟩)
  generalize ((((((u5.setCell ⟨w.heap.size + 1, 4, none⟩ (str v5)).setCell ⟨w.heap.size, 0, none⟩ (.int .i64 v1)).setCell ⟨w.heap.size, 1, none⟩ (.int .i64 v2)).setCell ⟨w.heap.size, 2, none⟩ (.int .i64 v3)).setCell ⟨w.heap.size, 3, none⟩ (str v4)).setCell ⟨w.heap.size, 4, none⟩ (str v5)) = W6 at P6 R6 G7 ⊢
  obtain ⟨q0, q1, q2, q3, q4, _⟩ := slot5 P6
  refine bodyPost_ret (v := mv ⟨v1, v2, v3, v4, v5⟩) (by simp [results, Tryz.results105, go_sem, q0, q1, q2, q3, q4]) rfl ?_
  exact ⟨rfl, R6, G7⟩
theorem ywords_any (w : World) (rb top : Nat) (s : Wl.Rd) (h : YRd w rb top s) :
    Calls Tryz.prog 105 #[.pointer (some ⟨rb, 0, none⟩)] w fun e w' => e = .returned (mv (Mf.wordsX s)) ∧ YRd w' rb top (Mf.wordsR s) ∧ w.grownBy w' (some rb) :=
  ywords_gen w rb top s (Mf.w1 s) (Mf.w2 s) (Mf.w3 s) (Mf.w4 s) (Mf.wordsR s) _ _ _ _ _ h (fun wx hx => ynumber_any wx rb top _ 999999 hx (by decide)) (fun wx hx => ynumber_any wx rb top _ 6 hx (by decide)) (fun wx hx => ynumber_any wx rb top _ 65536 hx (by decide)) (fun wx hx => ykey_any wx rb top _ hx) (fun wx hx => ykey_any wx rb top _ hx)
end Go.Proofs.YtlhnjloimhcpfabGreatDoor
