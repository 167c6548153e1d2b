/-
  Both memtables side by side: an entry is added to both.
-/
import Derived.Test.YtbdgdigpnfpnhaaMScr1
import Derived.Test.YtbdgdigpnfpnhaaR6f
namespace Go.Proofs.Ytbdgdigpnfpnhaa.Q.P
open Go.RowKit

theorem RtAt_moved {S : Nat → Prop} {base : Nat} {w w' : World} {b : Nat} {hv lv tv : Value} {hs : List Int} {es : List Mm.Ent} {ts : List Int} (h : RtAt base w b hv lv tv hs es ts) (m : Moved S w w') (nb : ¬ S b) (nh : ∀ g, hv.ownBlock = some g → ¬ S g) (nl : ∀ g, lv.ownBlock = some g → ¬ S g) (nt : ∀ g, tv.ownBlock = some g → ¬ S g) : RtAt base w' b hv lv tv hs es ts :=
  ⟨(m.block b (Array.getElem?_eq_some_iff.1 h.blk).1 nb).trans h.blk, own_same h.hh fun g hg => m.block g (own_lt h.hh g hg) (nh g hg), own_same h.ll fun g hg => m.block g (own_lt h.ll g hg) (nl g hg), own_same h.tt fun g hg => m.block g (own_lt h.tt g hg) (nt g hg), h.len, h.both⟩

/-- How both stand. -/
structure St (W0 : World) (S : Nat → Prop) (base : Nat) (w : World) (t b : Nat) (hv lv tv : Value) (hs : List Int) (l : List Mm.It) : Prop where
  sm : Sm S base w t b hv lv tv hs l
  nb : ¬ S b
  nh : ∀ g, hv.ownBlock = some g → ¬ S g
  nl : ∀ g, lv.ownBlock = some g → ¬ S g
  nt : ∀ g, tv.ownBlock = some g → ¬ S g
  lim : ∀ i, S i → i < w.heap.size
  old : ∀ i, S i → W0.heap.size ≤ i
  bb : W0.heap.size ≤ b
  bl : W0.heap.size ≤ base
  bh : base ≤ w.heap.size
  bel : Below W0.heap.size W0 w
theorem St.later {W0 : World} {S : Nat → Prop} {base : Nat} {w w' : World} {t b : Nat} {hv lv tv : Value} {hs : List Int} {l : List Mm.It} (h : St W0 S base w t b hv lv tv hs l) (hb : Below w.heap.size w w') : St W0 S base w' t b hv lv tv hs l :=
  ⟨h.sm.later hb, h.nb, h.nh, h.nl, h.nt, fun i hi => Nat.lt_of_lt_of_le (h.lim i hi) hb.size, h.old, h.bb, h.bl, Nat.le_trans h.bh hb.size, h.bel.trans (hb.mono h.bel.size)⟩
/-- A block that is none of theirs is turned. -/
theorem St.poke {W0 : World} {S : Nat → Prop} {base : Nat} {w w' : World} {t b : Nat} {hv lv tv : Value} {hs : List Int} {l : List Mm.It} (h : St W0 S base w t b hv lv tv hs l) {g : Nat} (m : Moved (· = g) w w') (hg : W0.heap.size ≤ g) (n1 : ¬ S g) (n2 : g ≠ b) (n3 : g < base) : St W0 S base w' t b hv lv tv hs l := by
  have far : ∀ (v : Value) (e size n : Nat) (xs : List Value), w.ownsRow base e size v n xs → ∀ k, v.ownBlock = some k → ¬ k = g := fun v e size n xs o k hk he => by
    have := (o.lt k hk).1
    omega
  refine ⟨⟨h.sm.tab.other m (fun i _ hi he => n1 (by rw [← he]; exact hi)), RtAt_moved h.sm.ref m (fun e => n2 e.symm) (far _ _ _ _ _ h.sm.ref.hh) (far _ _ _ _ _ h.sm.ref.ll) (far _ _ _ _ _ h.sm.ref.tt), h.sm.few, h.sm.ok⟩, h.nb, h.nh, h.nl, h.nt, fun i hi => Nat.lt_of_lt_of_le (h.lim i hi) m.size, h.old, h.bb, h.bl, Nat.le_trans h.bh m.size, ?_⟩
  exact h.bel.trans (m.under h.bel.size (fun i hi => by rw [hi]; exact hg))
theorem add_ok_all {hs : List Nat} {e : Mm.Ent} {l : List Mm.It} (h : ∀ x ∈ l, Mm.may x.1 = true) : ∀ x ∈ Mm.addL hs e l, Mm.may x.1 = true := by
  intro x hx
  unfold Mm.addL at hx
  split at hx
  · rename_i hm
    rw [Bool.and_eq_true] at hm
    rcases List.mem_append.1 hx with h1 | h1
    · exact h x (by rw [← Mm.partsL e l]; simp [h1])
    · rcases List.mem_cons.1 h1 with rfl | h1
      · exact hm.1
      · exact h x (by rw [← Mm.partsL e l]; simp [h1])
  · exact h x hx

/-- One entry more. -/
theorem St.adds {W0 : World} {S : Nat → Prop} {base : Nat} {w : World} {t b : Nat} {hv lv tv : Value} {hs : List Int} {l : List Mm.It} (h : St W0 S base w t b hv lv tv hs l) (hh : hs.all okR = true) (hhl : hs.length ≤ 60) (few : l.length + 1 ≤ 60) (e : Mm.Ent) (hk : e.key.length ≤ 1000000) (hvl : e.value.length ≤ 1000000) :
    Calls Try.prog 15 #[.pointer (some ⟨t, 0, none⟩), entV e] w fun r w1 => r = .returned (.int .i64 (Mm.addE e l)) ∧ Below W0.heap.size W0 w1 ∧
      Hid (Calls Try.prog 16 #[.pointer (some ⟨b, 0, none⟩), entV e] w1 fun r2 w2 => r2 = .returned (.int .i64 (Mm.addE e l)) ∧ Below W0.heap.size W0 w2 ∧ Hid (∃ S2 lv2 tv2, St W0 S2 base w2 t b hv lv2 tv2 hs (Mm.addL (hs.map Int.toNat) e l))) := by
  obtain ⟨S1, hS1⟩ : ∃ S1 : Nat → Prop, S1 = fun i => S i ∨ w.heap.size ≤ i := ⟨_, rfl⟩
  have T1 : TabS S1 w t (hs.map Int.toNat) l := h.sm.tab.narrow (fun i _ hi => by rw [hS1]; exact .inl hi)
  have far : ∀ g, g < w.heap.size → ¬ S g → ¬ S1 g := fun g h1 h2 => by rw [hS1]; rintro (h3 | h3); exact h2 h3; omega
  refine (add_s T1 (fun i hi => by rw [hS1]; exact .inr hi) e (by omega) (by rw [List.length_map]; omega) hk hvl).mono ?_
  rintro r w1 ⟨rfl, T2, m1⟩
  have bs : b < w.heap.size := (Array.getElem?_eq_some_iff.1 h.sm.ref.blk).1
  have R1 : RtAt base w1 b hv lv tv hs (esL l) (tsL l) := RtAt_moved h.sm.ref m1 (far b bs h.nb) (fun g hg => far g (own_lt h.sm.ref.hh g hg) (h.nh g hg)) (fun g hg => far g (own_lt h.sm.ref.ll g hg) (h.nl g hg)) (fun g hg => far g (own_lt h.sm.ref.tt g hg) (h.nt g hg))
  have old1 : ∀ i, S1 i → W0.heap.size ≤ i := fun i hi => by
    rw [hS1] at hi
    rcases hi with h3 | h3
    · exact h.old i h3
    · have := h.bel.size; omega
  have B1 : Below W0.heap.size W0 w1 := h.bel.trans (m1.under h.bel.size old1)
  refine ⟨rfl, B1, ?_⟩
  have ha := add_is hs e l h.sm.tab.sorted hh
  refine (radd_any R1 (Nat.le_trans h.bh m1.size) (by rw [esL_len]; omega) (by omega) e).mono ?_
  rintro r2 w2 ⟨hr, lv2, tv2, R2, f1, f2, gr⟩
  rw [ha.1] at hr
  rw [ha.2.1, ha.2.2] at R2
  have m2 : Moved (· = b) w1 w2 := ⟨gr.os, gr.tape, gr.output, gr.size, fun k h1 h2 => gr.block k h1 (fun e => h2 (Option.some.inj e))⟩
  have B2 : Below W0.heap.size W0 w2 := B1.trans (m2.under B1.size (fun i hi => by rw [hi]; exact h.bb))
  obtain ⟨S2, hS2⟩ : ∃ S2 : Nat → Prop, S2 = fun i => S1 i ∧ i < w1.heap.size := ⟨_, rfl⟩
  have n2 : ∀ g, ¬ S1 g → ¬ S2 g := fun g h1 => by rw [hS2]; exact fun h2 => h1 h2.1
  have T3 : TabS S2 w2 t (hs.map Int.toNat) (Mm.addL (hs.map Int.toNat) e l) := by
    have h3 : TabS S2 w1 t (hs.map Int.toNat) (Mm.addL (hs.map Int.toNat) e l) := T2.narrow (fun i h1 h2 => by rw [hS2]; exact ⟨h2, h1⟩)
    refine h3.other m2 (fun i _ hi he => ?_)
    rw [hS2] at hi
    exact far b bs h.nb (by rw [← he]; exact hi.1)
  refine ⟨hr, B2, S2, lv2, tv2, ⟨T3, R2, Nat.le_trans Mm.add_len few, add_ok_all h.sm.ok⟩, n2 b (far b bs h.nb), fun g hg => n2 g (far g (own_lt h.sm.ref.hh g hg) (h.nh g hg)), fun g hg => ?_, fun g hg => ?_, fun i hi => ?_, fun i hi => ?_, h.bb, h.bl, Nat.le_trans h.bh (Nat.le_trans m1.size m2.size), B2⟩
  · rcases f1 g hg with h3 | h3
    · rw [hS2]; intro h4; omega
    · exact n2 g (far g (own_lt h.sm.ref.ll g h3) (h.nl g h3))
  · rcases f2 g hg with h3 | h3
    · rw [hS2]; intro h4; omega
    · exact n2 g (far g (own_lt h.sm.ref.tt g h3) (h.nt g h3))
  · rw [hS2] at hi
    exact Nat.lt_of_lt_of_le hi.2 m2.size
  · rw [hS2] at hi
    exact old1 i hi.1
end Go.Proofs.Ytbdgdigpnfpnhaa.Q.P
