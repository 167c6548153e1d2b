/-
  A reader of a block's bytes: closures over one place. Where it lies, and what its calls answer.
-/
import Derived.Test.YtbdgdigpnfpnhaaBEnc
namespace Go.Proofs.Ytbdgdigpnfpnhaa
open Go.RowKit

abbrev pt (i : Nat) : Value := .pointer (some ⟨i, 0, none⟩)
abbrev mustV (T : Nat) : Value := .func (.func 89) #[] #[pt (T + 3)]
abbrev numV (T : Nat) : Value := .func (.func 90) #[] #[pt T, pt (T + 2), pt (T + 4), pt (T + 3)]
abbrev textV (T : Nat) : Value := .func (.func 92) #[] #[pt (T + 5), pt (T + 4), pt T, pt (T + 2), pt (T + 3)]
abbrev endV (T : Nat) : Value := .func (.func 93) #[] #[pt (T + 4), pt (T + 2), pt T, pt (T + 3)]
abbrev errV (bad : Bool) : Value := .int .i64 (if bad then 5 else 0)
/-- A reader at a place of bytes. -/
structure RdC (w : World) (T : Nat) (ao : Option Addr) (cap : Nat) (b : List UInt8) (at' : Nat) (bad : Bool) : Prop where
  bb : w.heap[T]? = some (.cells #[.slice ao b.length cap] 89 (0, 0))
  ba : w.heap[T + 2]? = some (.cells #[.int .i64 (at' : Int)] 3 (0, 0))
  bf : w.heap[T + 3]? = some (.cells #[errV bad] 29 (0, 0))
  bm : w.heap[T + 4]? = some (.cells #[mustV T] 112 (0, 0))
  bn : w.heap[T + 5]? = some (.cells #[numV T] 113 (0, 0))
  hat : at' ≤ b.length
  hcap : b.length ≤ cap
  hno : ao = none → cap = 0
  bytes : b ≠ [] → ∃ bl off, ao = some ⟨bl, off, none⟩ ∧ bl < T ∧ BytesAt w bl off b
  len : b.length ≤ 1000000000
/-- The blocks that a reader turns. -/
abbrev rdT (T i : Nat) : Prop := i = T + 2 ∨ i = T + 3
theorem RdC.cells {w : World} {T : Nat} {ao : Option Addr} {cap : Nat} {b : List UInt8} {at' : Nat} {bad : Bool} (h : RdC w T ao cap b at' bad) :
    w.cell? ⟨T, 0, none⟩ = some (.slice ao b.length cap) ∧ w.cell? ⟨T + 2, 0, none⟩ = some (.int .i64 (at' : Int)) ∧ w.cell? ⟨T + 3, 0, none⟩ = some (errV bad) ∧ w.cell? ⟨T + 4, 0, none⟩ = some (mustV T) ∧ w.cell? ⟨T + 5, 0, none⟩ = some (numV T) ∧ w.frozen? ⟨T + 2, 0, none⟩ = false ∧ w.frozen? ⟨T + 3, 0, none⟩ = false :=
  ⟨Joins.cell_of_block h.bb 0, Joins.cell_of_block h.ba 0, Joins.cell_of_block h.bf 0, Joins.cell_of_block h.bm 0, Joins.cell_of_block h.bn 0, Joins.unfrozen_of_block h.ba 0, Joins.unfrozen_of_block h.bf 0⟩
theorem RdC.lt {w : World} {T : Nat} {ao : Option Addr} {cap : Nat} {b : List UInt8} {at' : Nat} {bad : Bool} (h : RdC w T ao cap b at' bad) : T + 5 < w.heap.size := (Array.getElem?_eq_some_iff.1 h.bn).1
/-- A reader, whatever else turns. -/
theorem RdC.same {w w' : World} {T : Nat} {ao : Option Addr} {cap : Nat} {b : List UInt8} {at' : Nat} {bad : Bool} (h : RdC w T ao cap b at' bad) {S : Nat → Prop} (m : Moved S w w') (hS : ∀ i, S i → T + 5 < i) : RdC w' T ao cap b at' bad := by
  have hl := h.lt
  have k : ∀ i, i ≤ T + 5 → w'.heap[i]? = w.heap[i]? := fun i hi => m.block i (by omega) (fun hs => by have := hS i hs; omega)
  refine ⟨(k _ (by omega)).trans h.bb, (k _ (by omega)).trans h.ba, (k _ (by omega)).trans h.bf, (k _ (by omega)).trans h.bm, (k _ (by omega)).trans h.bn, h.hat, h.hcap, h.hno, fun h0 => ?_, h.len⟩
  obtain ⟨bl, off, e, hlt, hat⟩ := h.bytes h0
  refine ⟨bl, off, e, hlt, fun j hj => ?_⟩
  rw [← hat j hj]
  simp only [World.cell?]
  rw [show w'.heap[bl]? = w.heap[bl]? from k bl (by omega)]
theorem RdC.later {w w' : World} {T : Nat} {ao : Option Addr} {cap : Nat} {b : List UInt8} {at' : Nat} {bad : Bool} (h : RdC w T ao cap b at' bad) (m : Below w.heap.size w w') : RdC w' T ao cap b at' bad := h.same (S := fun _ => False) (Moved.below m) (fun _ h => h.elim)
theorem RdC.setBad {w : World} {T : Nat} {ao : Option Addr} {cap : Nat} {b : List UInt8} {at' : Nat} {bad : Bool} (h : RdC w T ao cap b at' bad) : RdC (w.setCell ⟨T + 3, 0, none⟩ (.int .i64 5)) T ao cap b at' true := by
  have k : ∀ i, i ≠ T + 3 → (w.setCell ⟨T + 3, 0, none⟩ (.int .i64 5)).heap[i]? = w.heap[i]? := fun i hi => Below.heap_setCell _ _ _ _ hi
  refine ⟨(k _ (by omega)).trans h.bb, (k _ (by omega)).trans h.ba, (Joins.block_setCell h.bf _).trans rfl, (k _ (by omega)).trans h.bm, (k _ (by omega)).trans h.bn, h.hat, h.hcap, h.hno, fun h0 => ?_, h.len⟩
  obtain ⟨bl, off, e, hlt, hat⟩ := h.bytes h0
  refine ⟨bl, off, e, hlt, fun j hj => ?_⟩
  rw [← hat j hj]
  simp only [World.cell?]
  rw [show (w.setCell ⟨T + 3, 0, none⟩ (.int .i64 5)).heap[bl]? = w.heap[bl]? from k bl (by omega)]
theorem RdC.setAt {w : World} {T : Nat} {ao : Option Addr} {cap : Nat} {b : List UInt8} {at' at2 : Nat} {bad : Bool} (h : RdC w T ao cap b at' bad) (h2 : at2 ≤ b.length) : RdC (w.setCell ⟨T + 2, 0, none⟩ (.int .i64 (at2 : Int))) T ao cap b at2 bad := by
  have k : ∀ i, i ≠ T + 2 → (w.setCell ⟨T + 2, 0, none⟩ (.int .i64 (at2 : Int))).heap[i]? = w.heap[i]? := fun i hi => Below.heap_setCell _ _ _ _ hi
  refine ⟨(k _ (by omega)).trans h.bb, (Joins.block_setCell h.ba _).trans rfl, (k _ (by omega)).trans h.bf, (k _ (by omega)).trans h.bm, (k _ (by omega)).trans h.bn, h2, h.hcap, h.hno, fun h0 => ?_, h.len⟩
  obtain ⟨bl, off, e, hlt, hat⟩ := h.bytes h0
  refine ⟨bl, off, e, hlt, fun j hj => ?_⟩
  rw [← hat j hj]
  simp only [World.cell?]
  rw [show (w.setCell ⟨T + 2, 0, none⟩ (.int .i64 (at2 : Int))).heap[bl]? = w.heap[bl]? from k bl (by omega)]
theorem set_moved (w : World) (T i : Nat) (h : rdT T i) (u : Value) : Moved (rdT T) w (w.setCell ⟨i, 0, none⟩ u) := (Moved.refl _ _).setCell (fun _ => h) u

theorem must_any (w : World) (T : Nat) (ao : Option Addr) (cap : Nat) (b : List UInt8) (at' : Nat) (bad c : Bool) (h : RdC w T ao cap b at' bad) :
    Calls Try.prog 89 #[.bool c, pt (T + 3)] w fun e w' => e = .returned (.tuple #[]) ∧ RdC w' T ao cap b at' (bad || !c) ∧ Moved (rdT T) w w' ∧ w'.heap.size = w.heap.size := by
  obtain ⟨c0, c1, c2, c3, c4, f2, f3⟩ := h.cells
  have H : Hid _ := h
  clear h
  cases c with
  | true =>
    go_enter Try.func89, Try.ntmps89
    go_wp2_with (fail)
    go_end0
    exact ⟨rfl, by simpa using H.out, Moved.refl _ _, rfl⟩
  | false =>
    go_enter Try.func89, Try.ntmps89
    go_wp2_with (fail)
    go_end0
    exact ⟨rfl, by simpa using H.out.setBad, set_moved _ _ _ (.inr rfl) _, by simp⟩

theorem RdC.rest {w : World} {T : Nat} {ao : Option Addr} {cap : Nat} {b : List UInt8} {at' : Nat} {bad : Bool} (h : RdC w T ao cap b at' bad) : BytesIn w (.slice (ao.map fun x => x.add at') (b.length - at') (cap - at')) (b.drop at') := by
  have hl := h.len
  refine ⟨⟨_, _, by rw [List.length_drop], fun h0 => ?_⟩, by rw [List.length_drop]; omega⟩
  obtain ⟨bl, off, e, _, hat⟩ := h.bytes (fun e => h0 (by rw [e]; simp))
  subst e
  have hadd : (⟨bl, off, none⟩ : Addr).add at' = ⟨bl, off + at', none⟩ := by unfold Addr.add; split <;> simp_all
  refine ⟨bl, off + at', by show some (Addr.add _ _) = _; rw [hadd], fun j hj => ?_⟩
  rw [List.length_drop] at hj
  have := hat (at' + j) (by omega)
  rw [Nat.add_assoc, this, List.getElem_drop]
theorem rest_none (w : World) (ao : Option Addr) (b : List UInt8) (at' n : Nat) (hn : n = 0) (c : Nat) (hb : b.length ≤ at') : BytesIn w (.slice ao n c) (b.drop at') := by
  subst hn
  have : b.drop at' = [] := List.drop_eq_nil_of_le hb
  rw [this]
  exact ⟨⟨ao, c, rfl, fun h => absurd rfl h⟩, by simp⟩

set_option maxRecDepth 100000 in
set_option maxHeartbeats 4000000 in
theorem rnumber_c (w : World) (T : Nat) (ao : Option Addr) (cap : Nat) (b : List UInt8) (at' : Nat) (bad : Bool) (most : Nat) (h : RdC w T ao cap b at' bad) (hm : most ≤ 1073741824) :
    Calls Try.prog 90 #[.int .i64 (most : Int), pt T, pt (T + 2), pt (T + 4), pt (T + 3)] w fun e w' => e = .returned (.int .i64 (Bk.rnumX ⟨b.drop at', bad⟩ most : Nat)) ∧ (∃ at2, Hid ((Bk.rnum ⟨b.drop at', bad⟩ most).rest = b.drop at2) ∧ RdC w' T ao cap b at2 (Bk.rnum ⟨b.drop at', bad⟩ most).bad) ∧ Moved (rdT T) w w' ∧ w'.heap.size = w.heap.size := by
  obtain ⟨c0, c1, c2, c3, c4, f2, f3⟩ := h.cells
  have SM : Hid (∀ v, BytesIn w v (b.drop at') → Calls Try.prog 91 #[v, .int .i64 (most : Int)] w fun e w' => e = .returned (.tuple #[.int .i64 (Enc.smX (b.drop at') most), .int .i64 (Enc.smN (b.drop at') most), .int .i64 (Enc.smE (b.drop at') most)]) ∧ w' = w) := fun v hv => Enc.small_any w v (b.drop at') most (by omega) (by omega) hv
  have MU : Hid (∀ c : Bool, Calls Try.prog 89 #[.bool c, pt (T + 3)] w fun e w' => e = .returned (.tuple #[]) ∧ RdC w' T ao cap b at' (bad || !c) ∧ Moved (rdT T) w w' ∧ w'.heap.size = w.heap.size) := fun c => must_any w T ao cap b at' bad c h
  have hat := h.hat
  have hcap := h.hcap
  have hlen := h.len
  have R1 : Hid _ := h.rest
  have R2 : Hid (cap = at' → ∀ n c, n = 0 → BytesIn w (.slice ao n c) (b.drop at')) := fun e n c hn => rest_none w ao b at' n hn c (by omega)
  have k1 : (at' : Int) ≤ (b.length : Int) := by omega
  have k2 : (b.length : Int) ≤ (cap : Int) := by omega
  have k3 : (at' : Int) ≤ (cap : Int) := by omega
  have hN := Bk.smN_le (b.drop at') most
  rw [List.length_drop] at hN
  have hNd : ∃ N : Nat, Enc.smN (b.drop at') most = (N : Int) := ⟨_, (Int.toNat_of_nonneg (by unfold Enc.smN; split <;> omega)).symm⟩
  have hXd : ∃ X : Nat, Enc.smX (b.drop at') most = (X : Int) ∧ X ≤ most := ⟨(Enc.smX (b.drop at') most).toNat, (Int.toNat_of_nonneg (by unfold Enc.smX; split <;> omega)).symm, by unfold Enc.smX; split <;> omega⟩
  obtain ⟨N, eN⟩ := hNd
  obtain ⟨X, eX, hX⟩ := hXd
  have HR : Hid (∀ B, B = (bad || !decide (Enc.smE (b.drop at') most = 0)) → Bk.rnumX ⟨b.drop at', bad⟩ most = (if B then 0 else X) ∧ Bk.rnum ⟨b.drop at', bad⟩ most = (if B then ⟨b.drop at', true⟩ else ⟨b.drop (at' + N), false⟩)) := fun B hB => by
    unfold Bk.rnumX Bk.rnum Bk.rnumM Bk.mst
    simp only [eN, eX, Int.toNat_natCast, ← hB]
    cases B <;> simp
  rw [eN, eX] at SM
  rw [eN, Int.toNat_natCast] at hN
  generalize Enc.smE (b.drop at') most = E at SM HR
  clear eN eX h
  obtain ⟨B, hB⟩ : ∃ B, B = (bad || !decide (E = 0)) := ⟨_, rfl⟩
  obtain ⟨r1, r2⟩ := HR.out B hB
  have HX : Hid _ := r1
  have HT : Hid _ := r2
  clear r1 r2
  generalize Bk.rnumX ⟨b.drop at', bad⟩ most = x at HX ⊢
  generalize Bk.rnum ⟨b.drop at', bad⟩ most = t at HT ⊢
  have HB : Hid (B = (bad || !(E == 0))) := by show _ = _; rw [hB]; congr 2
  clear HR hB
  cases B with
  | true =>
    by_cases k4 : cap = at'
    · have Q1 : Hid (∀ n c, n = 0 → BytesIn w (.slice ao n c) (b.drop at')) := R2.out k4
      clear R1 R2
      go_enter Try.func90, Try.ntmps90
      go_wp2_with (first
        | (go_at_call 91; refine (SM.out _ (Q1.out _ _ (by omega))).mono ?_; rintro e w1 ⟨rfl, rfl⟩; clear SM)
        | (go_at_call 89; refine (MU.out _).mono ?_; rintro e w2 ⟨rfl, r2, m2, z2⟩; rw [← HB.out] at r2; obtain ⟨d0, d1, d2, d3, d4, g2, g3⟩ := r2.cells; clear MU))
      go_ret
      have hx := HX.out
      have ht := HT.out
      subst hx ht
      exact ⟨rfl, ⟨at', rfl, r2⟩, m2, z2⟩
    · clear R2
      go_enter Try.func90, Try.ntmps90
      go_wp2_with (first
        | (go_at_call 91; refine (SM.out _ R1.out).mono ?_; rintro e w1 ⟨rfl, rfl⟩; clear SM)
        | (go_at_call 89; refine (MU.out _).mono ?_; rintro e w2 ⟨rfl, r2, m2, z2⟩; rw [← HB.out] at r2; obtain ⟨d0, d1, d2, d3, d4, g2, g3⟩ := r2.cells; clear MU))
      go_ret
      have hx := HX.out
      have ht := HT.out
      subst hx ht
      exact ⟨rfl, ⟨at', rfl, r2⟩, m2, z2⟩
  | false =>
    by_cases k4 : cap = at'
    · have Q1 : Hid (∀ n c, n = 0 → BytesIn w (.slice ao n c) (b.drop at')) := R2.out k4
      clear R1 R2
      go_enter Try.func90, Try.ntmps90
      go_wp2_with (first
        | (go_at_call 91; refine (SM.out _ (Q1.out _ _ (by omega))).mono ?_; rintro e w1 ⟨rfl, rfl⟩; clear SM)
        | (go_at_call 89; refine (MU.out _).mono ?_; rintro e w2 ⟨rfl, r2, m2, z2⟩; rw [← HB.out] at r2; obtain ⟨d0, d1, d2, d3, d4, g2, g3⟩ := r2.cells; clear MU))
      go_ret
      have hx := HX.out
      have ht := HT.out
      subst hx ht
      exact ⟨rfl, ⟨at' + N, rfl, r2.setAt (by omega)⟩, m2.trans (set_moved _ _ _ (.inl rfl) _) (fun _ _ h => h), by simpa using z2⟩
    · clear R2
      go_enter Try.func90, Try.ntmps90
      go_wp2_with (first
        | (go_at_call 91; refine (SM.out _ R1.out).mono ?_; rintro e w1 ⟨rfl, rfl⟩; clear SM)
        | (go_at_call 89; refine (MU.out _).mono ?_; rintro e w2 ⟨rfl, r2, m2, z2⟩; rw [← HB.out] at r2; obtain ⟨d0, d1, d2, d3, d4, g2, g3⟩ := r2.cells; clear MU))
      go_ret
      have hx := HX.out
      have ht := HT.out
      subst hx ht
      exact ⟨rfl, ⟨at' + N, rfl, r2.setAt (by omega)⟩, m2.trans (set_moved _ _ _ (.inl rfl) _) (fun _ _ h => h), by simpa using z2⟩
end Go.Proofs.Ytbdgdigpnfpnhaa
