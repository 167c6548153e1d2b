/-
  A reader of a block's bytes: closures over one place. Where it lies, and what its calls answer. .. and what follows from it.
-/
import Derived.Test.YtbdgdigpnfpnhaaKG
import Derived.Laws.EntriesVeiled
import Derived.Deep.Cut
import Derived.Deep.CutRange
import Derived.Deep.RegionWith
namespace Go.Proofs.Ytbdgdigpnfpnhaa.Q
open Go.RowKit

abbrev pt (i : Nat) : Value := .pointer (some ⟨i, 0, none⟩)
abbrev mustV (T : Nat) : Value := .func (.func 89) #[] #[pt (T + 3)]
abbrev numV (T : Nat) : Value := .func (.func 90) #[] #[pt T, pt (T + 2), pt (T + 4), pt (T + 3)]
abbrev textV (T : Nat) : Value := .func (.func 92) #[] #[pt (T + 5), pt (T + 4), pt T, pt (T + 2), pt (T + 3)]
abbrev endV (T : Nat) : Value := .func (.func 93) #[] #[pt (T + 4), pt (T + 2), pt T, pt (T + 3)]
abbrev errV (bad : Bool) : Value := .int .i64 (if bad then 5 else 0)
/-- A reader at a place of bytes. -/
structure RdC (w : World) (T : Nat) (ao : Option Addr) (cap : Nat) (b : List UInt8) (at' : Nat) (bad : Bool) : Prop where
  bb : w.heap[T]? = some (.cells #[.slice ao b.length cap] 89 (0, 0))
  ba : w.heap[T + 2]? = some (.cells #[.int .i64 (at' : Int)] 3 (0, 0))
  bf : w.heap[T + 3]? = some (.cells #[errV bad] 29 (0, 0))
  bm : w.heap[T + 4]? = some (.cells #[mustV T] 112 (0, 0))
  bn : w.heap[T + 5]? = some (.cells #[numV T] 113 (0, 0))
  hat : at' ≤ b.length
  hcap : b.length ≤ cap
  hno : ao = none → cap = 0
  bytes : b ≠ [] → ∃ bl off, ao = some ⟨bl, off, none⟩ ∧ bl < T ∧ BytesAt w bl off b
  len : b.length ≤ 1000000000
/-- The blocks that a reader turns. -/
abbrev rdT (T i : Nat) : Prop := i = T + 2 ∨ i = T + 3
theorem RdC.cells {w : World} {T : Nat} {ao : Option Addr} {cap : Nat} {b : List UInt8} {at' : Nat} {bad : Bool} (h : RdC w T ao cap b at' bad) :
    w.cell? ⟨T, 0, none⟩ = some (.slice ao b.length cap) ∧ w.cell? ⟨T + 2, 0, none⟩ = some (.int .i64 (at' : Int)) ∧ w.cell? ⟨T + 3, 0, none⟩ = some (errV bad) ∧ w.cell? ⟨T + 4, 0, none⟩ = some (mustV T) ∧ w.cell? ⟨T + 5, 0, none⟩ = some (numV T) ∧ w.frozen? ⟨T + 2, 0, none⟩ = false ∧ w.frozen? ⟨T + 3, 0, none⟩ = false :=
  ⟨Joins.cell_of_block h.bb 0, Joins.cell_of_block h.ba 0, Joins.cell_of_block h.bf 0, Joins.cell_of_block h.bm 0, Joins.cell_of_block h.bn 0, Joins.unfrozen_of_block h.ba 0, Joins.unfrozen_of_block h.bf 0⟩
theorem RdC.lt {w : World} {T : Nat} {ao : Option Addr} {cap : Nat} {b : List UInt8} {at' : Nat} {bad : Bool} (h : RdC w T ao cap b at' bad) : T + 5 < w.heap.size := (Array.getElem?_eq_some_iff.1 h.bn).1
/-- A reader, whatever else turns. -/
theorem RdC.same {w w' : World} {T : Nat} {ao : Option Addr} {cap : Nat} {b : List UInt8} {at' : Nat} {bad : Bool} (h : RdC w T ao cap b at' bad) {S : Nat → Prop} (m : Moved S w w') (hS : ∀ i, S i → T + 5 < i) : RdC w' T ao cap b at' bad := by
  have hl := h.lt
  have k : ∀ i, i ≤ T + 5 → w'.heap[i]? = w.heap[i]? := fun i hi => m.block i (by omega) (fun hs => by have := hS i hs; omega)
  refine ⟨(k _ (by omega)).trans h.bb, (k _ (by omega)).trans h.ba, (k _ (by omega)).trans h.bf, (k _ (by omega)).trans h.bm, (k _ (by omega)).trans h.bn, h.hat, h.hcap, h.hno, fun h0 => ?_, h.len⟩
  obtain ⟨bl, off, e, hlt, hat⟩ := h.bytes h0
  refine ⟨bl, off, e, hlt, fun j hj => ?_⟩
  rw [← hat j hj]
  simp only [World.cell?]
  rw [show w'.heap[bl]? = w.heap[bl]? from k bl (by omega)]
theorem RdC.later {w w' : World} {T : Nat} {ao : Option Addr} {cap : Nat} {b : List UInt8} {at' : Nat} {bad : Bool} (h : RdC w T ao cap b at' bad) (m : Below w.heap.size w w') : RdC w' T ao cap b at' bad := h.same (S := fun _ => False) (Moved.below m) (fun _ h => h.elim)
theorem RdC.setBad {w : World} {T : Nat} {ao : Option Addr} {cap : Nat} {b : List UInt8} {at' : Nat} {bad : Bool} (h : RdC w T ao cap b at' bad) : RdC (w.setCell ⟨T + 3, 0, none⟩ (.int .i64 5)) T ao cap b at' true := by
  have k : ∀ i, i ≠ T + 3 → (w.setCell ⟨T + 3, 0, none⟩ (.int .i64 5)).heap[i]? = w.heap[i]? := fun i hi => Below.heap_setCell _ _ _ _ hi
  refine ⟨(k _ (by omega)).trans h.bb, (k _ (by omega)).trans h.ba, (Joins.block_setCell h.bf _).trans rfl, (k _ (by omega)).trans h.bm, (k _ (by omega)).trans h.bn, h.hat, h.hcap, h.hno, fun h0 => ?_, h.len⟩
  obtain ⟨bl, off, e, hlt, hat⟩ := h.bytes h0
  refine ⟨bl, off, e, hlt, fun j hj => ?_⟩
  rw [← hat j hj]
  simp only [World.cell?]
  rw [show (w.setCell ⟨T + 3, 0, none⟩ (.int .i64 5)).heap[bl]? = w.heap[bl]? from k bl (by omega)]
theorem RdC.setAt {w : World} {T : Nat} {ao : Option Addr} {cap : Nat} {b : List UInt8} {at' at2 : Nat} {bad : Bool} (h : RdC w T ao cap b at' bad) (h2 : at2 ≤ b.length) : RdC (w.setCell ⟨T + 2, 0, none⟩ (.int .i64 (at2 : Int))) T ao cap b at2 bad := by
  have k : ∀ i, i ≠ T + 2 → (w.setCell ⟨T + 2, 0, none⟩ (.int .i64 (at2 : Int))).heap[i]? = w.heap[i]? := fun i hi => Below.heap_setCell _ _ _ _ hi
  refine ⟨(k _ (by omega)).trans h.bb, (Joins.block_setCell h.ba _).trans rfl, (k _ (by omega)).trans h.bf, (k _ (by omega)).trans h.bm, (k _ (by omega)).trans h.bn, h2, h.hcap, h.hno, fun h0 => ?_, h.len⟩
  obtain ⟨bl, off, e, hlt, hat⟩ := h.bytes h0
  refine ⟨bl, off, e, hlt, fun j hj => ?_⟩
  rw [← hat j hj]
  simp only [World.cell?]
  rw [show (w.setCell ⟨T + 2, 0, none⟩ (.int .i64 (at2 : Int))).heap[bl]? = w.heap[bl]? from k bl (by omega)]
theorem set_moved (w : World) (T i : Nat) (h : rdT T i) (u : Value) : Moved (rdT T) w (w.setCell ⟨i, 0, none⟩ u) := (Moved.refl _ _).setCell (fun _ => h) u

theorem must_any (w : World) (T : Nat) (ao : Option Addr) (cap : Nat) (b : List UInt8) (at' : Nat) (bad c : Bool) (h : RdC w T ao cap b at' bad) :
    Calls Try.prog 89 #[.bool c, pt (T + 3)] w fun e w' => e = .returned (.tuple #[]) ∧ RdC w' T ao cap b at' (bad || !c) ∧ Moved (rdT T) w w' ∧ w'.heap.size = w.heap.size := by
  obtain ⟨c0, c1, c2, c3, c4, f2, f3⟩ := h.cells
  have H : Hid _ := h
  clear h
  cases c with
  | true =>
    go_enter Try.func89, Try.ntmps89
    go_wp2_with (fail)
    go_end0
    exact ⟨rfl, by simpa using H.out, Moved.refl _ _, rfl⟩
  | false =>
    go_enter Try.func89, Try.ntmps89
    go_wp2_with (fail)
    go_end0
    exact ⟨rfl, by simpa using H.out.setBad, set_moved _ _ _ (.inr rfl) _, by simp⟩

theorem RdC.rest {w : World} {T : Nat} {ao : Option Addr} {cap : Nat} {b : List UInt8} {at' : Nat} {bad : Bool} (h : RdC w T ao cap b at' bad) : BytesIn w (.slice (ao.map fun x => x.add at') (b.length - at') (cap - at')) (b.drop at') := by
  have hl := h.len
  refine ⟨⟨_, _, by rw [List.length_drop], fun h0 => ?_⟩, by rw [List.length_drop]; omega⟩
  obtain ⟨bl, off, e, _, hat⟩ := h.bytes (fun e => h0 (by rw [e]; simp))
  subst e
  have hadd : (⟨bl, off, none⟩ : Addr).add at' = ⟨bl, off + at', none⟩ := by unfold Addr.add; split <;> simp_all
  refine ⟨bl, off + at', by show some (Addr.add _ _) = _; rw [hadd], fun j hj => ?_⟩
  rw [List.length_drop] at hj
  have := hat (at' + j) (by omega)
  rw [Nat.add_assoc, this, List.getElem_drop]
theorem rest_none (w : World) (ao : Option Addr) (b : List UInt8) (at' n : Nat) (hn : n = 0) (c : Nat) (hb : b.length ≤ at') : BytesIn w (.slice ao n c) (b.drop at') := by
  subst hn
  have : b.drop at' = [] := List.drop_eq_nil_of_le hb
  rw [this]
  exact ⟨⟨ao, c, rfl, fun h => absurd rfl h⟩, by simp⟩

set_option maxRecDepth 100000 in
set_option maxHeartbeats 4000000 in
theorem rnumber_c (w : World) (T : Nat) (ao : Option Addr) (cap : Nat) (b : List UInt8) (at' : Nat) (bad : Bool) (most : Nat) (h : RdC w T ao cap b at' bad) (hm : most ≤ 1073741824) :
    Calls Try.prog 90 #[.int .i64 (most : Int), pt T, pt (T + 2), pt (T + 4), pt (T + 3)] w fun e w' => e = .returned (.int .i64 (Bk.rnumX ⟨b.drop at', bad⟩ most : Nat)) ∧ (∃ at2, Hid ((Bk.rnum ⟨b.drop at', bad⟩ most).rest = b.drop at2) ∧ RdC w' T ao cap b at2 (Bk.rnum ⟨b.drop at', bad⟩ most).bad) ∧ Moved (rdT T) w w' ∧ w'.heap.size = w.heap.size := by
  obtain ⟨c0, c1, c2, c3, c4, f2, f3⟩ := h.cells
  have SM : Hid (∀ v, BytesIn w v (b.drop at') → Calls Try.prog 91 #[v, .int .i64 (most : Int)] w fun e w' => e = .returned (.tuple #[.int .i64 (Enc.smX (b.drop at') most), .int .i64 (Enc.smN (b.drop at') most), .int .i64 (Enc.smE (b.drop at') most)]) ∧ w' = w) := fun v hv => Enc.small_any w v (b.drop at') most (by omega) (by omega) hv
  have MU : Hid (∀ c : Bool, Calls Try.prog 89 #[.bool c, pt (T + 3)] w fun e w' => e = .returned (.tuple #[]) ∧ RdC w' T ao cap b at' (bad || !c) ∧ Moved (rdT T) w w' ∧ w'.heap.size = w.heap.size) := fun c => must_any w T ao cap b at' bad c h
  have hat := h.hat
  have hcap := h.hcap
  have hlen := h.len
  have R1 : Hid _ := h.rest
  have R2 : Hid (cap = at' → ∀ n c, n = 0 → BytesIn w (.slice ao n c) (b.drop at')) := fun e n c hn => rest_none w ao b at' n hn c (by omega)
  have k1 : (at' : Int) ≤ (b.length : Int) := by omega
  have k2 : (b.length : Int) ≤ (cap : Int) := by omega
  have k3 : (at' : Int) ≤ (cap : Int) := by omega
  have hN := Bk.smN_le (b.drop at') most
  rw [List.length_drop] at hN
  have hNd : ∃ N : Nat, Enc.smN (b.drop at') most = (N : Int) := ⟨_, (Int.toNat_of_nonneg (by unfold Enc.smN; split <;> omega)).symm⟩
  have hXd : ∃ X : Nat, Enc.smX (b.drop at') most = (X : Int) ∧ X ≤ most := ⟨(Enc.smX (b.drop at') most).toNat, (Int.toNat_of_nonneg (by unfold Enc.smX; split <;> omega)).symm, by unfold Enc.smX; split <;> omega⟩
  obtain ⟨N, eN⟩ := hNd
  obtain ⟨X, eX, hX⟩ := hXd
  have HR : Hid (∀ B, B = (bad || !decide (Enc.smE (b.drop at') most = 0)) → Bk.rnumX ⟨b.drop at', bad⟩ most = (if B then 0 else X) ∧ Bk.rnum ⟨b.drop at', bad⟩ most = (if B then ⟨b.drop at', true⟩ else ⟨b.drop (at' + N), false⟩)) := fun B hB => by
    unfold Bk.rnumX Bk.rnum Bk.rnumM Bk.mst
    simp only [eN, eX, Int.toNat_natCast, ← hB]
    cases B <;> simp
  rw [eN, eX] at SM
  rw [eN, Int.toNat_natCast] at hN
  generalize Enc.smE (b.drop at') most = E at SM HR
  clear eN eX h
  obtain ⟨B, hB⟩ : ∃ B, B = (bad || !decide (E = 0)) := ⟨_, rfl⟩
  obtain ⟨r1, r2⟩ := HR.out B hB
  have HX : Hid _ := r1
  have HT : Hid _ := r2
  clear r1 r2
  generalize Bk.rnumX ⟨b.drop at', bad⟩ most = x at HX ⊢
  generalize Bk.rnum ⟨b.drop at', bad⟩ most = t at HT ⊢
  have HB : Hid (B = (bad || !(E == 0))) := by show _ = _; rw [hB]; congr 2
  clear HR hB
  cases B with
  | true =>
    by_cases k4 : cap = at'
    · have Q1 : Hid (∀ n c, n = 0 → BytesIn w (.slice ao n c) (b.drop at')) := R2.out k4
      clear R1 R2
      go_enter Try.func90, Try.ntmps90
      go_wp2_with (first
        | (go_at_call 91; refine (SM.out _ (Q1.out _ _ (by omega))).mono ?_; rintro e w1 ⟨rfl, rfl⟩; clear SM)
        | (go_at_call 89; refine (MU.out _).mono ?_; rintro e w2 ⟨rfl, r2, m2, z2⟩; rw [← HB.out] at r2; obtain ⟨d0, d1, d2, d3, d4, g2, g3⟩ := r2.cells; clear MU))
      go_ret
      have hx := HX.out
      have ht := HT.out
      subst hx ht
      exact ⟨rfl, ⟨at', rfl, r2⟩, m2, z2⟩
    · clear R2
      go_enter Try.func90, Try.ntmps90
      go_wp2_with (first
        | (go_at_call 91; refine (SM.out _ R1.out).mono ?_; rintro e w1 ⟨rfl, rfl⟩; clear SM)
        | (go_at_call 89; refine (MU.out _).mono ?_; rintro e w2 ⟨rfl, r2, m2, z2⟩; rw [← HB.out] at r2; obtain ⟨d0, d1, d2, d3, d4, g2, g3⟩ := r2.cells; clear MU))
      go_ret
      have hx := HX.out
      have ht := HT.out
      subst hx ht
      exact ⟨rfl, ⟨at', rfl, r2⟩, m2, z2⟩
  | false =>
    by_cases k4 : cap = at'
    · have Q1 : Hid (∀ n c, n = 0 → BytesIn w (.slice ao n c) (b.drop at')) := R2.out k4
      clear R1 R2
      go_enter Try.func90, Try.ntmps90
      go_wp2_with (first
        | (go_at_call 91; refine (SM.out _ (Q1.out _ _ (by omega))).mono ?_; rintro e w1 ⟨rfl, rfl⟩; clear SM)
        | (go_at_call 89; refine (MU.out _).mono ?_; rintro e w2 ⟨rfl, r2, m2, z2⟩; rw [← HB.out] at r2; obtain ⟨d0, d1, d2, d3, d4, g2, g3⟩ := r2.cells; clear MU))
      go_ret
      have hx := HX.out
      have ht := HT.out
      subst hx ht
      exact ⟨rfl, ⟨at' + N, rfl, r2.setAt (by omega)⟩, m2.trans (set_moved _ _ _ (.inl rfl) _) (fun _ _ h => h), by simpa using z2⟩
    · clear R2
      go_enter Try.func90, Try.ntmps90
      go_wp2_with (first
        | (go_at_call 91; refine (SM.out _ R1.out).mono ?_; rintro e w1 ⟨rfl, rfl⟩; clear SM)
        | (go_at_call 89; refine (MU.out _).mono ?_; rintro e w2 ⟨rfl, r2, m2, z2⟩; rw [← HB.out] at r2; obtain ⟨d0, d1, d2, d3, d4, g2, g3⟩ := r2.cells; clear MU))
      go_ret
      have hx := HX.out
      have ht := HT.out
      subst hx ht
      exact ⟨rfl, ⟨at' + N, rfl, r2.setAt (by omega)⟩, m2.trans (set_moved _ _ _ (.inl rfl) _) (fun _ _ h => h), by simpa using z2⟩
end Go.Proofs.Ytbdgdigpnfpnhaa.Q
namespace Go.Proofs.Ytbdgdigpnfpnhaa.Q
open Go.RowKit

theorem bytes_str {w : World} {a : Option Addr} {n c : Nat} {l : List UInt8} (h : BytesIn w (.slice a n c) l) : (convert 89 9 (.slice a n c)).run Try.prog w = .ok (str l) w := by
  obtain ⟨⟨a', c', e, hf⟩, _⟩ := h
  cases e
  cases a with
  | none =>
    have h0 : l = [] := by
      by_cases h0 : l = []
      · exact h0
      · obtain ⟨_, _, e, _⟩ := hf h0; cases e
    subst h0
    exact run_convert_bytes_nil w 89 5 Try.underlying89 Try.underlying5 0 c _ Try.underlying9
  | some ad =>
    refine run_convert_bytes_back w 89 9 5 ad c l Try.underlying89 Try.underlying5 Try.underlying9 (fun j hj => ?_)
    obtain ⟨b, off, e, hat⟩ := hf (fun e => by rw [e] at hj; simp at hj)
    cases e
    have hadd : (⟨b, off, none⟩ : Addr).add j = ⟨b, off + j, none⟩ := by unfold Addr.add; split <;> simp_all
    rw [hadd, hat j hj]
theorem RdC.part {w : World} {T : Nat} {ao : Option Addr} {cap : Nat} {b : List UInt8} {at' : Nat} {bad : Bool} (h : RdC w T ao cap b at' bad) (lo n c : Nat) (hn : lo + n ≤ b.length) : BytesIn w (.slice (ao.map fun x => x.add lo) n c) ((b.drop lo).take n) := by
  have hl := h.len
  have hln : ((b.drop lo).take n).length = n := by rw [List.length_take, List.length_drop]; omega
  refine ⟨⟨_, c, by rw [hln], fun h0 => ?_⟩, by omega⟩
  obtain ⟨bl, off, e, _, hat⟩ := h.bytes (fun e => h0 (by rw [e]; simp))
  subst e
  have hadd : (⟨bl, off, none⟩ : Addr).add lo = ⟨bl, off + lo, none⟩ := by unfold Addr.add; split <;> simp_all
  refine ⟨bl, off + lo, by show some (Addr.add _ _) = _; rw [hadd], fun j hj => ?_⟩
  rw [hln] at hj
  have := hat (lo + j) (by omega)
  rw [Nat.add_assoc, this, List.getElem_take, List.getElem_drop]

set_option maxRecDepth 100000 in
set_option maxHeartbeats 4000000 in
theorem rtext_c (w : World) (T : Nat) (ao : Option Addr) (cap : Nat) (b : List UInt8) (at' : Nat) (bad : Bool) (most : Nat) (h : RdC w T ao cap b at' bad) (hm : most ≤ 1073741824) :
    Calls Try.prog 92 #[.int .i64 (most : Int), pt (T + 5), pt (T + 4), pt T, pt (T + 2), pt (T + 3)] w fun e w' => e = .returned (str (Bk.rtextX ⟨b.drop at', bad⟩ most)) ∧ (∃ at2, Hid ((Bk.rtext ⟨b.drop at', bad⟩ most).rest = b.drop at2) ∧ RdC w' T ao cap b at2 (Bk.rtext ⟨b.drop at', bad⟩ most).bad) ∧ Moved (rdT T) w w' ∧ w'.heap.size = w.heap.size := by
  obtain ⟨c0, c1, c2, c3, c4, f2, f3⟩ := h.cells
  have NM := rnumber_c w T ao cap b at' bad most h hm
  have hn9 := Bk.rnumX_le ⟨b.drop at', bad⟩ most
  have HX : Hid (Bk.rtextX ⟨b.drop at', bad⟩ most = if (Bk.rtextM ⟨b.drop at', bad⟩ most).bad then [] else (Bk.rnum ⟨b.drop at', bad⟩ most).rest.take (Bk.rnumX ⟨b.drop at', bad⟩ most)) := rfl
  have HT : Hid (Bk.rtext ⟨b.drop at', bad⟩ most = if (Bk.rtextM ⟨b.drop at', bad⟩ most).bad then Bk.rtextM ⟨b.drop at', bad⟩ most else ⟨(Bk.rnum ⟨b.drop at', bad⟩ most).rest.drop (Bk.rnumX ⟨b.drop at', bad⟩ most), false⟩) := rfl
  unfold Bk.rtextM at HX HT
  generalize Bk.rnumX ⟨b.drop at', bad⟩ most = n at *
  generalize Bk.rnum ⟨b.drop at', bad⟩ most = t at *
  generalize Bk.rtextX ⟨b.drop at', bad⟩ most = x at HX ⊢
  generalize Bk.rtext ⟨b.drop at', bad⟩ most = y at HT ⊢
  clear h
  go_enter Try.func92, Try.ntmps92
  go_wp2_with (fail)
  refine NM.mono ?_
  rintro e w1 ⟨rfl, ⟨at2, HA, r1⟩, m1, z1⟩
  clear NM c0 c1 c2 c3 c4 f2 f3
  obtain ⟨c0, c1, c2, c3, c4, f2, f3⟩ := r1.cells
  have hat := r1.hat
  have hcap := r1.hcap
  have hlen := r1.len
  obtain ⟨cc, hcc⟩ : ∃ cc, cc = decide ((n : Int) ≤ (b.length : Int) - (at2 : Int)) := ⟨_, rfl⟩
  have MU : Hid (Calls Try.prog 89 #[.bool cc, pt (T + 3)] w1 fun e w' => e = .returned (.tuple #[]) ∧ RdC w' T ao cap b at2 (t.bad || !cc) ∧ Moved (rdT T) w1 w' ∧ w'.heap.size = w1.heap.size) := must_any w1 T ao cap b at2 t.bad cc r1
  obtain ⟨B, hB⟩ : ∃ B, B = (t.bad || !cc) := ⟨_, rfl⟩
  have hlt : t.rest.length = b.length - at2 := by rw [HA.out, List.length_drop]
  have hdc : decide (n ≤ t.rest.length) = cc := by rw [hcc, hlt]; congr 1; apply propext; omega
  have hM : (Bk.mst t (decide (n ≤ t.rest.length))) = ⟨t.rest, B⟩ := by unfold Bk.mst; rw [hdc, ← hB]
  have hx : x = if B then [] else t.rest.take n := by have := HX.out; rw [hM] at this; exact this
  have hy : y = if B then ⟨t.rest, B⟩ else ⟨t.rest.drop n, false⟩ := by have := HT.out; rw [hM] at this; exact this
  have HX' : Hid _ := hx
  have HY' : Hid _ := hy
  have HCC : Hid (B = false → n ≤ b.length - at2) := fun e => by
    rw [hB] at e
    have : cc = true := by cases cc <;> simp_all
    rw [hcc] at this
    have := of_decide_eq_true this
    omega
  have MB : Hid (Calls Try.prog 89 #[.bool cc, pt (T + 3)] w1 fun e w' => e = .returned (.tuple #[]) ∧ RdC w' T ao cap b at2 B ∧ Moved (rdT T) w1 w' ∧ w'.heap.size = w1.heap.size) := by rw [hB]; exact MU.out
  have RT : Hid (t.rest = b.drop at2) := HA
  have HC : Hid (cc = decide ((n : Int) ≤ (b.length : Int) - (at2 : Int))) := hcc
  rw [hcc] at MB
  have m1' : Hid _ := m1
  clear HX HT hM hx hy hdc hlt hB hcc MU HC HA m1
  cases B with
  | true =>
    have hx := HX'.out
    have hy := HY'.out
    subst hx hy
    clear HX' HY' HCC
    go_wp2_with (first
      | (go_at_call 89; refine MB.out.mono ?_; rintro e w2 ⟨rfl, r2, m2, z2⟩; obtain ⟨d0, d1, d2, d3, d4, g2, g3⟩ := r2.cells; clear MB))
    go_ret
    exact ⟨rfl, ⟨at2, RT, r2⟩, m1'.out.trans m2 (fun _ _ h => h), z2.trans z1⟩
  | false =>
    have hle := HCC.out rfl
    have hx : x = t.rest.take n := HX'.out
    have hy : y = ⟨t.rest.drop n, false⟩ := HY'.out
    subst hx hy
    clear HX' HY' HCC
    have hnat : ((at2 + n : Nat) : Int) = (at2 : Int) + (n : Int) := by omega
    have CV : Hid (∀ w2, RdC w2 T ao cap b at2 false → ∀ c, (convert 89 9 (.slice (ao.map fun x => x.add at2) n c)).run Try.prog (w2.setCell ⟨T + 2, 0, none⟩ (.int .i64 ((at2 : Int) + (n : Int)))) = .ok (str (t.rest.take n)) (w2.setCell ⟨T + 2, 0, none⟩ (.int .i64 ((at2 : Int) + (n : Int))))) := fun w2 r2 c => by
      rw [RT.out, ← hnat]
      exact bytes_str ((r2.setAt (at2 := at2 + n) (by omega)).part at2 n c (by omega))
    have ST : Hid (∀ w2, RdC w2 T ao cap b at2 false → RdC (w2.setCell ⟨T + 2, 0, none⟩ (.int .i64 ((at2 : Int) + (n : Int)))) T ao cap b (at2 + n) false) := fun w2 r2 => by
      rw [← hnat]
      exact r2.setAt (by omega)
    have HD : Hid ((t.rest.drop n) = b.drop (at2 + n)) := by show _ = _; rw [RT.out, List.drop_drop]
    have hq0 : n = 0 → t.rest.take n = [] := fun e => by rw [e]; rfl
    have HQ0 : Hid (n = 0 → t.rest.take n = []) := hq0
    clear hq0
    obtain ⟨q, hq⟩ : ∃ q, q = t.rest.take n := ⟨_, rfl⟩
    have HQ : Hid (q = t.rest.take n) := hq
    rw [← hq] at CV HQ0
    clear hq
    clear hnat
    by_cases k4 : cap = at2
    · have n0 : n = 0 := by omega
      subst n0
      have MB2 : Hid (Calls Try.prog 89 #[.bool true, pt (T + 3)] w1 fun e w' => e = .returned (.tuple #[]) ∧ RdC w' T ao cap b at2 false ∧ Moved (rdT T) w1 w' ∧ w'.heap.size = w1.heap.size) := by
        have := MB.out
        rw [decide_eq_true (by omega)] at this
        exact this
      have hq := HQ0.out rfl
      have CW : Hid (∀ wx : World, (convert 89 9 (.slice ao 0 0)).run Try.prog wx = .ok (.string ⟨#[]⟩) wx) := fun wx => bytes_str (l := []) ⟨⟨ao, 0, rfl, fun h => absurd rfl h⟩, by simp⟩
      clear MB
      subst k4
      go_wp2_with (first
        | (go_at_call 89; refine MB2.out.mono ?_; rintro e w2 ⟨rfl, r2, m2, z2⟩; obtain ⟨d0, d1, d2, d3, d4, g2, g3⟩ := r2.cells; have cv := CW.out (w2.setCell ⟨T + 2, 0, none⟩ (.int .i64 (cap : Int))); clear MB2))
      go_ret
      exact ⟨rfl, ⟨cap, HD, by have := ST.out _ r2; simpa using this⟩, (m1'.out.trans m2 (fun _ _ h => h)).trans (set_moved _ _ _ (.inl rfl) _) (fun _ _ h => h), by simpa using z2.trans z1⟩
    · go_wp2_with (first
        | (go_at_call 89; refine MB.out.mono ?_; rintro e w2 ⟨rfl, r2, m2, z2⟩; obtain ⟨d0, d1, d2, d3, d4, g2, g3⟩ := r2.cells; have cv := CV.out _ r2 (cap - at2); clear MB))
      go_ret
      exact ⟨by rw [← HQ.out]; rfl, ⟨at2 + n, HD, ST.out _ r2⟩, (m1'.out.trans m2 (fun _ _ h => h)).trans (set_moved _ _ _ (.inl rfl) _) (fun _ _ h => h), by simpa using z2.trans z1⟩

set_option maxRecDepth 100000 in
set_option maxHeartbeats 4000000 in
theorem rend_c (w : World) (T : Nat) (ao : Option Addr) (cap : Nat) (b : List UInt8) (at' : Nat) (bad : Bool) (h : RdC w T ao cap b at' bad) :
    Calls Try.prog 93 #[pt (T + 4), pt (T + 2), pt T, pt (T + 3)] w fun e w' => e = .returned (errV (Bk.mst ⟨b.drop at', bad⟩ (decide (b.drop at' = []))).bad) ∧ Moved (rdT T) w w' ∧ w'.heap.size = w.heap.size := by
  obtain ⟨c0, c1, c2, c3, c4, f2, f3⟩ := h.cells
  have hat := h.hat
  have hlen := h.len
  obtain ⟨cc, hcc⟩ : ∃ cc, cc = ((at' : Int) == (b.length : Int)) := ⟨_, rfl⟩
  have hd : decide (b.drop at' = []) = cc := by
    rw [hcc]
    by_cases e : at' = b.length
    · rw [e]; simp
    · have h1 : ¬ b.drop at' = [] := fun h => by have := congrArg List.length h; rw [List.length_drop, List.length_nil] at this; omega
      rw [decide_eq_false h1]
      symm
      simp
      omega
  have MU : Hid (Calls Try.prog 89 #[.bool ((at' : Int) == (b.length : Int)), pt (T + 3)] w fun e w' => e = .returned (.tuple #[]) ∧ RdC w' T ao cap b at' (bad || !cc) ∧ Moved (rdT T) w w' ∧ w'.heap.size = w.heap.size) := by rw [← hcc]; exact must_any w T ao cap b at' bad cc h
  have HE : Hid ((Bk.mst ⟨b.drop at', bad⟩ (decide (b.drop at' = []))).bad = (bad || !cc)) := by show _ = _; rw [hd]; rfl
  rw [HE.out]
  generalize (bad || !cc) = B at MU
  clear h hd hcc HE
  go_enter Try.func93, Try.ntmps93
  go_wp2_with (first
    | (go_at_call 89; refine MU.out.mono ?_; rintro e w2 ⟨rfl, r2, m2, z2⟩; obtain ⟨d0, d1, d2, d3, d4, g2, g3⟩ := r2.cells; clear MU))
  go_ret
  exact ⟨rfl, m2, z2⟩
end Go.Proofs.Ytbdgdigpnfpnhaa.Q
namespace Go.Proofs.Ytbdgdigpnfpnhaa.Q
open Go.RowKit

theorem alloc6 (w : World) (o0 o1 o2 o3 o4 o5 : Obj) :
    ((((((w.alloc o0).alloc o1).alloc o2).alloc o3).alloc o4).alloc o5).heap[w.heap.size]? = some o0 ∧ ((((((w.alloc o0).alloc o1).alloc o2).alloc o3).alloc o4).alloc o5).heap[w.heap.size + 1]? = some o1 ∧ ((((((w.alloc o0).alloc o1).alloc o2).alloc o3).alloc o4).alloc o5).heap[w.heap.size + 2]? = some o2 ∧ ((((((w.alloc o0).alloc o1).alloc o2).alloc o3).alloc o4).alloc o5).heap[w.heap.size + 3]? = some o3 ∧ ((((((w.alloc o0).alloc o1).alloc o2).alloc o3).alloc o4).alloc o5).heap[w.heap.size + 4]? = some o4 ∧ ((((((w.alloc o0).alloc o1).alloc o2).alloc o3).alloc o4).alloc o5).heap[w.heap.size + 5]? = some o5 ∧ Below w.heap.size w ((((((w.alloc o0).alloc o1).alloc o2).alloc o3).alloc o4).alloc o5) := by
  have hp : ∀ (v : World) (o : Obj), (v.alloc o).heap = v.heap.push o := fun _ _ => rfl
  refine ⟨?_, ?_, ?_, ?_, ?_, ?_, ?_⟩
  · rw [hp, hp, hp, hp, hp, hp]
    iterate 5 rw [Array.getElem?_push, if_neg (by simp only [Array.size_push]; omega)]
    rw [Array.getElem?_push, if_pos rfl]
  · rw [hp, hp, hp, hp, hp, hp]; simp [Array.getElem_push]
  · rw [hp, hp, hp, hp, hp, hp]; simp [Array.getElem_push]
  · rw [hp, hp, hp, hp, hp, hp]; simp [Array.getElem_push]
  · rw [hp, hp, hp, hp, hp, hp]; simp [Array.getElem_push]
  · rw [hp, hp, hp, hp, hp, hp]; simp [Array.getElem_push]
  · exact ((((((Below.refl _ _).alloc (Nat.le_refl _) _).alloc (by simp) _).alloc (by simp; omega) _).alloc (by simp; omega) _).alloc (by simp; omega) _).alloc (by simp; omega) _

set_option maxRecDepth 100000 in
set_option maxHeartbeats 4000000 in
theorem readerOf_any (w : World) (a : Option Addr) (c : Nat) (b : List UInt8) (h : BytesIn w (.slice a b.length c) b) (hcap : b.length ≤ c) (hno : a = none → c = 0) (hlen : b.length ≤ 1000000000) :
    Calls Try.prog 82 #[.slice a b.length c] w fun e w' => e = .returned (.agg #[mustV w.heap.size, numV w.heap.size, textV w.heap.size, endV w.heap.size]) ∧ RdC w' w.heap.size a c b 0 false ∧ Below w.heap.size w w' := by
  have H : Hid _ := h
  clear h
  go_enter Try.func82, Try.ntmps82
  go_wp2_with (fail)
  obtain ⟨b0, b1, b2, b3, b4, b5, be⟩ := alloc6 w (.cells #[.slice a b.length c] 89) (.cells #[mustV w.heap.size, numV w.heap.size, textV w.heap.size, endV w.heap.size] 117) (.cells #[.int .i64 0] 3) (.cells #[.int .i64 0] 29) (.cells #[mustV w.heap.size] 112) (.cells #[numV w.heap.size] 113)
  refine bodyPost_ret (v := .agg #[mustV w.heap.size, numV w.heap.size, textV w.heap.size, endV w.heap.size]) ?_ rfl ?_
  · have q0 := Joins.cell_of_block b1 0
    have q1 := Joins.cell_of_block b1 1
    have q2 := Joins.cell_of_block b1 2
    have q3 := Joins.cell_of_block b1 3
    simp [results, Try.results82, go_sem, q0, q1, q2, q3]
  · refine ⟨rfl, ⟨b0, b2, b3, b4, b5, Nat.zero_le _, hcap, hno, fun h0 => ?_, hlen⟩, be⟩
    obtain ⟨⟨a', cap', e, hf⟩, _⟩ := H.out
    cases e
    obtain ⟨bl, off, ha, hat⟩ := hf h0
    refine ⟨bl, off, ha, ?_, hat.later be⟩
    exact World.block_lt_of_cell? w _ (hat 0 (List.length_pos_iff.2 h0))
end Go.Proofs.Ytbdgdigpnfpnhaa.Q
namespace Go.Proofs.Ytbdgdigpnfpnhaa.Q
open Go.RowKit

/-- A reader in plain words. -/
def RdS (w : World) (T : Nat) (b : List UInt8) (s : Bk.Rd) : Prop := ∃ ao cap at', RdC w T ao cap b at' s.bad ∧ s.rest = b.drop at'
theorem RdS.lt {w : World} {T : Nat} {b : List UInt8} {s : Bk.Rd} (h : RdS w T b s) : T + 5 < w.heap.size := by
  obtain ⟨ao, cap, at', hc, _⟩ := h
  exact hc.lt
theorem RdS.same {w w' : World} {T : Nat} {b : List UInt8} {s : Bk.Rd} (h : RdS w T b s) {S : Nat → Prop} (m : Moved S w w') (hS : ∀ i, S i → T + 5 < i) : RdS w' T b s := by
  obtain ⟨ao, cap, at', hc, hr⟩ := h
  exact ⟨ao, cap, at', hc.same m hS, hr⟩
theorem RdS.later {w w' : World} {T : Nat} {b : List UInt8} {s : Bk.Rd} (h : RdS w T b s) (m : Below w.heap.size w w') : RdS w' T b s := h.same (S := fun _ => False) (Moved.below m) (fun _ h => h.elim)
theorem num_s {w : World} {T : Nat} {b : List UInt8} {s : Bk.Rd} (most : Nat) (h : RdS w T b s) (hm : most ≤ 1073741824) :
    Calls Try.prog 90 #[.int .i64 (most : Int), pt T, pt (T + 2), pt (T + 4), pt (T + 3)] w fun e w' => e = .returned (.int .i64 (Bk.rnumX s most : Nat)) ∧ RdS w' T b (Bk.rnum s most) ∧ Moved (rdT T) w w' ∧ w'.heap.size = w.heap.size := by
  obtain ⟨ao, cap, at', hc, hr⟩ := h
  obtain ⟨r, bad⟩ := s
  simp only at hr hc
  subst hr
  refine (rnumber_c w T ao cap b at' bad most hc hm).mono ?_
  rintro e w' ⟨rfl, ⟨at2, h1, h2⟩, m, z⟩
  exact ⟨rfl, ⟨ao, cap, at2, h2, h1⟩, m, z⟩
theorem text_s {w : World} {T : Nat} {b : List UInt8} {s : Bk.Rd} (most : Nat) (h : RdS w T b s) (hm : most ≤ 1073741824) :
    Calls Try.prog 92 #[.int .i64 (most : Int), pt (T + 5), pt (T + 4), pt T, pt (T + 2), pt (T + 3)] w fun e w' => e = .returned (str (Bk.rtextX s most)) ∧ RdS w' T b (Bk.rtext s most) ∧ Moved (rdT T) w w' ∧ w'.heap.size = w.heap.size := by
  obtain ⟨ao, cap, at', hc, hr⟩ := h
  obtain ⟨r, bad⟩ := s
  simp only at hr hc
  subst hr
  refine (rtext_c w T ao cap b at' bad most hc hm).mono ?_
  rintro e w' ⟨rfl, ⟨at2, h1, h2⟩, m, z⟩
  exact ⟨rfl, ⟨ao, cap, at2, h2, h1⟩, m, z⟩
theorem must_s {w : World} {T : Nat} {b : List UInt8} {s : Bk.Rd} (c : Bool) (h : RdS w T b s) :
    Calls Try.prog 89 #[.bool c, pt (T + 3)] w fun e w' => e = .returned (.tuple #[]) ∧ RdS w' T b (Bk.mst s c) ∧ Moved (rdT T) w w' ∧ w'.heap.size = w.heap.size := by
  obtain ⟨ao, cap, at', hc, hr⟩ := h
  refine (must_any w T ao cap b at' s.bad c hc).mono ?_
  rintro e w' ⟨rfl, h2, m, z⟩
  exact ⟨rfl, ⟨ao, cap, at', h2, hr⟩, m, z⟩
theorem end_s {w : World} {T : Nat} {b : List UInt8} {s : Bk.Rd} (h : RdS w T b s) :
    Calls Try.prog 93 #[pt (T + 4), pt (T + 2), pt T, pt (T + 3)] w fun e w' => e = .returned (errV (Bk.mst s (decide (s.rest = []))).bad) ∧ Moved (rdT T) w w' ∧ w'.heap.size = w.heap.size := by
  obtain ⟨ao, cap, at', hc, hr⟩ := h
  obtain ⟨r, bad⟩ := s
  simp only at hr hc
  subst hr
  exact rend_c w T ao cap b at' bad hc

abbrev rV (T : Nat) : Value := .agg #[mustV T, numV T, textV T, endV T]
abbrev rO (T : Nat) : Obj := .cells #[mustV T, numV T, textV T, endV T] 117 (0, 0)
/-- What lies there while an entry is taken: the reader, its copy, the answer's block. -/
structure Ex (w0 w : World) (T : Nat) (b : List UInt8) (s : Bk.Rd) : Prop where
  rd : RdS w T b s
  bx : w.heap[w0.heap.size]? = some (rO T)
  by' : w.heap[w0.heap.size + 1]? = some (eO ⟨[], [], 0, false⟩)
  mv : Moved (rdT T) w0 w
  top : T + 5 < w0.heap.size
theorem Ex.step {w0 w w' : World} {T : Nat} {b : List UInt8} {s s' : Bk.Rd} (h : Ex w0 w T b s) (r : RdS w' T b s') (m : Moved (rdT T) w w') : Ex w0 w' T b s' := by
  have ht := h.top
  have l1 := (Array.getElem?_eq_some_iff.1 h.bx).1
  have l2 := (Array.getElem?_eq_some_iff.1 h.by').1
  exact ⟨r, (m.block _ l1 (by simp only [rdT]; omega)).trans h.bx, (m.block _ l2 (by simp only [rdT]; omega)).trans h.by', h.mv.trans m (fun _ _ h => h), ht⟩
theorem Ex.later {w0 w w' : World} {T : Nat} {b : List UInt8} {s : Bk.Rd} (h : Ex w0 w T b s) (m : Below w.heap.size w w') : Ex w0 w' T b s := h.step (h.rd.later m) (Moved.below m)
theorem Ex.cells {w0 w : World} {T : Nat} {b : List UInt8} {s : Bk.Rd} (h : Ex w0 w T b s) : w.cell? ⟨w0.heap.size, 0, none⟩ = some (mustV T) ∧ w.cell? ⟨w0.heap.size, 1, none⟩ = some (numV T) ∧ w.cell? ⟨w0.heap.size, 2, none⟩ = some (textV T) :=
  ⟨Joins.cell_of_block h.bx 0, Joins.cell_of_block h.bx 1, Joins.cell_of_block h.bx 2⟩

theorem slot4 {w : World} {B : Nat} {e : Mm.Ent} (h : w.heap[B]? = some (eO e)) : w.cell? ⟨B, 0, none⟩ = some (str e.key) ∧ w.cell? ⟨B, 1, none⟩ = some (str e.value) ∧ w.cell? ⟨B, 2, none⟩ = some (.int .i64 e.seq) ∧ w.cell? ⟨B, 3, none⟩ = some (.bool e.del) ∧ w.frozen? ⟨B, 0, none⟩ = false ∧ w.frozen? ⟨B, 1, none⟩ = false ∧ w.frozen? ⟨B, 2, none⟩ = false ∧ w.frozen? ⟨B, 3, none⟩ = false :=
  ⟨Joins.cell_of_block h 0, Joins.cell_of_block h 1, Joins.cell_of_block h 2, Joins.cell_of_block h 3, Joins.unfrozen_of_block h 0, Joins.unfrozen_of_block h 1, Joins.unfrozen_of_block h 2, Joins.unfrozen_of_block h 3⟩
theorem ext_take (K : List UInt8) (n : Nat) : (⟨K.toArray⟩ : ByteArray).extract 0 n = ⟨(K.take n).toArray⟩ := by
  apply ByteArray.ext
  rw [ByteArray.data_extract]
  simp

/-- The same, with the entry's own block. -/
structure Ey (w0 w : World) (T : Nat) (b : List UInt8) (s : Bk.Rd) (e : Mm.Ent) : Prop extends Ex w0 w T b s where
  bz : w.heap[w0.heap.size + 2]? = some (eO e)
theorem Ey.step {w0 w w' : World} {T : Nat} {b : List UInt8} {s s' : Bk.Rd} {e : Mm.Ent} (h : Ey w0 w T b s e) (r : RdS w' T b s') (m : Moved (rdT T) w w') : Ey w0 w' T b s' e := by
  have ht := h.top
  have l1 := (Array.getElem?_eq_some_iff.1 h.bz).1
  exact ⟨h.toEx.step r m, (m.block _ l1 (by simp only [rdT]; omega)).trans h.bz⟩
theorem Ey.later {w0 w w' : World} {T : Nat} {b : List UInt8} {s : Bk.Rd} {e : Mm.Ent} (h : Ey w0 w T b s e) (m : Below w.heap.size w w') : Ey w0 w' T b s e := h.step (h.rd.later m) (Moved.below m)
theorem Ex.set {w0 w : World} {T : Nat} {b : List UInt8} {s : Bk.Rd} (h : Ex w0 w T b s) (i : Nat) (u : Value) : Ex w0 (w.setCell ⟨w0.heap.size + 2, i, none⟩ u) T b s := by
  have ht := h.top
  have k : ∀ j, j ≠ w0.heap.size + 2 → (w.setCell ⟨w0.heap.size + 2, i, none⟩ u).heap[j]? = w.heap[j]? := fun j hj => Below.heap_setCell _ _ _ _ hj
  have m : Moved (fun j => j = w0.heap.size + 2) w (w.setCell ⟨w0.heap.size + 2, i, none⟩ u) := Moved.setCell (S := fun j => j = w0.heap.size + 2) (Moved.refl _ w) (p := ⟨w0.heap.size + 2, i, none⟩) (fun _ => rfl) u
  refine ⟨h.rd.same m (fun j hj => by omega), (k _ (by omega)).trans h.bx, (k _ (by omega)).trans h.by', h.mv.trans m (fun j hj e => by omega), ht⟩
theorem relA {w0 w2 : World} {T : Nat} {b : List UInt8} {s : Bk.Rd} (K : List UInt8) (h : Ex w0 w2 T b s) (hz : w2.heap.size = w0.heap.size + 2) : Ey w0 (w2.alloc (.cells #[str K, .string ⟨#[]⟩, .int .i64 0, .bool false] 38)) T b s ⟨K, [], 0, false⟩ := by
  refine ⟨h.later ((Below.refl _ _).alloc (Nat.le_refl _) _), ?_⟩
  rw [← hz]
  exact World.alloc_heap_new w2 _
theorem relB {w0 w2 : World} {T : Nat} {b : List UInt8} {s : Bk.Rd} (K : List UInt8) (h : Ex w0 w2 T b s) (hb : w2.heap[w0.heap.size + 2]? = some (eO ⟨[], [], 0, false⟩)) : Ey w0 ((((w2.setCell ⟨w0.heap.size + 2, 0, none⟩ (str K)).setCell ⟨w0.heap.size + 2, 1, none⟩ (.string ⟨#[]⟩)).setCell ⟨w0.heap.size + 2, 2, none⟩ (.int .i64 0)).setCell ⟨w0.heap.size + 2, 3, none⟩ (.bool false)) T b s ⟨K, [], 0, false⟩ := by
  refine ⟨(((h.set 0 _).set 1 _).set 2 _).set 3 _, ?_⟩
  exact (Joins.block_setCell (Joins.block_setCell (Joins.block_setCell (Joins.block_setCell hb _) _) _) _).trans rfl
theorem Ey.set {w0 w : World} {T : Nat} {b : List UInt8} {s : Bk.Rd} {e e' : Mm.Ent} (h : Ey w0 w T b s e) (i : Nat) (u : Value) (he : #[str e.key, str e.value, .int .i64 e.seq, .bool e.del].setIfInBounds i u = #[str e'.key, str e'.value, .int .i64 e'.seq, .bool e'.del]) : Ey w0 (w.setCell ⟨w0.heap.size + 2, i, none⟩ u) T b s e' := by
  refine ⟨h.toEx.set i u, ?_⟩
  rw [Joins.block_setCell h.bz u, he]
theorem Ey.cells {w0 w : World} {T : Nat} {b : List UInt8} {s : Bk.Rd} {e : Mm.Ent} (h : Ey w0 w T b s e) : (w.cell? ⟨w0.heap.size, 0, none⟩ = some (mustV T) ∧ w.cell? ⟨w0.heap.size, 1, none⟩ = some (numV T) ∧ w.cell? ⟨w0.heap.size, 2, none⟩ = some (textV T)) ∧ w.cell? ⟨w0.heap.size + 2, 0, none⟩ = some (str e.key) ∧ w.cell? ⟨w0.heap.size + 2, 1, none⟩ = some (str e.value) ∧ w.cell? ⟨w0.heap.size + 2, 2, none⟩ = some (.int .i64 e.seq) ∧ w.cell? ⟨w0.heap.size + 2, 3, none⟩ = some (.bool e.del) ∧ w.frozen? ⟨w0.heap.size + 2, 0, none⟩ = false ∧ w.frozen? ⟨w0.heap.size + 2, 1, none⟩ = false ∧ w.frozen? ⟨w0.heap.size + 2, 2, none⟩ = false ∧ w.frozen? ⟨w0.heap.size + 2, 3, none⟩ = false := ⟨h.toEx.cells, slot4 h.bz⟩
/-- The answer's block is filled. -/
theorem Ey.fin {w0 w : World} {T : Nat} {b : List UInt8} {s : Bk.Rd} {e : Mm.Ent} (h : Ey w0 w T b s e) :
    ((((w.setCell ⟨w0.heap.size + 1, 0, none⟩ (str e.key)).setCell ⟨w0.heap.size + 1, 1, none⟩ (str e.value)).setCell ⟨w0.heap.size + 1, 2, none⟩ (.int .i64 e.seq)).setCell ⟨w0.heap.size + 1, 3, none⟩ (.bool e.del)).heap[w0.heap.size + 1]? = some (eO e) ∧ RdS ((((w.setCell ⟨w0.heap.size + 1, 0, none⟩ (str e.key)).setCell ⟨w0.heap.size + 1, 1, none⟩ (str e.value)).setCell ⟨w0.heap.size + 1, 2, none⟩ (.int .i64 e.seq)).setCell ⟨w0.heap.size + 1, 3, none⟩ (.bool e.del)) T b s ∧ Moved (rdT T) w0 ((((w.setCell ⟨w0.heap.size + 1, 0, none⟩ (str e.key)).setCell ⟨w0.heap.size + 1, 1, none⟩ (str e.value)).setCell ⟨w0.heap.size + 1, 2, none⟩ (.int .i64 e.seq)).setCell ⟨w0.heap.size + 1, 3, none⟩ (.bool e.del)) := by
  have ht := h.top
  have m : ∀ (v : World) (i : Nat) (u : Value), Moved (fun j => j = w0.heap.size + 1) v (v.setCell ⟨w0.heap.size + 1, i, none⟩ u) := fun v i u => Moved.setCell (S := fun j => j = w0.heap.size + 1) (Moved.refl _ v) (p := ⟨w0.heap.size + 1, i, none⟩) (fun _ => rfl) u
  have m4 := (((m w 0 (str e.key)).trans (m _ 1 (str e.value)) (fun _ _ h => h)).trans (m _ 2 (.int .i64 e.seq)) (fun _ _ h => h)).trans (m _ 3 (.bool e.del)) (fun _ _ h => h)
  refine ⟨(Joins.block_setCell (Joins.block_setCell (Joins.block_setCell (Joins.block_setCell h.by' _) _) _) _).trans rfl, h.rd.same m4 (fun j hj => by omega), h.mv.trans m4 (fun j hj e => by omega)⟩
theorem add_take (a x : List UInt8) (n : Nat) (ha : a.length ≤ 1000000) (hx : x.length ≤ 1000000) (wx : World) : (Op.stringOp .add ((⟨a.toArray⟩ : ByteArray).extract 0 n) ⟨x.toArray⟩).run Try.prog wx = .ok (str (a.take n ++ x)) wx := by
  rw [ext_take]
  have h1 : ((⟨(a.take n).toArray⟩ : ByteArray).size) ≤ 1000000 := by show (a.take n).toArray.size ≤ _; simp; omega
  have h2 : ((⟨x.toArray⟩ : ByteArray).size) ≤ 1000000 := by show x.toArray.size ≤ _; simp; omega
  rw [run_string_add_sum wx _ _ (by omega)]
  have e : (⟨(a.take n).toArray⟩ : ByteArray) ++ ⟨x.toArray⟩ = ⟨(a.take n ++ x).toArray⟩ := by
    apply ByteArray.ext
    rw [ByteArray.data_append]
    simp
  rw [e]

set_option maxRecDepth 100000 in
set_option maxHeartbeats 8000000 in
theorem entry_s (w : World) (T : Nat) (b : List UInt8) (s : Bk.Rd) (p : Nat) (a : List UInt8) (h : RdS w T b s) (hp : p ≤ 1000000) (ha : a.length ≤ 900000) :
    Calls Try.prog 83 #[rV T, .int .i64 (p : Int), str a] w fun e w' => e = .returned (entV (Bk.rentX p a s)) ∧ RdS w' T b (Bk.rent p a s) ∧ Moved (rdT T) w w' := by
  have E0 : Hid (Ex w ((w.alloc (.cells #[mustV T, numV T, textV T, endV T] 117)).alloc (.cells #[.string ⟨#[]⟩, .string ⟨#[]⟩, .int .i64 0, .bool false] 38)) T b s) := by
    have b0 : Below w.heap.size w ((w.alloc (.cells #[mustV T, numV T, textV T, endV T] 117)).alloc (.cells #[.string ⟨#[]⟩, .string ⟨#[]⟩, .int .i64 0, .bool false] 38)) := ((Below.refl _ _).alloc (Nat.le_refl _) _).alloc (by simp) _
    refine ⟨h.later b0, (Below.heap_alloc _ _ _ (by simp)).trans (World.alloc_heap_new w _), ?_, Moved.below b0, h.lt⟩
    have := World.alloc_heap_new (w.alloc (.cells #[mustV T, numV T, textV T, endV T] 117)) (.cells #[.string ⟨#[]⟩, .string ⟨#[]⟩, .int .i64 0, .bool false] 38)
    rw [World.size_alloc] at this
    exact this
  have hs := Bk.rnumX_le s a.length
  have sh0 : (Bk.rnumX s a.length : Int) ≤ (a.length : Int) := by omega
  clear h
  go_enter Try.func83, Try.ntmps83
  go_wp2_with (first
    | (go_at_call 90; refine (num_s a.length E0.out.rd (by omega)).mono ?_; rintro e w1 ⟨rfl, r1, m1, z1⟩; have E1 : Hid _ := E0.out.step r1 m1; obtain ⟨c0, c1, c2⟩ := E1.out.cells; clear E0 r1 m1))
  have TX : Hid (∀ wx, Ex w wx T b (Bk.rnum s a.length) → Calls Try.prog 92 #[.int .i64 512, pt (T + 5), pt (T + 4), pt T, pt (T + 2), pt (T + 3)] wx fun e w' => e = .returned (str (Bk.rtextX (Bk.rnum s a.length) 512)) ∧ Ex w w' T b (Bk.r2 a s) ∧ Moved (rdT T) wx w' ∧ w'.heap.size = wx.heap.size) := fun wx hx => by
    refine (text_s 512 hx.rd (by decide)).mono ?_
    rintro e w' ⟨rfl, r, m, z⟩
    exact ⟨rfl, hx.step r m, m, z⟩
  have hz1 : w1.heap.size = w.heap.size + 2 := by rw [z1]; simp
  have ZB : Hid (∀ w2, Moved (rdT T) (w1.alloc (.cells #[.string ⟨#[]⟩, .string ⟨#[]⟩, .int .i64 0, .bool false] 38)).drew w2 → w2.heap[w1.heap.size]? = some (eO ⟨[], [], 0, false⟩)) := fun w2 m => by
    have ht := E1.out.top
    refine (m.block w1.heap.size (by simp) (by simp only [rdT]; omega)).trans ?_
    exact World.alloc_heap_new w1 _
  have KP : ∀ wx : World, (Op.stringOp .add ((⟨a.toArray⟩ : ByteArray).extract 0 (Bk.rnumX s a.length)) ⟨(Bk.rtextX (Bk.rnum s a.length) 512).toArray⟩).run Try.prog wx = .ok (str (Bk.keyX a s)) wx := fun wx => add_take a _ _ (by omega) (by have := Bk.rtextX_le (Bk.rnum s a.length) 512; omega) wx
  rw [hz1] at ZB
  go_cut [8] from 14 to 21 (fun z wx => z = .pointer (some ⟨w.heap.size + 2, 0, none⟩) ∧ Ey w wx T b (Bk.r2 a s) ⟨Bk.keyX a s, [], 0, false⟩)
  case first =>
    go_region_with (first
      | (go_at_call 92; refine (TX.out _ (E1.out.later (Below.refl _ _).drew)).mono ?_; rintro e w2 ⟨rfl, e2, m2, z2⟩; obtain ⟨k0, k1, k2⟩ := e2.cells; have hz2 : w2.heap.size = w.heap.size + 2 := z2.trans hz1)
      | (go_at_call 92; refine (TX.out _ (E1.out.later ((Below.refl _ _).alloc (Nat.le_refl _) _).drew)).mono ?_; rintro e w2 ⟨rfl, e2, m2, z2⟩; obtain ⟨k0, k1, k2⟩ := e2.cells; have Z2 := ZB.out _ m2; obtain ⟨y0, y1, y2, y3, v0, v1, v2, v3⟩ := slot4 Z2))
    all_goals
      go_wp2_with (fail)
      go_meet
      case rel => first | exact ⟨rfl, relB _ e2 Z2⟩ | exact ⟨by rw [hz2], relA _ e2 hz2⟩ | exact ⟨rfl, relA _ e2 hz2⟩
  case rest =>
    obtain ⟨rfl, e2⟩ := hcut
    have hK : (Bk.keyX a s).length ≤ 1000000 := by have := Bk.keyX_le a s; omega
    have SH : Hid (∀ wx, Calls Try.prog 80 #[.int .i64 (p : Int), str a, str (Bk.keyX a s)] wx fun e w' => e = .returned (.int .i64 (Bk.shr p a (Bk.keyX a s) : Nat)) ∧ Below wx.heap.size wx w') := fun wx => shared_any wx p _ _ hp (by omega) hK
    have MU : Hid (∀ wx, Ey w wx T b (Bk.r2 a s) ⟨Bk.keyX a s, [], 0, false⟩ → Calls Try.prog 89 #[.bool ((Bk.rnumX s a.length : Int) == (Bk.shr p a (Bk.keyX a s) : Int)), pt (T + 3)] wx fun e w' => e = .returned (.tuple #[]) ∧ Ey w w' T b (Bk.r3 p a s) ⟨Bk.keyX a s, [], 0, false⟩) := fun wx hx => by
      refine (must_s ((Bk.rnumX s a.length : Int) == (Bk.shr p a (Bk.keyX a s) : Int)) hx.rd).mono ?_
      rintro e w' ⟨rfl, r, m, z⟩
      have e3 : Bk.mst (Bk.r2 a s) ((Bk.rnumX s a.length : Int) == (Bk.shr p a (Bk.keyX a s) : Int)) = Bk.r3 p a s := by
        unfold Bk.r3
        congr 1
        by_cases e : Bk.rnumX s a.length = Bk.shr p a (Bk.keyX a s)
        · rw [e]; simp
        · rw [decide_eq_false e]; simp; omega
      rw [e3] at r
      exact ⟨rfl, hx.step r m⟩
    obtain ⟨⟨c0, c1, c2⟩, y0, y1, y2, y3, v0, v1, v2, v3⟩ := e2.cells
    have E2 : Hid _ := e2
    clear e2 TX E1 ZB KP
    go_wp2_with (fail)
    go_region_held3 (fun w' => w'.cell? ⟨w.heap.size, 0, none⟩ = some (mustV T) ∧ w'.cell? ⟨w.heap.size + 2, 0, none⟩ = some (str (Bk.keyX a s)))
      (first | exact ⟨c0, y0⟩ | exact ⟨g0, h0⟩ | exact ⟨p0, q0⟩ | (go_keep; done))
      (first
        | (go_at_call 80; refine (SH.out _).mono ?_; rintro e w3 ⟨rfl, b3⟩; have E3 : Hid _ := E2.out.later ((Below.refl _ _).drew.trans b3); obtain ⟨⟨g0, g1, g2⟩, h0, h1⟩ := E3.out.cells)
        | (go_at_call 89; refine (MU.out _ E3.out).mono ?_; rintro e w4 ⟨rfl, e4⟩; have E4 : Hid _ := e4; obtain ⟨⟨p0, p1, p2⟩, q0, q1⟩ := E4.out.cells))
    clear SH MU E2 E3 c0 c1 c2 y0 y1 y2 y3 v0 v1 v2 v3 g0 g1 g2 h0 h1 p0 p1 p2 q0 q1
    obtain ⟨⟨p0, p1, p2⟩, q0, q1, q2, q3, x0, x1, x2, x3⟩ := E4.out.cells
    have hd1 := Bk.rnumX_le (Bk.r4 p a s) 1
    have N4 : Hid (∀ wx, Ey w wx T b (Bk.r3 p a s) ⟨Bk.keyX a s, [], 0, false⟩ → Calls Try.prog 90 #[.int .i64 1073741824, pt T, pt (T + 2), pt (T + 4), pt (T + 3)] wx fun e w' => e = .returned (.int .i64 (Bk.rnumX (Bk.r3 p a s) 1073741824 : Nat)) ∧ Ey w w' T b (Bk.r4 p a s) ⟨Bk.keyX a s, [], 0, false⟩) := fun wx hx => by
      refine (num_s 1073741824 hx.rd (by decide)).mono ?_
      rintro e w' ⟨rfl, r, m, z⟩
      exact ⟨rfl, hx.step r m⟩
    have N5 : Hid (∀ wx, Ey w wx T b (Bk.r4 p a s) ⟨Bk.keyX a s, [], (Bk.rnumX (Bk.r3 p a s) 1073741824 : Nat), false⟩ → Calls Try.prog 90 #[.int .i64 1, pt T, pt (T + 2), pt (T + 4), pt (T + 3)] wx fun e w' => e = .returned (.int .i64 (Bk.rnumX (Bk.r4 p a s) 1 : Nat)) ∧ Ey w w' T b (Bk.r5 p a s) ⟨Bk.keyX a s, [], (Bk.rnumX (Bk.r3 p a s) 1073741824 : Nat), false⟩) := fun wx hx => by
      refine (num_s 1 hx.rd (by decide)).mono ?_
      rintro e w' ⟨rfl, r, m, z⟩
      exact ⟨rfl, hx.step r m⟩
    have T6 : Hid (∀ wx, Ey w wx T b (Bk.r5 p a s) ⟨Bk.keyX a s, [], (Bk.rnumX (Bk.r3 p a s) 1073741824 : Nat), false⟩ → Calls Try.prog 92 #[.int .i64 4096, pt (T + 5), pt (T + 4), pt T, pt (T + 2), pt (T + 3)] wx fun e w' => e = .returned (str (Bk.rtextX (Bk.r5 p a s) 4096)) ∧ Ey w w' T b (Bk.rtext (Bk.r5 p a s) 4096) ⟨Bk.keyX a s, [], (Bk.rnumX (Bk.r3 p a s) 1073741824 : Nat), false⟩) := fun wx hx => by
      refine (text_s 4096 hx.rd (by decide)).mono ?_
      rintro e w' ⟨rfl, r, m, z⟩
      exact ⟨rfl, hx.step r m⟩
    by_cases hk : Bk.rnumX (Bk.r4 p a s) 1 = 1
    · have HX : Hid (Bk.rentX p a s = ⟨Bk.keyX a s, [], (Bk.rnumX (Bk.r3 p a s) 1073741824 : Nat), true⟩) := by
        show _ = _
        unfold Bk.rentX Bk.delX
        rw [hk]; rfl
      have HR : Hid (Bk.rent p a s = Bk.r5 p a s) := by
        show _ = _
        unfold Bk.rent Bk.delX
        rw [hk]; rfl
      rw [hk] at N5
      have H2 : Hid _ := hk
      clear hk hd1 T6
      generalize Bk.rnumX (Bk.r3 p a s) 1073741824 = SQ at *
      generalize Bk.keyX a s = K at *
      generalize Bk.r3 p a s = S3 at *
      generalize Bk.r4 p a s = S4 at *
      generalize Bk.r5 p a s = S5 at *
      go_wp2_with (first
        | (go_at_call 90; have tok := N4; refine (N4.out _ E4.out).mono ?_; rintro e w5 ⟨rfl, e5⟩; have E5 : Hid _ := (e5.set (e' := ⟨K, [], SQ, false⟩) 2 (.int .i64 (SQ : Int)) rfl); obtain ⟨⟨p0, p1, p2⟩, q0, q1, q2, q3, x0, x1, x2, x3⟩ := e5.cells; obtain ⟨⟨i0, i1, i2⟩, j0, j1, j2, j3, o0, o1, o2, o3⟩ := E5.out.cells; clear N4 tok E4)
        | (go_at_call 90; refine (N5.out _ E5.out).mono ?_; rintro e w6 ⟨rfl, e6⟩; obtain ⟨⟨p0, p1, p2⟩, q0, q1, q2, q3, x0, x1, x2, x3⟩ := e6.cells; have E6 : Hid _ := (e6.set (e' := ⟨K, [], SQ, true⟩) 3 (.bool true) rfl); obtain ⟨⟨i0, i1, i2⟩, j0, j1, j2, j3, o0, o1, o2, o3⟩ := E6.out.cells; obtain ⟨z0, z1', z2, z3, n0, n1, n2, n3⟩ := slot4 E6.out.by'; clear N5 E5))
      obtain ⟨F1, F2, F3⟩ := E6.out.fin
      obtain ⟨z0, z1', z2, z3, _⟩ := slot4 F1
      refine bodyPost_ret (v := entV ⟨K, [], SQ, true⟩) (by simp [results, Try.results83, go_sem, z0, z1', z2, z3]) rfl ?_
      rw [HX.out, HR.out]
      exact ⟨rfl, F2, F3⟩
    · have h0 : Bk.rnumX (Bk.r4 p a s) 1 = 0 := by omega
      have HX : Hid (Bk.rentX p a s = ⟨Bk.keyX a s, Bk.rtextX (Bk.r5 p a s) 4096, (Bk.rnumX (Bk.r3 p a s) 1073741824 : Nat), false⟩) := by
        show _ = _
        unfold Bk.rentX Bk.delX
        rw [h0]; rfl
      have HR : Hid (Bk.rent p a s = Bk.rtext (Bk.r5 p a s) 4096) := by
        show _ = _
        unfold Bk.rent Bk.delX
        rw [h0]; rfl
      rw [h0] at N5
      clear hk h0 hd1
      generalize Bk.rnumX (Bk.r3 p a s) 1073741824 = SQ at *
      generalize Bk.keyX a s = K at *
      generalize Bk.rtextX (Bk.r5 p a s) 4096 = V at *
      generalize Bk.rtext (Bk.r5 p a s) 4096 = S6 at *
      generalize Bk.r3 p a s = S3 at *
      generalize Bk.r4 p a s = S4 at *
      generalize Bk.r5 p a s = S5 at *
      go_wp2_with (first
        | (go_at_call 90; have tok := N4; refine (N4.out _ E4.out).mono ?_; rintro e w5 ⟨rfl, e5⟩; have E5 : Hid _ := (e5.set (e' := ⟨K, [], SQ, false⟩) 2 (.int .i64 (SQ : Int)) rfl); obtain ⟨⟨p0, p1, p2⟩, q0, q1, q2, q3, x0, x1, x2, x3⟩ := e5.cells; obtain ⟨⟨i0, i1, i2⟩, j0, j1, j2, j3, o0, o1, o2, o3⟩ := E5.out.cells; clear N4 tok E4)
        | (go_at_call 90; refine (N5.out _ E5.out).mono ?_; rintro e w6 ⟨rfl, e6⟩; obtain ⟨⟨p0, p1, p2⟩, q0, q1, q2, q3, x0, x1, x2, x3⟩ := e6.cells; have E6 : Hid _ := (e6.set (e' := ⟨K, [], SQ, false⟩) 3 (.bool false) rfl); obtain ⟨⟨i0, i1, i2⟩, j0, j1, j2, j3, o0, o1, o2, o3⟩ := E6.out.cells; clear N5 E5)
        | (go_at_call 92; refine (T6.out _ E6.out).mono ?_; rintro e w7 ⟨rfl, e7⟩; obtain ⟨⟨p0, p1, p2⟩, q0, q1, q2, q3, x0, x1, x2, x3⟩ := e7.cells; have E7 : Hid _ := (e7.set (e' := ⟨K, V, SQ, false⟩) 1 (str V) rfl); obtain ⟨⟨i0, i1, i2⟩, j0, j1, j2, j3, o0, o1, o2, o3⟩ := E7.out.cells; obtain ⟨z0, z1', z2, z3, n0, n1, n2, n3⟩ := slot4 E7.out.by'; clear T6 E6))
      obtain ⟨F1, F2, F3⟩ := E7.out.fin
      obtain ⟨z0, z1', z2, z3, _⟩ := slot4 F1
      refine bodyPost_ret (v := entV ⟨K, V, SQ, false⟩) (by simp [results, Try.results83, go_sem, z0, z1', z2, z3]) rfl ?_
      rw [HX.out, HR.out]
      exact ⟨rfl, F2, F3⟩
end Go.Proofs.Ytbdgdigpnfpnhaa.Q
namespace Go.Proofs.Ytbdgdigpnfpnhaa.Q
open Go.RowKit

theorem infoE : (Try.prog.info? 38).map (fun i => (i.zero, i.size, i.bytes)) = some (some (.agg #[.string ⟨#[]⟩, .string ⟨#[]⟩, .int .i64 0, .bool false]), 4, 48) := by kernel_rfl
theorem ec_new (W : World) (x : Mm.Ent) (B : Nat) (hB : B = W.heap.size) : ∀ j u, (ecs [x])[j]? = some u → (W.alloc (.cells #[str x.key, str x.value, .int .i64 x.seq, .bool x.del] 38)).cell? ((⟨B, 0, none⟩ : Addr).add j) = some u := by
  subst hB
  intro j u hu
  have hadd : (⟨W.heap.size, 0, none⟩ : Addr).add j = ⟨W.heap.size, j, none⟩ := by unfold Addr.add; split <;> simp_all
  rw [hadd]
  refine (Joins.cell_of_block (World.alloc_heap_new W _) j).trans ?_
  have : (ecs [x]) = [str x.key, str x.value, .int .i64 x.seq, .bool x.del] := rfl
  rw [this] at hu
  rw [← hu]
  rcases j with _ | _ | _ | _ | j <;> rfl
theorem own_moved {w w' : World} {base e size n : Nat} {v : Value} {xs : List Value} {S : Nat → Prop} (h : w.ownsRow base e size v n xs) (m : Moved S w w') (hS : ∀ i, S i → i < base) : w'.ownsRow base e size v n xs := by
  refine ⟨h.1, ?_⟩
  rcases h.2 with h0 | ⟨g, cap, cur, rfl, hb, hg, hr⟩
  · exact .inl h0
  · exact .inr ⟨g, cap, cur, rfl, hb, (m.block g (Array.getElem?_eq_some_iff.1 hg).1 (fun hs => by have := hS g hs; omega)).trans hg, hr⟩
theorem own_lift {w : World} {base base' e size n : Nat} {v : Value} {xs : List Value} (h : w.ownsRow base e size v n xs) (hb : base' ≤ base) : w.ownsRow base' e size v n xs := by
  refine ⟨h.1, ?_⟩
  rcases h.2 with h' | ⟨g, cap, cur, e, h1, h2⟩
  · exact .inl h'
  · exact .inr ⟨g, cap, cur, e, Nat.le_trans hb h1, h2⟩
theorem grown_moved {w w' : World} {r : Option Nat} (h : w.grownBy w' r) : Moved (fun i => r = some i) w w' := ⟨h.os, h.tape, h.output, h.size, fun i hi hs => h.block i hi (fun e => hs e.symm)⟩

/-- What the loop of Decode has behind j entries. -/
structure DecB (w wr : World) (b : List UInt8) (G j : Nat) (v : Value) : Prop where
  rd : RdS wr w.heap.size b (Bk.rents (Bk.dFrom b) j 0 [])
  own : wr.ownsRow (G + 1) 38 4 v j (ecs (Bk.rentsX (Bk.dFrom b) j 0 []))
  res : wr.heap[G]? = some (rO w.heap.size)
  bel : Below w.heap.size w wr
  top : w.heap.size + 5 < G
theorem key_small (b : List UInt8) (j : Nat) (hj : j ≤ 64) : (Bk.lastK [] (Bk.rentsX (Bk.dFrom b) j 0 [])).length ≤ 900000 := by
  refine Bk.lastK_le _ 900000 [] (by simp) (fun x hx => ?_)
  have := (Bk.rentsX_len j (Bk.dFrom b) 0 [] 0 (by simp) x hx).1
  omega

set_option maxRecDepth 100000 in
set_option maxHeartbeats 8000000 in
theorem bdecode_any (w : World) (a : Option Addr) (c : Nat) (b : List UInt8) (h : BytesIn w (.slice a b.length c) b) (hcap : b.length ≤ c) (hno : a = none → c = 0) (hlen : b.length ≤ 1000000000) :
    Calls Try.prog 59 #[.slice a b.length c] w fun e w' => ∃ v E, e = .returned (.tuple #[v, .int .i64 E]) ∧ Hid ((Bk.dGood b = true ∧ E = 0 ∧ w'.ownsRow w.heap.size 38 4 v (Bk.dEnts b).length (ecs (Bk.dEnts b))) ∨ (Bk.dGood b = false ∧ E = 5 ∧ v = .slice none 0 0)) ∧ Below w.heap.size w w' := by
  obtain ⟨i0, hi, hz0, hz1, hz2⟩ := info_parts infoE
  have RO := readerOf_any w a c b h hcap hno hlen
  have hm64 : Bk.dMany b ≤ 64 := Bk.rnumX_le _ _
  have NM : Hid (∀ wx, RdC wx w.heap.size a c b 0 false → Calls Try.prog 90 #[.int .i64 64, pt w.heap.size, pt (w.heap.size + 2), pt (w.heap.size + 4), pt (w.heap.size + 3)] wx fun e w' => e = .returned (.int .i64 (Bk.dMany b : Nat)) ∧ RdS w' w.heap.size b (Bk.dFrom b) ∧ Moved (rdT w.heap.size) wx w' ∧ w'.heap.size = wx.heap.size) := fun wx hx => num_s (s := ⟨b, false⟩) 64 ⟨a, c, 0, hx, rfl⟩ (by decide)
  clear h hcap hno hlen
  go_enter Try.func59, Try.ntmps59
  go_wp2_with (first
    | (go_at_call 82; refine RO.mono ?_; rintro e w1 ⟨rfl, r1, b1⟩; have W1 : Hid _ := World.alloc_heap_new w1 (rO w.heap.size); clear RO)
    | (go_at_call 90; refine (NM.out _ (r1.later ((Below.refl _ _).alloc (Nat.le_refl _) _))).mono ?_; rintro e w2 ⟨rfl, r2, m2, z2⟩; clear NM))
  have ht := r1.lt
  have D2 : DecB w w2 b w1.heap.size 0 (.slice none 0 0) := by
    refine ⟨r2, World.ownsRow_nil _ _ _ _, (m2.block _ (by simp) (by simp only [rdT]; omega)).trans W1.out, (b1.alloc b1.size _).trans (m2.under (by have := b1.size; simp; omega) (fun i hi => by simp only [rdT] at hi; omega)), ht⟩
  obtain ⟨G, hG⟩ : ∃ G, G = w1.heap.size := ⟨_, rfl⟩
  rw [← hG] at D2 ⊢
  have GL : w.heap.size + 5 < G := by omega
  clear r1 r2 m2 z2 b1 W1 ht hG
  generalize hm : Bk.dMany b = m at hm64
  have HM : Hid (Bk.dMany b = m) := hm
  clear hm
  go_loopw [5, 6, 15] (fun v t i wr => ∃ j : Nat, j ≤ m ∧ i = .int .i64 j ∧ t = str (Bk.lastK [] (Bk.rentsX (Bk.dFrom b) j 0 [])) ∧ DecB w wr b G j v) (fun _ _ i _ => m - (intOf i).toNat)
  case atStart => exact ⟨0, Nat.zero_le _, rfl, rfl, D2⟩
  case round =>
    obtain ⟨j, hj, rfl, rfl, D⟩ := hrel
    clear D2
    by_cases hlt : j < m
    · have EN := entry_s wr w.heap.size b _ j (Bk.lastK [] (Bk.rentsX (Bk.dFrom b) j 0 [])) D.rd (by omega) (key_small b j (by omega))
      obtain ⟨q1, q2⟩ := Bk.rents_more j (Bk.dFrom b) 0 []
      rw [Nat.zero_add] at q1 q2
      have HX : Hid (ecs (Bk.rentsX (Bk.dFrom b) (j + 1) 0 []) = ecs (Bk.rentsX (Bk.dFrom b) j 0 []) ++ ecs [Bk.rentX j (Bk.lastK [] (Bk.rentsX (Bk.dFrom b) j 0 [])) (Bk.rents (Bk.dFrom b) j 0 [])]) := by show _ = _; rw [q1, ecs_append]
      have HK : Hid (Bk.lastK [] (Bk.rentsX (Bk.dFrom b) (j + 1) 0 []) = (Bk.rentX j (Bk.lastK [] (Bk.rentsX (Bk.dFrom b) j 0 [])) (Bk.rents (Bk.dFrom b) j 0 [])).key) := by show _ = _; rw [q1, Bk.lastK_snoc]
      have HR : Hid _ := q2
      rw [← q2] at EN
      generalize Bk.rentX j (Bk.lastK [] (Bk.rentsX (Bk.dFrom b) j 0 [])) (Bk.rents (Bk.dFrom b) j 0 []) = x at *
      have CN : Hid (∀ W : World, ∀ B, B = W.heap.size → ∀ i u, (ecs [x])[i]? = some u → (W.alloc (.cells #[str x.key, str x.value, .int .i64 x.seq, .bool x.del] 38)).cell? ((⟨B, 0, none⟩ : Addr).add i) = some u) := fun W B hB => ec_new W x B hB
      obtain ⟨d1, d2, d3, d4, d5⟩ := D
      have gs : G < wr.heap.size := (Array.getElem?_eq_some_iff.1 d3).1
      obtain ⟨c0, c1, c2, c3⟩ : wr.cell? ⟨G, 0, none⟩ = some (mustV w.heap.size) ∧ wr.cell? ⟨G, 1, none⟩ = some (numV w.heap.size) ∧ wr.cell? ⟨G, 2, none⟩ = some (textV w.heap.size) ∧ wr.cell? ⟨G, 3, none⟩ = some (endV w.heap.size) := ⟨Joins.cell_of_block d3 0, Joins.cell_of_block d3 1, Joins.cell_of_block d3 2, Joins.cell_of_block d3 3⟩
      have HD2 := hide d2
      have HD3 : Hid (wr.heap[G]? = some (rO w.heap.size)) := d3
      have HL : Hid ((ecs [x]).length = 1 * 4) := rfl
      have HO : Hid (∀ u ∈ ecs [x], u.oneCell' = true) := ecs_one [x]
      have Z1 : Hid (j + 1 ≤ maxLen) := by show _ ≤ _; unfold maxLen; omega
      have Z2 : Hid ((j + 1) * 48 ≤ 140737488355328) := by show _ ≤ _; omega
      obtain ⟨K, V, Q, Dl⟩ := x
      simp only at EN CN HK
      clear d1 d2 d3 HM q1 q2
      go_wp2_with (first
        | (go_at_call 83; refine EN.mono ?_; rintro e w3 ⟨rfl, r3, m3⟩; have s3 := m3.size; have o3 := hide (own_moved HD2.out m3 (fun i hi => by simp only [rdT] at hi; omega)); clear EN)
        | (at_builtin; refine wpList_append_lies _ rfl _ _ 23 rfl (G + 1) 38 i0 _ 4 48 Try.underlying23 hi hz0 hz1 hz2 rfl (by decide) _ j _ rfl ((o3.out.alloc _).alloc _) ⟨w3.heap.size + 1, 0, none⟩ 1 1 (ecs [⟨K, V, Q, Dl⟩]) rfl HL.out (CN.out _ _ (by simp)) HO.out (by decide) Z1.out Z2.out (by simp; omega) _ rfl ?_; intro g4 cap4 w4 o4 h4 l4 lt4; have kx : w4.cell? ⟨w3.heap.size, 0, none⟩ = some (str K) := h4.cell (keepC ((Below.refl _ _).alloc (Nat.le_refl _) _) (Joins.cell_of_block (World.alloc_heap_new w3 _) 0)) (fun e => absurd (o3.out.lt _ e.symm).2 (Nat.lt_irrefl _))))
      have a2 : Below w3.heap.size w3 ((w3.alloc (.cells #[str K, str V, .int .i64 Q, .bool Dl] 38)).alloc (.cells #[str K, str V, .int .i64 Q, .bool Dl] 38)) := ((Below.refl _ _).alloc (Nat.le_refl _) _).alloc (by simp) _
      have m4 := grown_moved h4
      have hq : ∀ i, _ = some i → G < i := fun i hi => by have := (o3.out.lt i hi).1; omega
      have R4 : RdS w4 w.heap.size b (Bk.rents (Bk.dFrom b) (j + 1) 0 []) := (r3.later a2).same m4 (fun i hi => by have := hq i hi; omega)
      have P4 : w4.heap[G]? = some (rO w.heap.size) := by
        have p3 : w3.heap[G]? = some (rO w.heap.size) := (m3.block G gs (by simp only [rdT]; omega)).trans HD3.out
        refine (m4.block G (Nat.lt_of_lt_of_le (show G < w3.heap.size by omega) a2.size) (fun e => by have := hq G e; omega)).trans (keepB a2 p3)
      have B4 : Below w.heap.size w w4 := (d4.trans ((m3.under d4.size (fun i hi => by simp only [rdT] at hi; omega)).trans (a2.mono (Nat.le_trans d4.size s3)))).trans (m4.under (Nat.le_trans (Nat.le_trans d4.size s3) a2.size) (fun i hi => by have := hq i hi; omega))
      rw [← HX.out] at o4
      exact ⟨⟨j + 1, by omega, by go_num, by rw [HK.out], ⟨R4, o4, P4, B4, d5⟩⟩, by simp [intOf]; omega⟩
    · have e : j = m := by omega
      subst e
      have i3 : ¬ (j : Int) < (j : Int) := by omega
      have hw : Bk.dEnts b = Bk.rentsX (Bk.dFrom b) j 0 [] := by unfold Bk.dEnts; rw [HM.out]
      have hl : Bk.dLast b = Bk.rents (Bk.dFrom b) j 0 [] := by unfold Bk.dLast; rw [HM.out]
      have hwl : (Bk.dEnts b).length = j := by rw [hw, Bk.rentsX_length]
      obtain ⟨d1, d2, d3, d4, d5⟩ := D
      rw [← hw] at d2
      rw [← hl] at d1
      have hsm : ∀ x ∈ Bk.dEnts b, x.key.length ≤ 1000000 ∧ x.value.length ≤ 1000000 := by
        rw [hw]
        intro x hx
        have := Bk.rentsX_len j (Bk.dFrom b) 0 [] 0 (by simp) x hx
        omega
      have d2' := d2
      rw [← hwl] at d2'
      have EA := EntsAt.own d2'
      have sh := row_shape d2
      obtain ⟨va, vc, rfl⟩ := sh
      clear d2'
      have CK : Hid (∀ wx, Below wr.heap.size wr wx → Calls Try.prog 78 #[.slice va j vc] wx fun e w' => e = .returned (.int .i64 (Bk.checkE (Bk.dEnts b))) ∧ Below wx.heap.size wx w') := fun wx hx => bcheck_any wx va vc j (Bk.dEnts b) (EA.later hx) hwl.symm (by omega) hsm _ rfl
      have gs : G < wr.heap.size := (Array.getElem?_eq_some_iff.1 d3).1
      have DG : Hid (Bk.dGood b = !(Bk.dEnd b).bad) := rfl
      have DE : Hid (Bk.dEnd b = Bk.mst (Bk.mst (Bk.dLast b) (Bk.checkE (Bk.dEnts b) == 0)) (decide ((Bk.mst (Bk.dLast b) (Bk.checkE (Bk.dEnts b) == 0)).rest = []))) := by
        show _ = _
        unfold Bk.dEnd
        congr 2
      have MU : Hid (∀ wx, RdS wx w.heap.size b (Bk.dLast b) → Calls Try.prog 89 #[.bool (Bk.checkE (Bk.dEnts b) == 0), pt (w.heap.size + 3)] wx fun e w' => e = .returned (.tuple #[]) ∧ RdS w' w.heap.size b (Bk.mst (Bk.dLast b) (Bk.checkE (Bk.dEnts b) == 0)) ∧ Moved (rdT w.heap.size) wx w' ∧ w'.heap.size = wx.heap.size) := fun wx hx => must_s _ hx
      have EN : Hid (∀ wx, RdS wx w.heap.size b (Bk.mst (Bk.dLast b) (Bk.checkE (Bk.dEnts b) == 0)) → Calls Try.prog 93 #[pt (w.heap.size + 4), pt (w.heap.size + 2), pt w.heap.size, pt (w.heap.size + 3)] wx fun e w' => e = .returned (errV (Bk.dEnd b).bad) ∧ Moved (rdT w.heap.size) wx w' ∧ w'.heap.size = wx.heap.size) := fun wx hx => by
        rw [DE.out]
        exact end_s hx
      have HD2 := hide d2
      have HD3 : Hid (wr.heap[G]? = some (rO w.heap.size)) := d3
      have HD1 := hide d1
      have c0 : wr.cell? ⟨G, 0, none⟩ = some (mustV w.heap.size) := Joins.cell_of_block d3 0
      have HWL := hide hwl
      clear hw hl hwl d1 d2 d3 hsm EA HM hlt hj DE
      generalize Bk.checkE (Bk.dEnts b) = E at CK MU EN
      generalize Bk.mst (Bk.dLast b) (E == 0) = S1 at MU EN
      generalize (Bk.dEnd b).bad = B at DG EN
      go_wp2_with (fail)
      go_region_held3 (fun w' => w'.cell? ⟨G, 0, none⟩ = some (mustV w.heap.size))
        (first | exact c0 | exact k0 | exact k1 | (go_keep; done))
        (first
          | (go_at_call 78; refine (CK.out _ (Below.refl _ _).drew).mono ?_; rintro e w5 ⟨rfl, b5⟩; have B5 : Below wr.heap.size wr w5 := (Below.refl _ _).drew.trans b5; have p5 := keepB B5 HD3.out; have k0 : w5.cell? ⟨G, 0, none⟩ = some (mustV w.heap.size) := Joins.cell_of_block p5 0)
          | (go_at_call 89; refine (MU.out _ (HD1.out.later B5)).mono ?_; rintro e w6 ⟨rfl, r6, m6, z6⟩; have p6 : w6.heap[G]? = some (rO w.heap.size) := (m6.block G (Nat.lt_of_lt_of_le gs B5.size) (by simp only [rdT]; omega)).trans p5; have k1 : w6.cell? ⟨G, 0, none⟩ = some (mustV w.heap.size) := Joins.cell_of_block p6 0))
      have k3 : w6.cell? ⟨G, 3, none⟩ = some (endV w.heap.size) := Joins.cell_of_block p6 3
      have o6 := own_moved (own_after HD2.out B5) m6 (fun i hi => by simp only [rdT] at hi; omega)
      have B6 : Below w.heap.size w w6 := (d4.trans (B5.mono d4.size)).trans (m6.under (Nat.le_trans d4.size B5.size) (fun i hi => by simp only [rdT] at hi; omega))
      have O6 := hide o6
      clear CK MU HD1 HD2 HD3 c0 k0 k1 p5 p6 b5 B5 o6 m6
      cases B with
      | true =>
        go_wp2_with (first
          | (go_at_call 93; refine (EN.out _ r6).mono ?_; rintro e w7 ⟨rfl, m7, z7⟩; clear EN))
        go_ret2
        exact ⟨_, _, rfl, .inr ⟨DG.out, rfl, rfl⟩, B6.trans (m7.under B6.size (fun i hi => by simp only [rdT] at hi; omega))⟩
      | false =>
        go_wp2_with (first
          | (go_at_call 93; refine (EN.out _ r6).mono ?_; rintro e w7 ⟨rfl, m7, z7⟩; clear EN))
        go_ret2
        refine ⟨_, _, rfl, .inl ⟨DG.out, rfl, ?_⟩, B6.trans (m7.under B6.size (fun i hi => by simp only [rdT] at hi; omega))⟩
        rw [HWL.out]
        exact own_lift (own_moved O6.out m7 (fun i hi => by simp only [rdT] at hi; omega)) (by omega)
end Go.Proofs.Ytbdgdigpnfpnhaa.Q
