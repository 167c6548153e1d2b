/-
  Bytes are written behind a file's end, piece by piece. .. and what follows from it.
-/
import Derived.Test.YtlhnjloimhcpfabGreatDoorVD
import Derived.Test.YtlhnjloimhcpfabGreatDoorVChunk
import Derived.Test.YtlhnjloimhcpfabGreatDoorCA
namespace Go.Proofs.YtlhnjloimhcpfabGreatDoor
open Go.RowKit Go.Maps Go.Sort Go.Shelf

namespace Vf
theorem cut_get : ∀ (n : Nat) (b : Bs) (k : Nat), k < n → (cut b n)[k]? = some ((b.drop (k * 64)).take 64)
  | 0, _, k, h => by omega
  | n + 1, b, 0, _ => by show (b.take 64 :: _)[0]? = _; simp
  | n + 1, b, k + 1, h => by
    show (b.take 64 :: cut (b.drop 64) n)[k + 1]? = _
    rw [List.getElem?_cons_succ, cut_get n (b.drop 64) k (by omega), List.drop_drop]
    congr 3
    omega
theorem pieces_drop (b : Bs) (k : Nat) (h : k < (b.length + 63) / 64) : (pieces b).drop k = (b.drop (k * 64)).take 64 :: (pieces b).drop (k + 1) := by
  have hl : k < (pieces b).length := by rw [pieces_length]; exact h
  have e := cut_get ((b.length + 63) / 64) b k h
  rw [List.drop_eq_getElem_cons hl]
  congr 1
  apply Option.some.inj
  rw [← e, ← List.getElem?_eq_getElem hl]
  rfl
theorem piece_length (b : Bs) (k : Nat) : ((b.drop (k * 64)).take 64).length = min 64 (b.length - k * 64) := by rw [List.length_take, List.length_drop]
end Vf

/-- Nothing below n0 has turned but blocks of S. -/
structure Turned (S : Nat → Prop) (n0 : Nat) (A B : World) : Prop where
  os : B.os = A.os
  tape : B.tape = A.tape
  output : B.output = A.output
  size : A.heap.size ≤ B.heap.size
  block : ∀ i, i < n0 → ¬ S i → B.heap[i]? = A.heap[i]?
theorem Turned.refl (S : Nat → Prop) (n0 : Nat) (A : World) : Turned S n0 A A := ⟨rfl, rfl, rfl, Nat.le_refl _, fun _ _ _ => rfl⟩
theorem Turned.trans {S : Nat → Prop} {n0 : Nat} {A B C : World} (h : Turned S n0 A B) (k : Turned S n0 B C) : Turned S n0 A C := ⟨k.os.trans h.os, k.tape.trans h.tape, k.output.trans h.output, Nat.le_trans h.size k.size, fun i hi hs => (k.block i hi hs).trans (h.block i hi hs)⟩
theorem Turned.put (S : Nat → Prop) {n0 D : Nat} (hD : n0 ≤ D) (A : World) (o : Obj) : Turned S n0 A (A.putObj D o) := ⟨rfl, rfl, rfl, by simp [World.putObj], fun i hi _ => World.putObj_heap_other (by omega)⟩
theorem Turned.grown {S : Nat → Prop} {n0 : Nat} {A B : World} (hn : n0 ≤ A.heap.size) (h : A.grownBy B none) : Turned S n0 A B := ⟨h.os, h.tape, h.output, h.size, fun i hi _ => h.block i (by omega) (by simp)⟩
theorem Turned.cell {S : Nat → Prop} {n0 : Nat} {A B : World} (h : Turned S n0 A B) {p : Addr} (hp : p.block < n0) (hs : ¬ S p.block) : B.cell? p = A.cell? p := World.cell?_of_block (h.block p.block hp hs)

theorem boxedL {w w' : World} {B : Nat} {t : TypeId} {v : Value} (h : Boxed w B t v) (hb : Below w.heap.size w w') : Boxed w' B t v := (hb.block B h.lt).trans h

/-- S, and the blocks that came behind the loop's own two. -/
def since (S : Nat → Prop) (n0 : Nat) (A : World) : Nat → Prop := fun i => S i ∨ (n0 + 2 ≤ i ∧ i < A.heap.size)

theorem leaves_one {A : World} {D n : Nat} {fn : Func} {tmps : Array Value} {v : Value} {R : Ending → World → Prop} (h1 : A.heap[D]? = some (.deferred (some []))) (hr : (results fn tmps).run Tryz.prog (A.putObj D (.deferred none)) = .ok v (A.putObj D (.deferred none))) (hR : R (.returned v) (A.putObj D (.deferred none))) :
    bodyPostM Fence.wide n Tryz.prog fn R .ret { tmps := tmps, defers := [{ target := .collected D, args := #[] }] } A :=
  ⟨by simp, .inl ⟨_, _, rfl, run_takeDeferred h1, v, hr, hR⟩⟩

/-- What a round leaves, told in the loop's words. -/
theorem round_left {S : Nat → Prop} {n0 b : Nat} {A B : World} {τ : Vf.St} (hlow : ∀ i, S i → i < n0) (hA : n0 + 1 < A.heap.size) (hr : Rep B b τ (grow (since S n0 A) A B)) (hm : Moved (since S n0 A) A B) :
    Rep B b τ (since S n0 B) ∧ Turned S n0 A B ∧ B.heap[n0]? = A.heap[n0]? ∧ B.heap[n0 + 1]? = A.heap[n0 + 1]? := by
  have hz := hm.size
  refine ⟨hr.wide (fun i hi => ?_) (fun i hi => ?_), ⟨hm.os, hm.tape, hm.output, hm.size, fun i hi hs => hm.block i (by omega) (fun h => ?_)⟩, hm.block _ (by omega) (fun h => ?_), hm.block _ hA (fun h => ?_)⟩
  · rcases hi with (hi | hi) | hi
    · exact .inl hi
    · exact .inr ⟨hi.1, by omega⟩
    · exact .inr ⟨by omega, hi.2⟩
  · rcases hi with hi | hi
    · have := hlow i hi; omega
    · exact hi.2
  · rcases h with h | h
    · exact hs h
    · omega
  · rcases h with h | h
    · have := hlow _ h; omega
    · omega
  · rcases h with h | h
    · have := hlow _ h; omega
    · omega

theorem Rep.sinceGrown {S : Nat → Prop} {n0 b : Nat} {A B : World} {τ : Vf.St} (h : Rep A b τ (since S n0 A)) (hg : A.grownBy B none) : Rep B b τ (since S n0 B) :=
  (h.same (fun i hi => hg.block i (h.low i hi) (by simp)) hg.size).wide (fun i hi => by
    rcases hi with hi | hi
    · exact .inl hi
    · exact .inr ⟨hi.1, Nat.lt_of_lt_of_le hi.2 hg.size⟩) (fun i hi => by
    rcases hi with hi | hi
    · exact Nat.lt_of_lt_of_le (h.low i (.inl hi)) hg.size
    · exact hi.2)
theorem size_put (A : World) (D : Nat) (o : Obj) : (A.putObj D o).heap.size = A.heap.size := by simp [World.putObj]
theorem Rep.sincePut {S : Nat → Prop} {n0 b : Nat} {A : World} {τ : Vf.St} (hlow : ∀ i, S i → i < n0) {D : Nat} (hD : n0 ≤ D ∧ D < n0 + 2) (h : Rep A b τ (since S n0 A)) (o : Obj) : Rep (A.putObj D o) b τ (since S n0 (A.putObj D o)) := by
  have e : since S n0 (A.putObj D o) = since S n0 A := by unfold since; rw [size_put]
  rw [e]
  refine h.same (fun i hi => World.putObj_heap_other (fun e => ?_)) (by rw [size_put]; exact Nat.le_refl _)
  rcases hi with hi | hi
  · have := hlow i hi; omega
  · omega
theorem Boxed.put {A : World} {B : Nat} {t : TypeId} {v : Value} (h : Boxed A B t v) {D : Nat} (hne : B ≠ D) (o : Obj) : Boxed (A.putObj D o) B t v := (World.putObj_heap_other hne).trans h
theorem Moved.put {S : Nat → Prop} {w A : World} (h : Moved S w A) {D : Nat} (hD : w.heap.size ≤ D) (o : Obj) : Moved S w (A.putObj D o) := ⟨h.os, h.tape, h.output, by rw [size_put]; exact h.size, fun i hi hs => (World.putObj_heap_other (by omega)).trans (h.block i hi hs)⟩
theorem Moved.turned {S : Nat → Prop} {n0 : Nat} {w W A : World} (hb : Below w.heap.size w W) (hn : w.heap.size ≤ n0) (h : Turned S n0 W A) : Moved S w A := ⟨h.os.trans hb.os, h.tape.trans hb.tape, h.output.trans hb.output, Nat.le_trans hb.size h.size, fun i hi hs => (h.block i (by omega) hs).trans (hb.block i hi)⟩
theorem Rep.sinceSet {S : Nat → Prop} {n0 b B : Nat} {A : World} {τ : Vf.St} (hB : B < n0) (hS : ¬ S B) (h : Rep A b τ (since S n0 A)) (u : Value) : Rep (A.setCell ⟨B, 0, none⟩ u) b τ (since S n0 (A.setCell ⟨B, 0, none⟩ u)) := by
  have ez : (A.setCell ⟨B, 0, none⟩ u).heap.size = A.heap.size := by simp [World.setCell]
  have e : since S n0 (A.setCell ⟨B, 0, none⟩ u) = since S n0 A := by unfold since; rw [ez]
  rw [e]
  refine h.same (fun i hi => Below.heap_setCell A ⟨B, 0, none⟩ u i (fun e => ?_)) (by rw [ez]; exact Nat.le_refl _)
  have e' : i = B := e
  rcases hi with hi | hi
  · exact hS (by rw [← e']; exact hi)
  · omega
/-- All is done: the loop's own block is shut. -/
theorem Rep.shut {S : Nat → Prop} {n0 b : Nat} {w A : World} {τ : Vf.St} (hlow : ∀ i, S i → i < n0) (hn : w.heap.size ≤ n0) (h : Rep A b τ (since S n0 A)) (hm : Moved S w A) : Rep (A.putObj n0 (.deferred none)) b τ (grow S w (A.putObj n0 (.deferred none))) ∧ Moved S w (A.putObj n0 (.deferred none)) :=
  ⟨(Rep.sincePut hlow (D := n0) ⟨Nat.le_refl _, by omega⟩ h _).wide (fun i hi => by
    rcases hi with hi | hi
    · exact .inl hi
    · exact .inr ⟨by omega, hi.2⟩) (fun i hi => by
    rcases hi with hi | hi
    · rw [size_put]; exact h.low i (.inl hi)
    · exact hi.2), hm.put hn _⟩

attribute [local go_sem] Oper.semAt_some

set_option maxHeartbeats 2000000 in
theorem append_pour (w : World) (b : Nat) (σ : Vf.St) (S : Nat → Prop) (h : Rep w b σ S) (i : Vf.Inv σ) (k : Vf.Bs) (hk : k.length ≤ 1000000) (bb off c : Nat) (l : Vf.Bs) (hs : σ.steps + l.length ≤ 90000000) (hl : 0 < l.length)
    (hc : l.length ≤ c) (hb : ∀ j (hj : j < l.length), w.cell? ⟨bb, off + j, none⟩ = some (.int .u8 ((l[j]).toNat : Int))) (hbS : ¬ S bb) (hbl : bb < w.heap.size) (f0 : Vf.findE σ k = 0) (hle : ¬ (l.length : Int) > Vf.left σ) :
    Calls Tryz.prog 61 #[.pointer (some ⟨b, 0, none⟩), str k, .slice (some ⟨bb, off, none⟩) l.length c] w fun e w' => e = .returned (.int .i64 (Vf.pourE σ (Vf.num σ.held k) (Vf.pieces l))) ∧ Rep w' b (Vf.pour σ (Vf.num σ.held k) (Vf.pieces l)) (grow S w w') ∧ Moved S w w' := by
  obtain ⟨n, hn⟩ : ∃ n, n = Vf.num σ.held k := ⟨_, rfl⟩
  rw [← hn]
  have FD : Hid (∀ wx, Below w.heap.size w wx → Calls Tryz.prog 23 #[.pointer (some ⟨b, 0, none⟩), str k] wx fun e w' => e = .returned (.tuple #[.int .i64 (n : Int), .int .i64 0]) ∧ w' = wx.alloc (.cells #[str k] 9)) := fun wx hw => by
    obtain ⟨bf, bh, bd, pv, fs, sl, hr⟩ := h.later hw
    exact find_some wx b bf bh bd pv fs sl σ S hr k hk 0 f0.symm n (by show _ = _; rw [if_pos f0, hn])
  obtain ⟨E, hE⟩ : ∃ E, E = Vf.left σ := ⟨_, rfl⟩
  have RDY := ready i (by omega)
  have LF : Hid (∀ wx, Below w.heap.size w wx → Calls Tryz.prog 32 #[.pointer (some ⟨b, 0, none⟩)] wx fun e w' => e = .returned (.int .i64 E) ∧ Below wx.heap.size wx w') := fun wx hw => left_any wx b σ S (h.later hw) RDY.used i.room E hE
  have hle' : ¬ (l.length : Int) > E := by rw [hE]; exact hle
  have CH := chunk_any
  refine (callsIn_wide (n := 5)).1 ?_
  refine callsIn_of_wp_marks Tryz.func61 rfl trivial ?_ rfl
  simp only [Tryz.ntmps61, List.size_toArray, List.length_cons, List.length_nil, Nat.reduceAdd, Nat.reduceSub, Array.replicate_succ, Array.replicate_zero, List.push_toArray, List.append_toArray, List.nil_append, List.cons_append]
  rw [wpIn_wide]
  obtain ⟨L, hL⟩ : ∃ L, L = l.length := ⟨_, rfl⟩
  rw [← hL] at hle' ⊢
  have HL : Hid (L = l.length) := hL
  have HH : Hid _ := h
  have HI : Hid _ := i
  have HS : Hid _ := hs
  have HC : Hid _ := hc
  have HB : Hid _ := hb
  have HN : Hid _ := hn
  have HLK : Hid (Vf.look σ.held k = some n) := by show _ = _; rw [hn]; exact Vf.num_some (Vf.find_zero' f0).2.2
  have lL : L ≤ 90000000 := by omega
  clear hL h i hs hc hb hn hE RDY hle f0 hl
  have B0 : Below w.heap.size w ((w.alloc (.cells #[.pointer (some ⟨b, 0, none⟩)] 25)).alloc (.cells #[.int .i64 0] 26)) := ((Below.refl _ _).alloc (Nat.le_refl _) _).alloc (by simp) _
  go_wp2_with (first
    | (go_at_call 23; refine still2 (FD.out _ B0) ?_)
    | (go_at_call 32; refine (LF.out _ (by first | exact (B0.alloc B0.size _).alloc (by have := B0.size; simp; omega) _ | exact B0.alloc B0.size _)).mono ?_; rintro e w2 ⟨rfl, b2⟩)
    | (go_at_call 95; refine still2 (CH _ _ _ _) ?_))
  have b2' : Below w.heap.size w w2 := by
    have h0 := (B0.alloc B0.size (.cells #[str k] 9)).alloc (by have := B0.size; simp; omega) (.cells #[.int .i64 (n : Int)] 3)
    exact h0.trans (b2.mono h0.size)
  have XF : Boxed w2 w.heap.size 25 (.pointer (some ⟨b, 0, none⟩)) := boxedL (boxedL (Boxed.new w _ _) (((((Below.refl _ _).alloc (Nat.le_refl _) _).alloc (by simp) _).alloc (by simp) _))) b2
  have XR : Boxed w2 (w.heap.size + 1) 26 (.int .i64 0) := by
    have h0 := boxedL (boxedL (Boxed.new (w.alloc (.cells #[.pointer (some ⟨b, 0, none⟩)] 25)) 26 (.int .i64 0)) (((Below.refl _ _).alloc (Nat.le_refl _) _).alloc (by simp) _)) b2
    rw [World.size_alloc] at h0
    exact h0
  have XN : Boxed w2 (w.heap.size + 1 + 1 + 1) 3 (.int .i64 (n : Int)) := by
    have h0 := boxedL (Boxed.new (((w.alloc (.cells #[.pointer (some ⟨b, 0, none⟩)] 25)).alloc (.cells #[.int .i64 0] 26)).alloc (.cells #[str k] 9)) 3 (.int .i64 (n : Int))) b2
    rw [World.size_alloc, World.size_alloc, World.size_alloc] at h0
    exact h0
  obtain ⟨W, hW⟩ : ∃ W, W = (w2.alloc (.cells #[.slice (some ⟨bb, off, none⟩) L c] 33)).alloc (.cells #[.int .i64 64] 3) := ⟨_, rfl⟩
  have bW : Below w2.heap.size w2 W := by rw [hW]; exact ((Below.refl _ _).alloc (Nat.le_refl _) _).alloc (by simp) _
  have XC : Boxed W w2.heap.size 33 (.slice (some ⟨bb, off, none⟩) L c) := by rw [hW]; exact (Boxed.new w2 _ _).alloc _
  have XQ : Boxed W (w2.heap.size + 1) 3 (.int .i64 64) := by
    have h0 := Boxed.new (w2.alloc (.cells #[.slice (some ⟨bb, off, none⟩) L c] 33)) 3 (.int .i64 64)
    rw [World.size_alloc] at h0
    rw [hW]; exact h0
  have XF2 := boxedL XF bW
  have XR2 := boxedL XR bW
  have XN2 := boxedL XN bW
  have BW : Below w.heap.size w W := b2'.trans (bW.mono b2'.size)
  have RR : Rep w b σ S := HH.out
  have RW := RR.later BW
  have zW : W.heap.size = w2.heap.size + 2 := by rw [hW]; simp
  have z2 : w.heap.size + 4 ≤ w2.heap.size := by have := b2.size; simp at this; omega
  have LOW := RR.low
  rw [← hW]
  clear hW XF XR XN FD LF CH b2 b2' bW B0
  rw [← wpIn_wide (n := 5)]
  have HK := chunk_hands (5 - 1) w2.heap.size (w2.heap.size + 1) W bb off L c (Turned S W.heap.size) (fun h k => h.trans k) (fun A => ⟨rfl, rfl, rfl, Nat.le_refl _, fun _ _ _ => rfl⟩)
    (fun A hA => (hA.cell (p := ⟨w2.heap.size, 0, none⟩) XC.lt (fun h => by have h' : w2.heap.size < w.heap.size := LOW _ h; omega)).trans XC.cell) (fun A hA => (hA.cell (p := ⟨w2.heap.size + 1, 0, none⟩) XQ.lt (fun h => by have h' : w2.heap.size + 1 < w.heap.size := LOW _ h; omega)).trans XQ.cell) (by rw [HL.out]; exact HC.out) (by omega)
  refine wpIn_handsK rfl (by decide) (gf := 127) (lb := #[.pointer (some ⟨w2.heap.size, 0, none⟩), .pointer (some ⟨w2.heap.size + 1, 0, none⟩)]) rfl trivial (enters_of Tryz.func127 (by kernel_rfl) rfl) HK (Turned.refl _ _ _) (fun h k => h.trans k) (fun A o hA => Turned.grown hA (World.grownBy_alloc A o none)) (fun A o => Turned.put S (Nat.le_succ _) A o) (fun _ => rfl)
    (fun j A => ∃ τ, Rep A b τ (since S W.heap.size A) ∧ Vf.Inv τ ∧ τ.steps ≤ σ.steps + j ∧ Vf.look τ.held k = some n ∧ Vf.pour σ n (Vf.pieces l) = Vf.pour τ n ((Vf.pieces l).drop j) ∧ Vf.pourE σ n (Vf.pieces l) = Vf.pourE τ n ((Vf.pieces l).drop j) ∧ Turned S W.heap.size W A)
    (fun co _ A => co = .ret ∧ Rep A b (Vf.pour σ n (Vf.pieces l)) (since S W.heap.size A) ∧ Boxed A (w.heap.size + 1) 26 (.int .i64 7) ∧ Vf.pourE σ n (Vf.pieces l) = 7 ∧ Moved S w A) (fun j A B h hg => by
      obtain ⟨τ, hr, hi, hst, hlk, hp, hpe, ht⟩ := h
      exact ⟨τ, hr.sinceGrown hg, hi, hst, hlk, hp, hpe, ht.trans (Turned.grown ht.size hg)⟩) (fun co _ A B h hg => by
      obtain ⟨rfl, hr, hb, he, hm⟩ := h
      exact ⟨rfl, hr.sinceGrown hg, hb.kept hg (by simp), he, hm.grown hg (fun _ e => by cases e)⟩) (fun j A o h => by
      obtain ⟨τ, hr, hi, hst, hlk, hp, hpe, ht⟩ := h
      exact ⟨τ, Rep.sincePut (fun i hi => by have := LOW i hi; omega) ⟨by omega, by omega⟩ hr o, hi, hst, hlk, hp, hpe, ht.trans (Turned.put S (Nat.le_succ _) A o)⟩) (fun co _ A o h => by
      obtain ⟨rfl, hr, hb, he, hm⟩ := h
      exact ⟨rfl, Rep.sincePut (fun i hi => by have := LOW i hi; omega) ⟨by omega, by omega⟩ hr o, Boxed.put hb (by omega) o, he, hm.put (by omega) o⟩) (fun o => by
      have g1 : W.grownBy ((W.alloc (.deferred (some []))).alloc o) none := grownBy_trans (World.grownBy_alloc W _ none) (World.grownBy_alloc _ o none) (.inl rfl)
      refine ⟨σ, ?_, HI.out, Nat.le_refl _, HLK.out, rfl, rfl, Turned.grown (Nat.le_refl _) g1⟩
      refine (RW.same (fun i hi => g1.block i (RW.low i hi) (by simp)) g1.size).wide (fun i hi => .inl hi) (fun i hi => ?_)
      rcases hi with hi | hi
      · exact Nat.lt_of_lt_of_le (RW.low i hi) g1.size
      · exact hi.2) ?_ ?_ ?_ ?_ ?_
  rotate_left
  · intro L' j A K hK
    simp only [chunkAt]
    gi_wp2_with (fail)
    exact hK
  · have LW : ∀ i, S i → i < W.heap.size := fun i hi => by have := LOW i hi; omega
    rintro L' j A hj ⟨τ, hr, hi, hst, hlk, hp, hpe, _⟩ hKp hA
    have cf : A.cell? ⟨w.heap.size, 0, none⟩ = some (.pointer (some ⟨b, 0, none⟩)) := (hKp.cell (p := ⟨w.heap.size, 0, none⟩) XF2.lt (fun h => by have h' : w.heap.size < w.heap.size := LOW _ h; omega)).trans XF2.cell
    have cn : A.cell? ⟨w.heap.size + 1 + 1 + 1, 0, none⟩ = some (.int .i64 (n : Int)) := (hKp.cell (p := ⟨w.heap.size + 1 + 1 + 1, 0, none⟩) XN2.lt (fun h => by have h' : w.heap.size + 1 + 1 + 1 < w.heap.size := LOW _ h; omega)).trans XN2.cell
    have XR3 : Boxed A (w.heap.size + 1) 26 (.int .i64 0) := (hKp.block _ XR2.lt (fun h => by have h' : w.heap.size + 1 < w.heap.size := LOW _ h; omega)).trans XR2
    obtain ⟨x, hx⟩ := Option.ne_none_iff_exists'.1 (hi.heldOk.look hlk).1
    have nle := (hi.heldOk.look hlk).2.2
    have lenL := HL.out
    have hst2 := HS.out
    have hpl := Vf.piece_length l j
    have hdr := Vf.pieces_drop l j (by rw [← lenL]; exact hj)
    obtain ⟨p, hpp⟩ : ∃ p, p = (l.drop (j * 64)).take 64 := ⟨_, rfl⟩
    rw [← hpp] at hpl hdr
    rw [← lenL] at hpl
    obtain ⟨M, hM⟩ : ∃ M, M = min 64 (L - j * 64) := ⟨_, rfl⟩
    have bytes : ∀ m u, (bc p)[m]? = some u → A.cell? ((⟨bb, off + j * 64, none⟩ : Addr).add m) = some u := fun m u hu => by
      have hm : m < p.length := by
        have := (List.getElem?_eq_some_iff.1 hu).1
        unfold bc at this
        rw [List.length_map] at this
        exact this
      rw [bc_get p m hm] at hu
      rw [← Option.some.inj hu]
      have hml : j * 64 + m < l.length := by rw [← lenL]; omega
      have e1 : p[m] = l[j * 64 + m] := by simp only [hpp, List.getElem_take, List.getElem_drop]
      rw [e1]
      have e2 := HB.out (j * 64 + m) hml
      have e3 : A.cell? ⟨bb, off + (j * 64 + m), none⟩ = w.cell? ⟨bb, off + (j * 64 + m), none⟩ := (hKp.cell (p := ⟨bb, off + (j * 64 + m), none⟩) (by show bb < _; omega) hbS).trans (BW.cell (p := ⟨bb, off + (j * 64 + m), none⟩) hbl)
      have e4 : (⟨bb, off + j * 64, none⟩ : Addr).add m = ⟨bb, off + (j * 64 + m), none⟩ := by simp [Addr.add, Nat.add_assoc]
      rw [e4, e3]; exact e2
    have DP := do_piece A b τ (since S W.heap.size A) hr (ready hi (by omega)) n x hx (by omega) bb (off + j * 64) M M p (by rw [hpl, hM]) (by rw [hpl]; omega) (by rw [hpl]; omega) bytes (fun h => by
      rcases h with h | h
      · exact hbS h
      · omega) (by omega)
    have RL : Hid (∀ B τ', Rep B b τ' (grow (since S W.heap.size A) A B) → Moved (since S W.heap.size A) A B → Rep B b τ' (since S W.heap.size B) ∧ Turned S W.heap.size A B ∧ B.heap[W.heap.size]? = A.heap[W.heap.size]? ∧ B.heap[W.heap.size + 1]? = A.heap[W.heap.size + 1]?) := fun B τ' h1 h2 => round_left LW hA h1 h2
    have ZB : w.heap.size + 4 ≤ W.heap.size := by omega
    by_cases h0 : τ.fuse = 0
    · have e7 : Vf.doE τ = 7 := by unfold Vf.doE; rw [if_pos h0]
      have ep : Vf.pour σ n (Vf.pieces l) = Vf.doSt τ ⟨0, n, p.length, [], []⟩ p := by rw [hp, hdr, Vf.pour_cons, if_pos h0, Vf.doSt_off h0]
      have ee : Vf.pourE σ n (Vf.pieces l) = 7 := by rw [hpe, hdr]; show (if τ.fuse = 0 then 7 else _) = _; rw [if_pos h0]
      rw [e7, ← ep] at DP
      have EE : Hid _ := ee
      have MW : Hid (Moved S w A) := Moved.turned BW (by omega) hKp
      have SBR : Hid (¬ S (w.heap.size + 1)) := fun h => by have := LOW _ h; omega
      rw [← hM]
      clear bytes hdr hpl hpp hx hp hpe hlk hi hr ep ee e7 h0 HK nle lenL hst2 hM
      gi_wp2_with (first
        | (refine ⟨trivial, ?_⟩; gi_at_call 51; refine (CallsIn.inRound L' (callsIn_wide.2 DP)).mono ?_; rintro e A1 ⟨rfl, r1, m1⟩; obtain ⟨R1, T1, D1, D2⟩ := RL.out A1 _ r1 m1; have XR4 : Boxed A1 (w.heap.size + 1) 26 (.int .i64 0) := (T1.block _ (by omega) SBR.out).trans XR3; have cr := XR4.cell; have fr := XR4.frozen))
      refine ⟨⟨(Below.heap_setCell A1 ⟨w.heap.size + 1, 0, none⟩ _ _ (by show _ ≠ _; simp; omega)).trans D1, (Below.heap_setCell A1 ⟨w.heap.size + 1, 0, none⟩ _ _ (by show _ ≠ _; simp; omega)).trans D2⟩, rfl, Rep.sinceSet (by omega) SBR.out R1 _, XR4.set _, EE.out, ?_⟩
      exact ((MW.out.trans m1 (fun i hi' hs => by
        rcases hs with hs | hs
        · exact hs
        · omega)).setCell (p := ⟨w.heap.size + 1, 0, none⟩) (fun hh => by have hh' : w.heap.size + 1 < w.heap.size := hh; omega) _)
    · have e7 : Vf.doE τ = 0 := by unfold Vf.doE; rw [if_neg h0]
      have ep : Vf.pour σ n (Vf.pieces l) = Vf.pour (Vf.doSt τ ⟨0, n, p.length, [], []⟩ p) n ((Vf.pieces l).drop (j + 1)) := by rw [hp, hdr, Vf.pour_cons, if_neg h0]
      have ee : Vf.pourE σ n (Vf.pieces l) = Vf.pourE (Vf.doSt τ ⟨0, n, p.length, [], []⟩ p) n ((Vf.pieces l).drop (j + 1)) := by rw [hpe, hdr]; show (if τ.fuse = 0 then 7 else _) = _; rw [if_neg h0]
      have WR := hi.write h0 hlk (p := p) (by rw [hpl]; omega) (by rw [hpl]; omega)
      rw [e7] at DP
      have NX : Hid (Vf.Inv (Vf.doSt τ ⟨0, n, p.length, [], []⟩ p) ∧ (Vf.doSt τ ⟨0, n, p.length, [], []⟩ p).steps ≤ σ.steps + (j + 1) ∧ Vf.look (Vf.doSt τ ⟨0, n, p.length, [], []⟩ p).held k = some n ∧ Vf.pour σ n (Vf.pieces l) = Vf.pour (Vf.doSt τ ⟨0, n, p.length, [], []⟩ p) n ((Vf.pieces l).drop (j + 1)) ∧ Vf.pourE σ n (Vf.pieces l) = Vf.pourE (Vf.doSt τ ⟨0, n, p.length, [], []⟩ p) n ((Vf.pieces l).drop (j + 1))) := ⟨WR.1, by rw [WR.2.2]; omega, by rw [WR.2.1]; exact hlk, ep, ee⟩
      have KPW : Hid _ := hKp
      rw [← hM]
      clear bytes hdr hpl hpp hx hp hpe hlk hi hr ep ee e7 h0 HK nle lenL hst2 hM WR
      gi_wp2_with (first
        | (refine ⟨trivial, ?_⟩; gi_at_call 51; refine (CallsIn.inRound L' (callsIn_wide.2 DP)).mono ?_; rintro e A1 ⟨rfl, r1, m1⟩; obtain ⟨R1, T1, D1, D2⟩ := RL.out A1 _ r1 m1))
      exact ⟨⟨D1, D2⟩, T1, _, R1, NX.out.1, NX.out.2.1, NX.out.2.2.1, NX.out.2.2.2.1, NX.out.2.2.2.2, KPW.out.trans T1⟩
  · rintro B ⟨τ, hr, hi, hst, hlk, hp, hpe, ht⟩ hD
    have LW : ∀ i, S i → i < W.heap.size := fun i hi => by have := LOW i hi; omega
    have hz : (Vf.pieces l).drop ((L + 63) / 64) = [] := List.drop_of_length_le (by rw [Vf.pieces_length, HL.out]; exact Nat.le_refl _)
    rw [hz] at hp hpe
    have SBR : ¬ S (w.heap.size + 1) := fun h => by have := LOW _ h; omega
    have XR3 : Boxed B (w.heap.size + 1) 26 (.int .i64 0) := (ht.block _ XR2.lt SBR).trans XR2
    have cr := XR3.cell
    have fr := XR3.frozen
    have MB := (Moved.turned BW (by omega) ht).setCell (p := ⟨w.heap.size + 1, 0, none⟩) (fun hh => by have hh' : w.heap.size + 1 < w.heap.size := hh; omega) (.int .i64 0)
    have RB := Rep.sinceSet (B := w.heap.size + 1) (by omega) SBR hr (.int .i64 0)
    have FIN : Hid _ := Rep.shut LW (by omega) RB MB
    have hD2 : (B.setCell ⟨w.heap.size + 1, 0, none⟩ (.int .i64 0)).heap[W.heap.size]? = some (.deferred (some [])) := (Below.heap_setCell B ⟨w.heap.size + 1, 0, none⟩ _ _ (by show _ ≠ _; simp; omega)).trans hD
    have XE : Boxed ((B.setCell ⟨w.heap.size + 1, 0, none⟩ (.int .i64 0)).putObj W.heap.size (.deferred none)) (w.heap.size + 1) 26 (.int .i64 0) := Boxed.put (XR3.set _) (by omega) _
    have HE : Hid (Vf.pour σ n (Vf.pieces l) = τ ∧ Vf.pourE σ n (Vf.pieces l) = 0) := ⟨hp, hpe⟩
    clear hr hi hst hlk hp hpe ht hD hz MB RB HK XR3
    simp only [Exit.inBlock, Exit.then]
    apply_assumption
    go_wp2_with (fail)
    have ce := XE.cell
    refine leaves_one hD2 (v := .int .i64 0) (by simp [results, Tryz.results61, go_sem, ce]) ⟨by rw [HE.out.2], ?_⟩
    rw [HE.out.1]
    exact FIN.out
  · rintro co j B hj ⟨rfl, hr, hb, he, hm⟩ hD
    have LW : ∀ i, S i → i < W.heap.size := fun i hi => by have := LOW i hi; omega
    have FIN : Hid _ := Rep.shut LW (by omega) hr hm
    have XE : Boxed (B.putObj W.heap.size (.deferred none)) (w.heap.size + 1) 26 (.int .i64 7) := Boxed.put hb (by omega) _
    have HE : Hid _ := he
    clear hr hm hb he HK
    gi_wp2_with (fail)
    have ce := XE.cell
    refine leaves_one hD (v := .int .i64 7) (by simp [results, Tryz.results61, go_sem, ce]) ⟨by rw [HE.out], FIN.out⟩

set_option maxHeartbeats 2000000 in
theorem append_none (w : World) (b : Nat) (σ : Vf.St) (S : Nat → Prop) (h : Rep w b σ S) (i : Vf.Inv σ) (k : Vf.Bs) (hk : k.length ≤ 1000000) (a0 : Option Addr) (c : Nat) (hs : σ.steps ≤ 90000000) (f0 : Vf.findE σ k = 0) (hle : ¬ (0 : Int) > Vf.left σ) :
    Calls Tryz.prog 61 #[.pointer (some ⟨b, 0, none⟩), str k, .slice a0 0 c] w fun e w' => e = .returned (.int .i64 0) ∧ Rep w' b σ (grow S w w') ∧ Moved S w w' := by
  obtain ⟨n, hn⟩ : ∃ n, n = Vf.num σ.held k := ⟨_, rfl⟩
  have FD : Hid (∀ wx, Below w.heap.size w wx → Calls Tryz.prog 23 #[.pointer (some ⟨b, 0, none⟩), str k] wx fun e w' => e = .returned (.tuple #[.int .i64 (n : Int), .int .i64 0]) ∧ w' = wx.alloc (.cells #[str k] 9)) := fun wx hw => by
    obtain ⟨bf, bh, bd, pv, fs, sl, hr⟩ := h.later hw
    exact find_some wx b bf bh bd pv fs sl σ S hr k hk 0 f0.symm n (by show _ = _; rw [if_pos f0, hn])
  obtain ⟨E, hE⟩ : ∃ E, E = Vf.left σ := ⟨_, rfl⟩
  have RDY := ready i (by omega)
  have LF : Hid (∀ wx, Below w.heap.size w wx → Calls Tryz.prog 32 #[.pointer (some ⟨b, 0, none⟩)] wx fun e w' => e = .returned (.int .i64 E) ∧ Below wx.heap.size wx w') := fun wx hw => left_any wx b σ S (h.later hw) RDY.used i.room E hE
  have hle' : ¬ (0 : Int) > E := by rw [hE]; exact hle
  have CH := chunk_any
  refine (callsIn_wide (n := 5)).1 ?_
  refine callsIn_of_wp_marks Tryz.func61 rfl trivial ?_ rfl
  simp only [Tryz.ntmps61, List.size_toArray, List.length_cons, List.length_nil, Nat.reduceAdd, Nat.reduceSub, Array.replicate_succ, Array.replicate_zero, List.push_toArray, List.append_toArray, List.nil_append, List.cons_append]
  rw [wpIn_wide]
  have HH : Hid _ := h
  clear h i hs hn hE RDY hle f0
  have B0 : Below w.heap.size w ((w.alloc (.cells #[.pointer (some ⟨b, 0, none⟩)] 25)).alloc (.cells #[.int .i64 0] 26)) := ((Below.refl _ _).alloc (Nat.le_refl _) _).alloc (by simp) _
  go_wp2_with (first
    | (go_at_call 23; refine still2 (FD.out _ B0) ?_)
    | (go_at_call 32; refine (LF.out _ (by first | exact (B0.alloc B0.size _).alloc (by have := B0.size; simp; omega) _ | exact B0.alloc B0.size _)).mono ?_; rintro e w2 ⟨rfl, b2⟩)
    | (go_at_call 95; refine still2 (CH _ _ _ _) ?_))
  have b2' : Below w.heap.size w w2 := by
    have h0 := (B0.alloc B0.size (.cells #[str k] 9)).alloc (by have := B0.size; simp; omega) (.cells #[.int .i64 (n : Int)] 3)
    exact h0.trans (b2.mono h0.size)
  have XR : Boxed w2 (w.heap.size + 1) 26 (.int .i64 0) := by
    have h0 := boxedL (boxedL (Boxed.new (w.alloc (.cells #[.pointer (some ⟨b, 0, none⟩)] 25)) 26 (.int .i64 0)) (((Below.refl _ _).alloc (Nat.le_refl _) _).alloc (by simp) _)) b2
    rw [World.size_alloc] at h0
    exact h0
  obtain ⟨W, hW⟩ : ∃ W, W = (w2.alloc (.cells #[.slice a0 0 c] 33)).alloc (.cells #[.int .i64 64] 3) := ⟨_, rfl⟩
  have bW : Below w2.heap.size w2 W := by rw [hW]; exact ((Below.refl _ _).alloc (Nat.le_refl _) _).alloc (by simp) _
  have XC : Boxed W w2.heap.size 33 (.slice a0 0 c) := by rw [hW]; exact (Boxed.new w2 _ _).alloc _
  have XR2 := boxedL XR bW
  have BW : Below w.heap.size w W := b2'.trans (bW.mono b2'.size)
  have RR : Rep w b σ S := HH.out
  have RW := RR.later BW
  have zW : W.heap.size = w2.heap.size + 2 := by rw [hW]; simp
  have z2 : w.heap.size + 4 ≤ w2.heap.size := by have := b2.size; simp at this; omega
  have LOW := RR.low
  rw [← hW]
  clear hW XR FD LF CH b2 b2' bW B0
  rw [← wpIn_wide (n := 5)]
  have HK := chunk_none (5 - 1) w2.heap.size (w2.heap.size + 1) W a0 c (Turned S W.heap.size) (chunkAt 0 0 0)
    (fun A hA => (hA.cell (p := ⟨w2.heap.size, 0, none⟩) XC.lt (fun h => by have h' : w2.heap.size < w.heap.size := LOW _ h; omega)).trans XC.cell)
  refine wpIn_handsK rfl (by decide) (gf := 127) (lb := #[.pointer (some ⟨w2.heap.size, 0, none⟩), .pointer (some ⟨w2.heap.size + 1, 0, none⟩)]) rfl trivial (enters_of Tryz.func127 (by kernel_rfl) rfl) HK (Turned.refl _ _ _) (fun h k => h.trans k) (fun A o hA => Turned.grown hA (World.grownBy_alloc A o none)) (fun A o => Turned.put S (Nat.le_succ _) A o) (fun _ => rfl)
    (fun _ A => Rep A b σ (since S W.heap.size A) ∧ Turned S W.heap.size W A)
    (fun _ _ _ => False) (fun j A B h hg => ⟨h.1.sinceGrown hg, h.2.trans (Turned.grown h.2.size hg)⟩) (fun _ _ _ _ h _ => h) (fun j A o h => ⟨Rep.sincePut (fun i hi => by have := LOW i hi; omega) ⟨by omega, by omega⟩ h.1 o, h.2.trans (Turned.put S (Nat.le_succ _) A o)⟩) (fun _ _ _ _ h => h) (fun o => by
      have g1 : W.grownBy ((W.alloc (.deferred (some []))).alloc o) none := grownBy_trans (World.grownBy_alloc W _ none) (World.grownBy_alloc _ o none) (.inl rfl)
      refine ⟨?_, Turned.grown (Nat.le_refl _) g1⟩
      refine (RW.same (fun i hi => g1.block i (RW.low i hi) (by simp)) g1.size).wide (fun i hi => .inl hi) (fun i hi => ?_)
      rcases hi with hi | hi
      · exact Nat.lt_of_lt_of_le (RW.low i hi) g1.size
      · exact hi.2) ?_ ?_ ?_ ?_ ?_
  rotate_left
  · intro L' j A K hK
    simp only [chunkAt]
    gi_wp2_with (fail)
    exact hK
  · intro L' j A hj
    omega
  · rintro B ⟨hr, ht⟩ hD
    have LW : ∀ i, S i → i < W.heap.size := fun i hi => by have := LOW i hi; omega
    have SBR : ¬ S (w.heap.size + 1) := fun h => by have := LOW _ h; omega
    have XR3 : Boxed B (w.heap.size + 1) 26 (.int .i64 0) := (ht.block _ XR2.lt SBR).trans XR2
    have cr := XR3.cell
    have fr := XR3.frozen
    have MB := (Moved.turned BW (by omega) ht).setCell (p := ⟨w.heap.size + 1, 0, none⟩) (fun hh => by have hh' : w.heap.size + 1 < w.heap.size := hh; omega) (.int .i64 0)
    have RB := Rep.sinceSet (B := w.heap.size + 1) (by omega) SBR hr (.int .i64 0)
    have FIN : Hid _ := Rep.shut LW (by omega) RB MB
    have hD2 : (B.setCell ⟨w.heap.size + 1, 0, none⟩ (.int .i64 0)).heap[W.heap.size]? = some (.deferred (some [])) := (Below.heap_setCell B ⟨w.heap.size + 1, 0, none⟩ _ _ (by show _ ≠ _; simp; omega)).trans hD
    have XE : Boxed ((B.setCell ⟨w.heap.size + 1, 0, none⟩ (.int .i64 0)).putObj W.heap.size (.deferred none)) (w.heap.size + 1) 26 (.int .i64 0) := Boxed.put (XR3.set _) (by omega) _
    clear hr ht hD MB RB HK XR3
    simp only [Exit.inBlock, Exit.then]
    apply_assumption
    go_wp2_with (fail)
    have ce := XE.cell
    exact leaves_one hD2 (v := .int .i64 0) (by simp [results, Tryz.results61, go_sem, ce]) ⟨rfl, FIN.out⟩
  · intro co j B hj h
    exact h.elim

theorem append_bad (w : World) (b : Nat) (σ : Vf.St) (S : Nat → Prop) (h : Rep w b σ S) (k : Vf.Bs) (hk : k.length ≤ 1000000) (v : Value) (E : Int) (hE : E = Vf.findE σ k) (f0 : E ≠ 0) :
    Calls Tryz.prog 61 #[.pointer (some ⟨b, 0, none⟩), str k, v] w fun e w' => e = .returned (.int .i64 E) ∧ Rep w' b σ (grow S w w') ∧ Moved S w w' := by
  have FD : Hid (∀ wx, Below w.heap.size w wx → Calls Tryz.prog 23 #[.pointer (some ⟨b, 0, none⟩), str k] wx fun e w' => e = .returned (.tuple #[.int .i64 ((0 : Nat) : Int), .int .i64 E]) ∧ w' = wx.alloc (.cells #[str k] 9)) := fun wx hw => by
    obtain ⟨bf, bh, bd, pv, fs, sl, hr⟩ := h.later hw
    exact find_some wx b bf bh bd pv fs sl σ S hr k hk E hE 0 (by show _ = _; rw [if_neg (by rw [← hE]; exact f0)])
  have b0 : (E != 0) = true := by simpa using f0
  have HH : Hid _ := h
  clear h hE
  refine (callsIn_wide (n := 5)).1 ?_
  refine callsIn_of_wp_marks Tryz.func61 rfl trivial ?_ rfl
  simp only [Tryz.ntmps61, List.size_toArray, List.length_cons, List.length_nil, Nat.reduceAdd, Nat.reduceSub, Array.replicate_succ, Array.replicate_zero, List.push_toArray, List.append_toArray, List.nil_append, List.cons_append]
  rw [wpIn_wide]
  have B0 : Below w.heap.size w ((w.alloc (.cells #[.pointer (some ⟨b, 0, none⟩)] 25)).alloc (.cells #[.int .i64 0] 26)) := ((Below.refl _ _).alloc (Nat.le_refl _) _).alloc (by simp) _
  go_wp2_with (first
    | (go_at_call 23; refine still2 (FD.out _ B0) ?_))
  have BL : Below w.heap.size w ((((w.alloc (.cells #[.pointer (some ⟨b, 0, none⟩)] 25)).alloc (.cells #[.int .i64 E] 26)).alloc (.cells #[str k] 9)).alloc (.cells #[.int .i64 0] 3)) := (((((Below.refl _ _).alloc (Nat.le_refl _) _).alloc (by simp) _).alloc (by simp; omega) _).alloc (by simp; omega) _)
  have XE : Boxed ((((w.alloc (.cells #[.pointer (some ⟨b, 0, none⟩)] 25)).alloc (.cells #[.int .i64 E] 26)).alloc (.cells #[str k] 9)).alloc (.cells #[.int .i64 0] 3)) (w.heap.size + 1) 26 (.int .i64 E) := by
    have h0 := boxedL (Boxed.new (w.alloc (.cells #[.pointer (some ⟨b, 0, none⟩)] 25)) 26 (.int .i64 E)) (((Below.refl _ _).alloc (Nat.le_refl _) (.cells #[str k] 9)).alloc (by simp) (.cells #[.int .i64 0] 3))
    rw [World.size_alloc] at h0
    exact h0
  have ce := XE.cell
  have RR : Rep w b σ S := HH.out
  exact ⟨.int .i64 E, (by simp [results, Tryz.results61, go_sem, ce]), rfl, Rep.grow1 (RR.later BL), Moved.below BL⟩

theorem append_full (w : World) (b : Nat) (σ : Vf.St) (S : Nat → Prop) (h : Rep w b σ S) (i : Vf.Inv σ) (k : Vf.Bs) (hk : k.length ≤ 1000000) (a0 : Option Addr) (L c : Nat) (hs : σ.steps ≤ 90000000) (f0 : Vf.findE σ k = 0) (hle : (L : Int) > Vf.left σ) :
    Calls Tryz.prog 61 #[.pointer (some ⟨b, 0, none⟩), str k, .slice a0 L c] w fun e w' => e = .returned (.int .i64 8) ∧ Rep w' b σ (grow S w w') ∧ Moved S w w' := by
  obtain ⟨n, hn⟩ : ∃ n, n = Vf.num σ.held k := ⟨_, rfl⟩
  have FD : Hid (∀ wx, Below w.heap.size w wx → Calls Tryz.prog 23 #[.pointer (some ⟨b, 0, none⟩), str k] wx fun e w' => e = .returned (.tuple #[.int .i64 (n : Int), .int .i64 0]) ∧ w' = wx.alloc (.cells #[str k] 9)) := fun wx hw => by
    obtain ⟨bf, bh, bd, pv, fs, sl, hr⟩ := h.later hw
    exact find_some wx b bf bh bd pv fs sl σ S hr k hk 0 f0.symm n (by show _ = _; rw [if_pos f0, hn])
  obtain ⟨E, hE⟩ : ∃ E, E = Vf.left σ := ⟨_, rfl⟩
  have RDY := ready i (by omega)
  have LF : Hid (∀ wx, Below w.heap.size w wx → Calls Tryz.prog 32 #[.pointer (some ⟨b, 0, none⟩)] wx fun e w' => e = .returned (.int .i64 E) ∧ Below wx.heap.size wx w') := fun wx hw => left_any wx b σ S (h.later hw) RDY.used i.room E hE
  have hle' : (L : Int) > E := by rw [hE]; exact hle
  refine (callsIn_wide (n := 5)).1 ?_
  refine callsIn_of_wp_marks Tryz.func61 rfl trivial ?_ rfl
  simp only [Tryz.ntmps61, List.size_toArray, List.length_cons, List.length_nil, Nat.reduceAdd, Nat.reduceSub, Array.replicate_succ, Array.replicate_zero, List.push_toArray, List.append_toArray, List.nil_append, List.cons_append]
  rw [wpIn_wide]
  have HH : Hid _ := h
  clear h i hs hn hE RDY hle f0
  have B0 : Below w.heap.size w ((w.alloc (.cells #[.pointer (some ⟨b, 0, none⟩)] 25)).alloc (.cells #[.int .i64 0] 26)) := ((Below.refl _ _).alloc (Nat.le_refl _) _).alloc (by simp) _
  go_wp2_with (first
    | (go_at_call 23; refine still2 (FD.out _ B0) ?_)
    | (go_at_call 32; refine (LF.out _ (by first | exact (B0.alloc B0.size _).alloc (by have := B0.size; simp; omega) _ | exact B0.alloc B0.size _)).mono ?_; rintro e w2 ⟨rfl, b2⟩; have XR : Boxed w2 (w.heap.size + 1) 26 (.int .i64 0) := (by have h0 := boxedL (boxedL (Boxed.new (w.alloc (.cells #[.pointer (some ⟨b, 0, none⟩)] 25)) 26 (.int .i64 0)) (((Below.refl _ _).alloc (Nat.le_refl _) _).alloc (by simp) _)) b2; rw [World.size_alloc] at h0; exact h0); have cr := XR.cell; have fr := XR.frozen))
  have b2' : Below w.heap.size w w2 := by
    have h0 := (B0.alloc B0.size (.cells #[str k] 9)).alloc (by have := B0.size; simp; omega) (.cells #[.int .i64 (n : Int)] 3)
    exact h0.trans (b2.mono h0.size)
  have BL : Below w.heap.size w (w2.setCell ⟨w.heap.size + 1, 0, none⟩ (.int .i64 8)) := b2'.setCell (p := ⟨w.heap.size + 1, 0, none⟩) (Nat.le_succ _) _
  have ce := (XR.set (.int .i64 8)).cell
  have RR : Rep w b σ S := HH.out
  exact ⟨.int .i64 8, (by simp [results, Tryz.results61, go_sem, ce]), rfl, Rep.grow1 (RR.later BL), Moved.below BL⟩

/-- Bytes that no block of S has. -/
structure Apart (S : Nat → Prop) (w : World) (v : Value) (l : Vf.Bs) : Prop where
  bytes : BytesIn w v l
  out : ∀ a n c, v = .slice (some a) n c → l ≠ [] → ¬ S a.block
  room : ∀ a n c, v = .slice a n c → l ≠ [] → l.length ≤ c

theorem append_any (w : World) (b : Nat) (σ : Vf.St) (S : Nat → Prop) (h : Rep w b σ S) (i : Vf.Inv σ) (k : Vf.Bs) (hk : k.length ≤ 1000000) (v : Value) (l : Vf.Bs) (hs : σ.steps + l.length ≤ 90000000) (hv : Apart S w v l) :
    Calls Tryz.prog 61 #[.pointer (some ⟨b, 0, none⟩), str k, v] w fun e w' => e = .returned (.int .i64 (Vf.appendE σ k l)) ∧ Rep w' b (Vf.append σ k l) (grow S w w') ∧ Moved S w w' := by
  obtain ⟨⟨a, c, rfl, hf⟩, _⟩ := hv.bytes
  by_cases f0 : Vf.findE σ k = 0
  · by_cases hle : (l.length : Int) > Vf.left σ
    · have e1 : Vf.appendE σ k l = 8 := by unfold Vf.appendE; rw [if_pos f0, if_pos hle]
      have e2 : Vf.append σ k l = σ := by unfold Vf.append; rw [if_pos f0, if_pos hle]
      rw [e1, e2]
      exact append_full w b σ S h i k hk a l.length c (by omega) f0 hle
    · have e1 : Vf.appendE σ k l = Vf.pourE σ (Vf.num σ.held k) (Vf.pieces l) := by unfold Vf.appendE; rw [if_pos f0, if_neg hle]
      have e2 : Vf.append σ k l = Vf.pour σ (Vf.num σ.held k) (Vf.pieces l) := by unfold Vf.append; rw [if_pos f0, if_neg hle]
      rw [e1, e2]
      by_cases h0 : l = []
      · subst h0
        exact append_none w b σ S h i k hk a c (by omega) f0 hle
      · obtain ⟨bb, off, rfl, hat⟩ := hf h0
        have hpos : 0 < l.length := List.length_pos_iff.2 h0
        exact append_pour w b σ S h i k hk bb off c l hs hpos (hv.room _ _ _ rfl h0) (fun j hj => hat j hj) (hv.out _ _ _ rfl h0) (World.block_lt_of_cell? w _ (hat 0 hpos)) f0 hle
  · have e1 : Vf.appendE σ k l = Vf.findE σ k := by unfold Vf.appendE; rw [if_neg f0]
    have e2 : Vf.append σ k l = σ := by unfold Vf.append; rw [if_neg f0]
    rw [e1, e2]
    exact append_bad w b σ S h k hk _ _ rfl f0
end Go.Proofs.YtlhnjloimhcpfabGreatDoor
namespace Go.Proofs.YtlhnjloimhcpfabGreatDoor
open Go.RowKit Go.Maps Go.Sort

theorem two_kept {w w' : World} {p q : Addr} {u v : Value} (b : Below w.heap.size w w') (h : w.cell? p = some u ∧ w.cell? q = some v) : w'.cell? p = some u ∧ w'.cell? q = some v := ⟨keepC b h.1, keepC b h.2⟩

end Go.Proofs.YtlhnjloimhcpfabGreatDoor
namespace Go.Proofs.YtlhnjloimhcpfabGreatDoor
open Go.RowKit Go.Maps Go.Sort

/-- A turn of the block of a file's bytes. -/
theorem RepAt.turnR {w : World} {b bf bh bd : Nat} {pv : Value} {fs : Nat → Option Nat} {sl : Nat → Value} {σ : Vf.St} {S : Nat → Prop} (h : RepAt w b bf bh bd pv fs sl σ S) {n g r : Nat} {x x' : Vf.File} (hn : fs n = some g) (hx : σ.files n = some x) (hr : (sl n).ownBlock = some r) {w' : World} (ho : Only w w' r) (hs : x'.synced = x.synced) (hl : x'.bytes.length = x.bytes.length)
    (hw : w'.ownsRow 0 5 1 (sl n) x.bytes.length (bc x'.bytes)) : RepAt w' b bf bh bd pv fs sl { σ with files := Vf.setF σ.files n (some x') } S := by
  have hne : fs n ≠ none := by rw [hn]; simp
  have kr := h.kr hne hr
  refine ⟨(ho.2 b (h.low _ h.sb) (ne_kind h.kb kr (by decide))).trans h.blk, h.files.same (ho.2 _ h.files.lt (ne_kind h.files.kind kr (by simp))), h.held.same (ho.2 _ h.held.lt (ne_kind h.held.kind kr (by simp))), h.dur.same (ho.2 _ h.dur.lt (ne_kind h.dur.kind kr (by simp))),
    ownsRow_same h.pend fun q hq => ho.2 q (h.low _ (h.sp q hq)) (ne_kind (h.kp hq) kr (by decide)), fun k => ?_, fun k q y hk hy => ?_, h.inj, h.rows, h.fh, h.fd, h.hd, h.sb, h.sf, h.sh, h.sd, h.sp, h.sg, h.sr, fun i hi => Nat.lt_of_lt_of_le (h.low i hi) ho.1⟩
  · show (fs k).isSome = (Vf.setF σ.files n (some x') k).isSome
    by_cases e : k = n
    · subst e; rw [Vf.setF_eq, hn]; rfl
    · rw [Vf.setF_ne e]; exact h.dom k
  · have hy' : Vf.setF σ.files n (some x') k = some y := hy
    by_cases e : k = n
    · subst e
      rw [Vf.setF_eq] at hy'
      cases hy'
      have e2 : q = g := by rw [hn] at hk; exact (Option.some.inj hk).symm
      subst e2
      refine ⟨?_, ?_⟩
      · rw [hs]
        exact (ho.2 q (h.low _ (h.sg k q hn)) (ne_kind (h.kg hn) kr (by decide))).trans (h.file k q x hn hx).1
      · rw [hl]; exact hw
    · rw [Vf.setF_ne e] at hy'
      have hne' : fs k ≠ none := by rw [hk]; simp
      refine ⟨(ho.2 q (h.low _ (h.sg k q hk)) (ne_kind (h.kg hk) kr (by decide))).trans (h.file k q y hk hy').1, ownsRow_same (h.file k q y hk hy').2 fun t ht => ho.2 t (h.low _ (h.sr k t hne' ht)) (fun e' => e (h.rows k n r hne' hne (by rw [← e']; exact ht) hr))⟩

set_option maxRecDepth 20000 in
set_option maxHeartbeats 1000000 in
theorem alter_any (w : World) (b : Nat) (σ : Vf.St) (S : Nat → Prop) (h : Rep w b σ S) (i : Vf.Inv σ) (hs : σ.steps ≤ 100000000) (k : Vf.Bs) (hk : k.length ≤ 1000000) (at_ : Int) (bits : UInt8) (E : Int) (HE : Hid (E = Vf.alterE σ k at_)) :
    Calls Tryz.prog 14 #[.pointer (some ⟨b, 0, none⟩), str k, .int .i64 at_, .int .u8 (bits.toNat : Int)] w fun e w' => e = .returned (.int .i64 E) ∧ Rep w' b (Vf.alter σ k at_ bits) S ∧ Moved S w w' := by
  have q := made_rep w b σ S h
  have qp := proper_any w ⟨k.toArray⟩ (by show k.toArray.size ≤ _; simp [maxLen]; omega)
  simp only at qp
  obtain ⟨bf, bh, bd, pv, fs, sl, hr⟩ := h
  have c5 := hr.cells.2.2.2.2.2.1
  have c7 := hr.cells.2.2.2.2.2.2.2.1
  have H0 : Hid _ := hr
  cases hf : Vf.fine k with
  | false =>
    have e2 : E = 2 := by rw [HE.out]; unfold Vf.alterE; rw [hf]; rfl
    have ea : Vf.alter σ k at_ bits = σ := by unfold Vf.alter; rw [← HE.out, if_neg (by omega)]
    rw [ea]
    rw [hf] at qp
    subst e2
    clear HE hr hf ea i
    go_enter Tryz.func14, Tryz.ntmps14
    go_wp2_with (first | (go_at_call 34; refine still q ?_) | (go_at_call 35; refine still qp ?_))
    go_ret
    exact ⟨rfl, ⟨_, _, _, _, _, _, H0.out⟩, Moved.refl _ _⟩
  | true =>
    rw [hf] at qp
    obtain ⟨n, hn⟩ : ∃ n, n = Vf.num σ.durable k := ⟨_, rfl⟩
    have nle : n ≤ 100000000 := by rw [hn]; have := Vf.num_le (fun p hp => (i.durOk.le p hp).2) k; omega
    have L7 := hr.drew.dur.look k hk
    rw [← hn] at L7
    have L5 := hr.drew.files.look n (by omega)
    cases hx : σ.files n with
    | none =>
      have e2 : E = 4 := by rw [HE.out]; unfold Vf.alterE; rw [hf, ← hn, hx]; rfl
      have ea : Vf.alter σ k at_ bits = σ := by unfold Vf.alter; rw [← HE.out, if_neg (by omega)]
      rw [ea]
      have hg : fs n = none := by have := hr.dom n; rw [hx] at this; simpa using this
      rw [ptr_none hg] at L5
      subst e2
      clear HE hr hf ea i hx hg hn
      go_enter Tryz.func14, Tryz.ntmps14
      go_wp2_with (first | (go_at_call 34; refine still q ?_) | (go_at_call 35; refine still qp ?_))
      go_region
      go_wp2_with (fail)
      go_ret
      exact ⟨rfl, ⟨_, _, _, _, _, _, H0.out.drew⟩, (Moved.refl _ _).drew⟩
    | some x =>
      obtain ⟨g, hg⟩ : ∃ g, fs n = some g := by have := hr.dom n; rw [hx] at this; exact Option.isSome_iff_exists.1 this
      rw [ptr_some hg] at L5
      have hsy : x.synced ≤ x.bytes.length := by have := i.pend n x hx; omega
      have hby : x.bytes.length ≤ 100000000000 := by have := (i.nums n x hx).2.2; omega
      have d1 : w.drew.cell? ⟨g, 1, none⟩ = some (.int .i64 (x.synced : Int)) := Joins.cell_of_block (hr.file n g x hg hx).1 1
      by_cases hb : at_ < 0 ∨ at_ ≥ x.synced
      · have e2 : E = 2 := by rw [HE.out]; unfold Vf.alterE; rw [hf, ← hn, hx]; rw [if_pos rfl]; exact if_pos hb
        have ea : Vf.alter σ k at_ bits = σ := by unfold Vf.alter; rw [← HE.out, if_neg (by omega)]
        rw [ea]
        subst e2
        clear HE hr hf ea i hx hg hn
        by_cases h1 : at_ < 0
        · clear hb
          go_enter Tryz.func14, Tryz.ntmps14
          go_wp2_with (first | (go_at_call 34; refine still q ?_) | (go_at_call 35; refine still qp ?_))
          go_region
          go_wp2_with (fail)
          go_ret
          exact ⟨rfl, ⟨_, _, _, _, _, _, H0.out.drew⟩, (Moved.refl _ _).drew⟩
        · have h2 : at_ ≥ (x.synced : Int) := by omega
          clear hb
          go_enter Tryz.func14, Tryz.ntmps14
          go_wp2_with (first | (go_at_call 34; refine still q ?_) | (go_at_call 35; refine still qp ?_))
          go_region
          go_wp2_with (fail)
          go_ret
          exact ⟨rfl, ⟨_, _, _, _, _, _, H0.out.drew⟩, (Moved.refl _ _).drew⟩
      · have e2 : E = 0 := by rw [HE.out]; unfold Vf.alterE; rw [hf, ← hn, hx]; rw [if_pos rfl]; exact if_neg hb
        obtain ⟨m, rfl⟩ : ∃ m : Nat, at_ = (m : Int) := ⟨at_.toNat, by omega⟩
        have hm : m < x.bytes.length := by omega
        obtain ⟨cv, hcv⟩ : ∃ cv, cv = x.bytes[m] := ⟨_, rfl⟩
        have ea : Vf.alter σ k (m : Int) bits = { σ with files := Vf.setF σ.files n (some { x with bytes := x.bytes.set m (cv ^^^ bits) }) } := by
          unfold Vf.alter
          rw [← HE.out, if_pos e2, ← hn, hx]
          simp [hcv, hm]
        rw [ea]
        subst e2
        have OWN := (hr.file n g x hg hx).2
        rcases OWN.2 with ⟨_, h0⟩ | ⟨g2, cap, cur, hsl, _⟩
        · omega
        have d0 : w.drew.cell? ⟨g, 0, none⟩ = some (.slice (some ⟨g2, 0, none⟩) x.bytes.length cap) := by rw [← hsl]; exact file_cell hr hg hx
        have dm : w.drew.cell? ⟨g2, m, none⟩ = some (.int .u8 (cv.toNat : Int)) := by
          have o2 := OWN
          rw [hsl] at o2
          have e := o2.cellAt m (by omega)
          rw [bc_get x.bytes m hm, ← hcv] at e
          exact e
        have o2 := OWN
        rw [hsl] at o2
        have fm : w.drew.frozen? ⟨g2, m, none⟩ = false := o2.frozenAt m
        have ST := (o2.stored m (.int .u8 ((cv ^^^ bits).toNat : Int)))
        have FIN : Hid (RepAt (w.setCell ⟨g2, m, none⟩ (.int .u8 ((cv ^^^ bits).toNat : Int))) b bf bh bd pv fs sl { σ with files := Vf.setF σ.files n (some { x with bytes := x.bytes.set m (cv ^^^ bits) }) } S) :=
          hr.turnR hg hx (r := g2) (x' := { x with bytes := x.bytes.set m (cv ^^^ bits) }) (by rw [hsl]; rfl) (only_setCell w ⟨g2, m, none⟩ _) rfl List.length_set (by
            rw [hsl]
            have e : (bc x.bytes).set m (.int .u8 ((cv ^^^ bits).toNat : Int)) = bc (x.bytes.set m (cv ^^^ bits)) := by unfold bc; rw [List.map_set]
            rw [← e]
            exact ST.1)
        have SG : Hid (S g2) := hr.sr n g2 (by rw [hg]; simp) (by rw [hsl]; rfl)
        have i1 : (m : Int) < (x.bytes.length : Int) := by omega
        have i2 : ¬ (m : Int) < 0 := by omega
        have i3 : ¬ (m : Int) ≥ (x.synced : Int) := by omega
        have XB : Hid (Go.bits .xor .u8 (cv.toNat : Int) (bits.toNat : Int) = ((cv ^^^ bits).toNat : Int)) := by
          show _ = _
          rw [u8_xor_nat _ _ (UInt8.toNat_lt cv) (UInt8.toNat_lt bits), UInt8.toNat_xor]
        clear HE hf ea i hx hn hb hby hsy hcv OWN hr hsl o2 ST
        go_enter Tryz.func14, Tryz.ntmps14
        go_wp2_with (first | (go_at_call 34; refine still q ?_) | (go_at_call 35; refine still qp ?_))
        go_region
        go_wp2_with (fail)
        go_ret
        rw [XB.out]
        exact ⟨rfl, ⟨_, _, _, _, _, _, FIN.out.drew⟩, ((Moved.refl _ _).setCell (p := ⟨g2, m, none⟩) (fun _ => SG.out) _).drew⟩
end Go.Proofs.YtlhnjloimhcpfabGreatDoor
namespace Go.Proofs.YtlhnjloimhcpfabGreatDoor
open Go.RowKit Go.Maps Go.Sort

structure FsIn (base lim : Nat) (w : World) (b : Nat) (σ : Vf.St) : Prop where
  rep : ∃ S, Rep w b σ S ∧ ∀ i, S i → base ≤ i ∧ i < lim
  inv : Vf.Inv σ
  low : base ≤ w.heap.size
  lim : lim ≤ w.heap.size

theorem FsIn.later {base lim : Nat} {w w' : World} {b : Nat} {σ : Vf.St} (h : FsIn base lim w b σ) (hb : Below w.heap.size w w') : FsIn base lim w' b σ := by
  obtain ⟨S, hr, hS⟩ := h.rep
  exact ⟨⟨S, hr.later hb, hS⟩, h.inv, Nat.le_trans h.low hb.size, Nat.le_trans h.lim hb.size⟩

theorem FsIn.after {base lim : Nat} {w w' : World} {b : Nat} {σ σ' : Vf.St} {S : Nat → Prop} (h : FsIn base lim w b σ) (hS : ∀ i, S i → base ≤ i ∧ i < lim) (hi : Vf.Inv σ') (hr : Rep w' b σ' (grow S w w')) (hm : Moved S w w') : FsIn base w'.heap.size w' b σ' ∧ Below base w w' :=
  ⟨⟨⟨_, hr, fun i h' => ⟨by
    have hl := h.low
    rcases h' with h' | h'
    · exact (hS i h').1
    · omega, hr.low i h'⟩⟩, hi, Nat.le_trans h.low hm.size, Nat.le_refl _⟩, hm.under h.low (fun i hi => (hS i hi).1)⟩
theorem FsIn.after' {base lim : Nat} {w w' : World} {b : Nat} {σ σ' : Vf.St} {S : Nat → Prop} (h : FsIn base lim w b σ) (hS : ∀ i, S i → base ≤ i ∧ i < lim) (hi : Vf.Inv σ') (hr : Rep w' b σ' S) (hm : Moved S w w') : FsIn base w'.heap.size w' b σ' ∧ Below base w w' := h.after hS hi hr.grow1 hm

section
variable {base lim : Nat} {w : World} {b : Nat} {σ : Vf.St}
theorem create_fs (h : FsIn base lim w b σ) (hs : σ.steps ≤ 90000000) (k : Vf.Bs) (hk : k.length ≤ 1000000) :
    Calls Tryz.prog 79 #[.pointer (some ⟨b, 0, none⟩), str k] w fun e w' => e = .returned (.int .i64 (Vf.createE σ k)) ∧ FsIn base w'.heap.size w' b (Vf.create σ k) ∧ Below base w w' := by
  obtain ⟨S, hr, hS⟩ := h.rep
  refine (create_any w b σ S hr (ready h.inv (by omega)) k hk _ rfl).mono ?_
  rintro e w' ⟨rfl, h1, h2⟩
  exact ⟨rfl, h.after hS (h.inv.create k) h1 h2⟩
theorem remove_fs (h : FsIn base lim w b σ) (hs : σ.steps ≤ 90000000) (k : Vf.Bs) (hk : k.length ≤ 1000000) :
    Calls Tryz.prog 22 #[.pointer (some ⟨b, 0, none⟩), str k] w fun e w' => e = .returned (.int .i64 (Vf.removeE σ k)) ∧ FsIn base w'.heap.size w' b (Vf.remove σ k) ∧ Below base w w' := by
  obtain ⟨S, hr, hS⟩ := h.rep
  refine (remove_any w b σ S hr (ready h.inv (by omega)) k hk _ rfl).mono ?_
  rintro e w' ⟨rfl, h1, h2⟩
  exact ⟨rfl, h.after hS (h.inv.remove k) h1 h2⟩
theorem sync_fs (h : FsIn base lim w b σ) (hs : σ.steps ≤ 90000000) (k : Vf.Bs) (hk : k.length ≤ 1000000) :
    Calls Tryz.prog 62 #[.pointer (some ⟨b, 0, none⟩), str k] w fun e w' => e = .returned (.int .i64 (Vf.syncE σ k)) ∧ FsIn base w'.heap.size w' b (Vf.sync σ k) ∧ Below base w w' := by
  obtain ⟨S, hr, hS⟩ := h.rep
  refine (sync_any w b σ S hr (ready h.inv (by omega)) k hk _ rfl).mono ?_
  rintro e w' ⟨rfl, h1, h2⟩
  exact ⟨rfl, h.after hS (h.inv.sync k) h1 h2⟩
theorem syncNames_fs (h : FsIn base lim w b σ) (hs : σ.steps ≤ 90000000) :
    Calls Tryz.prog 49 #[.pointer (some ⟨b, 0, none⟩)] w fun e w' => e = .returned (.int .i64 (Vf.syncNamesE σ)) ∧ FsIn base w'.heap.size w' b (Vf.syncNames σ) ∧ Below base w w' := by
  obtain ⟨S, hr, hS⟩ := h.rep
  refine (syncNames_any w b σ S hr (ready h.inv (by omega)) _ rfl).mono ?_
  rintro e w' ⟨rfl, h1, h2⟩
  exact ⟨rfl, h.after hS h.inv.syncNames h1 h2⟩
theorem rename_fs (h : FsIn base lim w b σ) (hs : σ.steps ≤ 90000000) (k t : Vf.Bs) (hk : k.length ≤ 1000000) (ht : t.length ≤ 1000000) :
    Calls Tryz.prog 50 #[.pointer (some ⟨b, 0, none⟩), str k, str t] w fun e w' => e = .returned (.int .i64 (Vf.renameE σ k t)) ∧ FsIn base w'.heap.size w' b (Vf.rename σ k t) ∧ Below base w w' := by
  obtain ⟨S, hr, hS⟩ := h.rep
  refine (rename_any w b σ S hr (ready h.inv (by omega)) k t hk ht _ rfl).mono ?_
  rintro e w' ⟨rfl, h1, h2⟩
  exact ⟨rfl, h.after hS (h.inv.rename k t) h1 h2⟩
theorem alter_fs (h : FsIn base lim w b σ) (hs : σ.steps ≤ 90000000) (k : Vf.Bs) (hk : k.length ≤ 1000000) (at_ : Int) (bits : UInt8) :
    Calls Tryz.prog 14 #[.pointer (some ⟨b, 0, none⟩), str k, .int .i64 at_, .int .u8 (bits.toNat : Int)] w fun e w' => e = .returned (.int .i64 (Vf.alterE σ k at_)) ∧ FsIn base w'.heap.size w' b (Vf.alter σ k at_ bits) ∧ Below base w w' := by
  obtain ⟨S, hr, hS⟩ := h.rep
  refine (alter_any w b σ S hr h.inv (by omega) k hk at_ bits _ rfl).mono ?_
  rintro e w' ⟨rfl, h1, h2⟩
  exact ⟨rfl, h.after' hS (h.inv.alter k at_ bits) h1 h2⟩
/-- Bytes in memory that the file system has not. -/
structure Free (base lim : Nat) (w : World) (v : Value) (l : Vf.Bs) : Prop where
  bytes : BytesIn w v l
  out : ∀ a n c, v = .slice (some a) n c → l ≠ [] → a.block < base ∨ lim ≤ a.block
  room : ∀ a n c, v = .slice a n c → l ≠ [] → l.length ≤ c
theorem append_fs (h : FsIn base lim w b σ) (k : Vf.Bs) (hk : k.length ≤ 1000000) (v : Value) (l : Vf.Bs) (hs : σ.steps + l.length ≤ 90000000) (hv : Free base lim w v l) :
    Calls Tryz.prog 61 #[.pointer (some ⟨b, 0, none⟩), str k, v] w fun e w' => e = .returned (.int .i64 (Vf.appendE σ k l)) ∧ FsIn base w'.heap.size w' b (Vf.append σ k l) ∧ Below base w w' := by
  obtain ⟨S, hr, hS⟩ := h.rep
  refine (append_any w b σ S hr h.inv k hk v l hs ⟨hv.bytes, fun a n c e h0 hs' => ?_, hv.room⟩).mono ?_
  · have h1 := hS _ hs'
    have h2 := hv.out a n c e h0
    omega
  · rintro e w' ⟨rfl, h1, h2⟩
    exact ⟨rfl, h.after hS (h.inv.append k l).1 h1 h2⟩

theorem read_fs (h : FsIn base lim w b σ) (hs : σ.steps ≤ 90000000) (k : Vf.Bs) (hk : k.length ≤ 1000000) :
    Calls Tryz.prog 7 #[.pointer (some ⟨b, 0, none⟩), str k] w fun e w' => ∃ v', e = .returned (.tuple #[v', .int .i64 (Vf.findE σ k)]) ∧ w'.ownsRow w.heap.size 5 1 v' (Vf.read σ k).length (bc (Vf.read σ k)) ∧ FsIn base lim w' b σ ∧ Below w.heap.size w w' := by
  obtain ⟨S, hr, hS⟩ := h.rep
  refine (read_any w b σ S hr (ready h.inv (by omega)) k hk _ rfl).mono ?_
  rintro e w' ⟨v', rfl, h1, h2⟩
  exact ⟨v', rfl, h1, h.later h2, h2⟩
def namesOf (σ : Vf.St) : List Vf.Bs := if σ.on then rising (σ.held.map (·.1)) else []
theorem held_few (h : FsIn base lim w b σ) : σ.held.length ≤ σ.steps := by
  have h1 := Vf.play_length σ.pending σ.durable
  have h2 := h.inv.count
  rw [← h.inv.replay] at h1; omega
theorem names_fs (h : FsIn base lim w b σ) (hs : σ.steps ≤ 90000000) :
    Calls Tryz.prog 17 #[.pointer (some ⟨b, 0, none⟩)] w fun e w' => ∃ v, e = .returned v ∧ w'.ownsRow w.heap.size 9 1 v (namesOf σ).length ((namesOf σ).map str) ∧ FsIn base lim w' b σ ∧ Below w.heap.size w w' := by
  have hf := held_few h
  obtain ⟨S, hr, hS⟩ := h.rep
  refine (names_any w b σ S hr (by omega) _ rfl).mono ?_
  rintro e w' ⟨v, rfl, h1, h2⟩
  exact ⟨v, rfl, h1, h.later h2, h2⟩
theorem left_fs (h : FsIn base lim w b σ) (hs : σ.steps ≤ 90000000) :
    Calls Tryz.prog 32 #[.pointer (some ⟨b, 0, none⟩)] w fun e w' => e = .returned (.int .i64 (Vf.left σ)) ∧ FsIn base lim w' b σ ∧ Below w.heap.size w w' := by
  obtain ⟨S, hr, hS⟩ := h.rep
  refine (left_any w b σ S hr (ready h.inv (by omega)).used h.inv.room _ rfl).mono ?_
  rintro e w' ⟨rfl, h2⟩
  exact ⟨rfl, h.later h2, h2⟩
theorem on_fs (h : FsIn base lim w b σ) : Calls Tryz.prog 27 #[.pointer (some ⟨b, 0, none⟩)] w fun e w' => e = .returned (.bool σ.on) ∧ w' = w := by
  obtain ⟨S, hr, hS⟩ := h.rep
  exact on_any w b σ S hr
end
end Go.Proofs.YtlhnjloimhcpfabGreatDoor
