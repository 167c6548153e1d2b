/-
  The calls of a file system beside blocks that are none of its own and stay as they are. .. and what follows from it.
-/
import Derived.Test.YtlhnjloimhcpfabGreatDoorYM
import Derived.Test.YtlhnjloimhcpfabGreatDoorKWr
import Derived.Test.YtlhnjloimhcpfabGreatDoorVE
import Derived.Test.YtlhnjloimhcpfabGreatDoorYPR
namespace Go.Proofs.YtlhnjloimhcpfabGreatDoor
open Go.RowKit Go.Maps

/-- A file system that a call made for itself, beside protected blocks. -/
structure FsK (P : Nat → Prop) (base : Nat) (w : World) (b : Nat) (σ : Vf.St) : Prop where
  rep : ∃ S, Rep w b σ S ∧ ∀ i, S i → base ≤ i ∧ ¬ P i
  inv : Vf.Inv σ
  pro : ∀ i, P i → i < w.heap.size
  low : base ≤ w.heap.size
/-- What was there ahead of the call, and the protected blocks, are as they were. -/
structure Kp (P : Nat → Prop) (base : Nat) (w w' : World) : Prop where
  bel : Below base w w'
  keep : ∀ i, P i → w'.heap[i]? = w.heap[i]?

section
variable {P Q : Nat → Prop} {base : Nat} {w w' w2 : World} {b : Nat} {σ : Vf.St}
theorem Kp.trans (h : Kp P base w w') (k : Kp P base w' w2) : Kp P base w w2 := ⟨h.bel.trans k.bel, fun i hi => (k.keep i hi).trans (h.keep i hi)⟩
theorem Kp.narrow (h : Kp P base w w') (hq : ∀ i, Q i → P i) : Kp Q base w w' := ⟨h.bel, fun i hi => h.keep i (hq i hi)⟩
theorem Kp.later (hb : Below w.heap.size w w') (hl : base ≤ w.heap.size) (hp : ∀ i, P i → i < w.heap.size) : Kp P base w w' := ⟨hb.mono hl, fun i hi => hb.block i (hp i hi)⟩
theorem FsK.kp (h : FsK P base w b σ) (hb : Below w.heap.size w w') : Kp P base w w' := Kp.later hb h.low h.pro
theorem FsK.later (h : FsK P base w b σ) (hb : Below w.heap.size w w') : FsK P base w' b σ := by
  obtain ⟨S, hr, hS⟩ := h.rep
  exact ⟨⟨S, hr.later hb, hS⟩, h.inv, fun i hi => Nat.lt_of_lt_of_le (h.pro i hi) hb.size, Nat.le_trans h.low hb.size⟩
/-- All that came since is protected too. -/
theorem FsK.add (h : FsK P base w b σ) (hb : Below w.heap.size w w') : FsK (fun i => P i ∨ (w.heap.size ≤ i ∧ i < w'.heap.size)) base w' b σ := by
  obtain ⟨S, hr, hS⟩ := h.rep
  have hlow := hr.low
  refine ⟨⟨S, hr.later hb, fun i hi => ⟨(hS i hi).1, fun hp => ?_⟩⟩, h.inv, fun i hi => ?_, Nat.le_trans h.low hb.size⟩
  · rcases hp with hp | hp
    · exact (hS i hi).2 hp
    · have := hlow i hi; omega
  · rcases hi with hi | hi
    · exact Nat.lt_of_lt_of_le (h.pro i hi) hb.size
    · exact hi.2
theorem FsK.narrow (h : FsK P base w b σ) (hq : ∀ i, Q i → P i) : FsK Q base w b σ := by
  obtain ⟨S, hr, hS⟩ := h.rep
  exact ⟨⟨S, hr, fun i hi => ⟨(hS i hi).1, fun hp => (hS i hi).2 (hq i hp)⟩⟩, h.inv, fun i hi => h.pro i (hq i hi), h.low⟩
/-- A protected block may be turned by others. -/
theorem FsK.turn (h : FsK P base w b σ) {row : Nat} (hg : w.grownBy w' (some row)) (hp : P row) : FsK P base w' b σ := by
  obtain ⟨S, hr, hS⟩ := h.rep
  have hlow := hr.low
  refine ⟨⟨S, hr.same (fun i hi => hg.block i (hlow i hi) (fun e => ?_)) hg.size, hS⟩, h.inv, fun i hi => Nat.lt_of_lt_of_le (h.pro i hi) hg.size, Nat.le_trans h.low hg.size⟩
  have : i = row := Option.some.inj e
  subst this
  exact (hS i hi).2 hp
theorem FsK.after {S : Nat → Prop} {σ' : Vf.St} (h : FsK P base w b σ) (hS : ∀ i, S i → base ≤ i ∧ ¬ P i) (hi : Vf.Inv σ') (hr : Rep w' b σ' (grow S w w')) (hm : Moved S w w') : FsK P base w' b σ' ∧ Kp P base w w' :=
  ⟨⟨⟨_, hr, fun i h' => by
    have hl := h.low
    rcases h' with h' | h'
    · exact hS i h'
    · exact ⟨by omega, fun hp => by have := h.pro i hp; omega⟩⟩, hi, fun i hp => Nat.lt_of_lt_of_le (h.pro i hp) hm.size, Nat.le_trans h.low hm.size⟩, hm.under h.low (fun i hi => (hS i hi).1), fun i hp => hm.block i (h.pro i hp) (fun hs => (hS i hs).2 hp)⟩

theorem create_k (h : FsK P base w b σ) (hs : σ.steps ≤ 90000000) (k : Vf.Bs) (hk : k.length ≤ 1000000) :
    Calls Tryz.prog 79 #[.pointer (some ⟨b, 0, none⟩), str k] w fun e w' => e = .returned (.int .i64 (Vf.createE σ k)) ∧ FsK P base w' b (Vf.create σ k) ∧ Kp P base w w' := by
  obtain ⟨S, hr, hS⟩ := h.rep
  refine (create_any w b σ S hr (ready h.inv (by omega)) k hk _ rfl).mono ?_
  rintro e w' ⟨rfl, h1, h2⟩
  exact ⟨rfl, h.after hS (h.inv.create k) h1 h2⟩
theorem remove_k (h : FsK P base w b σ) (hs : σ.steps ≤ 90000000) (k : Vf.Bs) (hk : k.length ≤ 1000000) :
    Calls Tryz.prog 22 #[.pointer (some ⟨b, 0, none⟩), str k] w fun e w' => e = .returned (.int .i64 (Vf.removeE σ k)) ∧ FsK P base w' b (Vf.remove σ k) ∧ Kp P base w w' := by
  obtain ⟨S, hr, hS⟩ := h.rep
  refine (remove_any w b σ S hr (ready h.inv (by omega)) k hk _ rfl).mono ?_
  rintro e w' ⟨rfl, h1, h2⟩
  exact ⟨rfl, h.after hS (h.inv.remove k) h1 h2⟩
theorem sync_k (h : FsK P base w b σ) (hs : σ.steps ≤ 90000000) (k : Vf.Bs) (hk : k.length ≤ 1000000) :
    Calls Tryz.prog 62 #[.pointer (some ⟨b, 0, none⟩), str k] w fun e w' => e = .returned (.int .i64 (Vf.syncE σ k)) ∧ FsK P base w' b (Vf.sync σ k) ∧ Kp P base w w' := by
  obtain ⟨S, hr, hS⟩ := h.rep
  refine (sync_any w b σ S hr (ready h.inv (by omega)) k hk _ rfl).mono ?_
  rintro e w' ⟨rfl, h1, h2⟩
  exact ⟨rfl, h.after hS (h.inv.sync k) h1 h2⟩
theorem syncNames_k (h : FsK P base w b σ) (hs : σ.steps ≤ 90000000) :
    Calls Tryz.prog 49 #[.pointer (some ⟨b, 0, none⟩)] w fun e w' => e = .returned (.int .i64 (Vf.syncNamesE σ)) ∧ FsK P base w' b (Vf.syncNames σ) ∧ Kp P base w w' := by
  obtain ⟨S, hr, hS⟩ := h.rep
  refine (syncNames_any w b σ S hr (ready h.inv (by omega)) _ rfl).mono ?_
  rintro e w' ⟨rfl, h1, h2⟩
  exact ⟨rfl, h.after hS h.inv.syncNames h1 h2⟩
theorem rename_k (h : FsK P base w b σ) (hs : σ.steps ≤ 90000000) (k t : Vf.Bs) (hk : k.length ≤ 1000000) (ht : t.length ≤ 1000000) :
    Calls Tryz.prog 50 #[.pointer (some ⟨b, 0, none⟩), str k, str t] w fun e w' => e = .returned (.int .i64 (Vf.renameE σ k t)) ∧ FsK P base w' b (Vf.rename σ k t) ∧ Kp P base w w' := by
  obtain ⟨S, hr, hS⟩ := h.rep
  refine (rename_any w b σ S hr (ready h.inv (by omega)) k t hk ht _ rfl).mono ?_
  rintro e w' ⟨rfl, h1, h2⟩
  exact ⟨rfl, h.after hS (h.inv.rename k t) h1 h2⟩
/-- Bytes in a protected block, or in none. -/
structure Held (P : Nat → Prop) (w : World) (v : Value) (l : Vf.Bs) : Prop where
  bytes : BytesIn w v l
  out : ∀ a n c, v = .slice (some a) n c → l ≠ [] → P a.block
  room : ∀ a n c, v = .slice a n c → l ≠ [] → l.length ≤ c
theorem append_kk (h : FsK P base w b σ) (k : Vf.Bs) (hk : k.length ≤ 1000000) (v : Value) (l : Vf.Bs) (hs : σ.steps + l.length ≤ 90000000) (hv : Held P w v l) :
    Calls Tryz.prog 61 #[.pointer (some ⟨b, 0, none⟩), str k, v] w fun e w' => e = .returned (.int .i64 (Vf.appendE σ k l)) ∧ FsK P base w' b (Vf.append σ k l) ∧ Kp P base w w' := by
  obtain ⟨S, hr, hS⟩ := h.rep
  refine (append_any w b σ S hr h.inv k hk v l hs ⟨hv.bytes, fun a n c e h0 hs' => (hS _ hs').2 (hv.out a n c e h0), hv.room⟩).mono ?_
  rintro e w' ⟨rfl, h1, h2⟩
  exact ⟨rfl, h.after hS (h.inv.append k l).1 h1 h2⟩
theorem readf_k (h : FsK P base w b σ) (hs : σ.steps ≤ 90000000) (k : Vf.Bs) (hk : k.length ≤ 1000000) :
    Calls Tryz.prog 7 #[.pointer (some ⟨b, 0, none⟩), str k] w fun e w' => ∃ v', e = .returned (.tuple #[v', .int .i64 (Vf.findE σ k)]) ∧ w'.ownsRow w.heap.size 5 1 v' (Vf.read σ k).length (bc (Vf.read σ k)) ∧ Below w.heap.size w w' := by
  obtain ⟨S, hr, hS⟩ := h.rep
  exact read_any w b σ S hr (ready h.inv (by omega)) k hk _ rfl
theorem left_k (h : FsK P base w b σ) (hs : σ.steps ≤ 90000000) :
    Calls Tryz.prog 32 #[.pointer (some ⟨b, 0, none⟩)] w fun e w' => e = .returned (.int .i64 (Vf.left σ)) ∧ Below w.heap.size w w' := by
  obtain ⟨S, hr, hS⟩ := h.rep
  exact left_any w b σ S hr (ready h.inv (by omega)).used h.inv.room _ rfl
theorem on_k (h : FsK P base w b σ) : Calls Tryz.prog 27 #[.pointer (some ⟨b, 0, none⟩)] w fun e w' => e = .returned (.bool σ.on) ∧ w' = w := by
  obtain ⟨S, hr, hS⟩ := h.rep
  exact on_any w b σ S hr
end
end Go.Proofs.YtlhnjloimhcpfabGreatDoor
namespace Go.Proofs.YtlhnjloimhcpfabGreatDoor
open Go.RowKit Go.Maps

namespace Mf
def appE (σ : Vf.St) (k l : Bs) : Int := if Vf.appendE σ k l = 0 then Vf.syncE (Vf.append σ k l) k else Vf.appendE σ k l
def appS (σ : Vf.St) (k l : Bs) : Vf.St := if Vf.appendE σ k l = 0 then Vf.sync (Vf.append σ k l) k else Vf.append σ k l
def wrE (σ : Vf.St) (k l : Bs) : Int := if Vf.removeE σ k ≠ 0 ∧ Vf.removeE σ k ≠ 4 then Vf.removeE σ k else if Vf.createE (Vf.remove σ k) k = 0 then appE (Vf.create (Vf.remove σ k) k) k l else Vf.createE (Vf.remove σ k) k
def wrS (σ : Vf.St) (k l : Bs) : Vf.St := if Vf.removeE σ k ≠ 0 ∧ Vf.removeE σ k ≠ 4 then Vf.remove σ k else if Vf.createE (Vf.remove σ k) k = 0 then appS (Vf.create (Vf.remove σ k) k) k l else Vf.create (Vf.remove σ k) k
theorem appS_inv {σ : Vf.St} (h : Vf.Inv σ) (k l : Bs) : Vf.Inv (appS σ k l) := by
  unfold appS
  split
  · exact (h.append k l).1.sync k
  · exact (h.append k l).1
theorem appS_steps {σ : Vf.St} (h : Vf.Inv σ) (k l : Bs) : (appS σ k l).steps ≤ σ.steps + l.length + 2 := by
  have h1 := (h.append k l).2
  have h2 := Vf.sync_steps (Vf.append σ k l) k
  unfold appS
  split <;> omega
theorem wrS_inv {σ : Vf.St} (h : Vf.Inv σ) (k l : Bs) : Vf.Inv (wrS σ k l) := by
  unfold wrS
  split
  · exact h.remove k
  · split
    · exact appS_inv ((h.remove k).create k) k l
    · exact (h.remove k).create k
theorem wrS_steps {σ : Vf.St} (h : Vf.Inv σ) (k l : Bs) : (wrS σ k l).steps ≤ σ.steps + l.length + 4 := by
  have h1 := Vf.remove_steps σ k
  have h2 := Vf.create_steps (Vf.remove σ k) k
  have h3 := appS_steps ((h.remove k).create k) k l
  unfold wrS
  split
  · omega
  · split <;> omega
end Mf

theorem Held.kept {P : Nat → Prop} {base : Nat} {w w' : World} {v : Value} {l : Vf.Bs} (h : Held P w v l) (k : Kp P base w w') : Held P w' v l := by
  refine ⟨?_, h.out, h.room⟩
  obtain ⟨⟨a, c, e, hf⟩, hl⟩ := h.bytes
  refine ⟨⟨a, c, e, fun h0 => ?_⟩, hl⟩
  obtain ⟨B, off, ha, hat⟩ := hf h0
  refine ⟨B, off, ha, fun j hj => ?_⟩
  have hp : P B := by have := h.out ⟨B, off, none⟩ _ _ (by rw [e, ha]) h0; exact this
  have := hat j hj
  rw [← this]
  exact World.cell?_of_block (k.keep B hp)

section
variable {P : Nat → Prop} {base : Nat} {w : World} {b : Nat} {σ : Vf.St}
set_option maxRecDepth 100000 in
set_option maxHeartbeats 2000000 in
theorem appended_k (h : FsK P base w b σ) (k : Vf.Bs) (hk : k.length ≤ 1000000) (a : Option Addr) (n c : Nat) (l : Vf.Bs) (hs : σ.steps + l.length ≤ 80000000) (hv : Held P w (.slice a n c) l) :
    Calls Tryz.prog 33 #[.pointer (some ⟨b, 0, none⟩), str k, .slice a n c] w fun e w' => e = .returned (.int .i64 (Mf.appE σ k l)) ∧ FsK P base w' b (Mf.appS σ k l) ∧ Kp P base w w' := by
  have AP := append_kk h k hk (.slice a n c) l (by omega) hv
  have hst := (h.inv.append k l).2
  have SY : Hid (∀ wx, FsK P base wx b (Vf.append σ k l) → Calls Tryz.prog 62 #[.pointer (some ⟨b, 0, none⟩), str k] wx fun e w' => e = .returned (.int .i64 (Vf.syncE (Vf.append σ k l) k)) ∧ FsK P base w' b (Vf.sync (Vf.append σ k l) k) ∧ Kp P base wx w') := fun wx hx => sync_k hx (by omega) k hk
  by_cases hE : Vf.appendE σ k l = 0
  · have H1 : Hid (Mf.appE σ k l = Vf.syncE (Vf.append σ k l) k) := if_pos hE
    have H2 : Hid (Mf.appS σ k l = Vf.sync (Vf.append σ k l) k) := if_pos hE
    rw [H1.out, H2.out]
    rw [hE] at AP
    generalize Vf.syncE (Vf.append σ k l) k = E at SY
    clear hE h hv hst hs H1 H2
    go_enter Tryz.func33, Tryz.ntmps33
    go_wp2_with (first
      | (go_at_call 61; refine AP.mono ?_; rintro e w1 ⟨rfl, f1, k1⟩; clear AP)
      | (go_at_call 62; refine (SY.out _ f1).mono ?_; rintro e w2 ⟨rfl, f2, k2⟩; clear SY))
    go_ret
    exact ⟨rfl, f2, k1.trans k2⟩
  · have H1 : Hid (Mf.appE σ k l = Vf.appendE σ k l) := if_neg hE
    have H2 : Hid (Mf.appS σ k l = Vf.append σ k l) := if_neg hE
    rw [H1.out, H2.out]
    have i1 : (Vf.appendE σ k l != 0) = true := by simpa using hE
    generalize Vf.appendE σ k l = E at AP i1
    clear hE h hv hst hs H1 H2 SY
    go_enter Tryz.func33, Tryz.ntmps33
    go_wp2_with (go_at_call 61; refine AP.mono ?_; rintro e w1 ⟨rfl, f1, k1⟩; clear AP)
    go_ret
    exact ⟨rfl, f1, k1⟩

set_option maxRecDepth 100000 in
set_option maxHeartbeats 2000000 in
theorem written_k (h : FsK P base w b σ) (k : Vf.Bs) (hk : k.length ≤ 1000000) (a : Option Addr) (n c : Nat) (l : Vf.Bs) (hs : σ.steps + l.length ≤ 70000000) (hv : Held P w (.slice a n c) l) :
    Calls Tryz.prog 46 #[.pointer (some ⟨b, 0, none⟩), str k, .slice a n c] w fun e w' => e = .returned (.int .i64 (Mf.wrE σ k l)) ∧ FsK P base w' b (Mf.wrS σ k l) ∧ Kp P base w w' := by
  have RM := remove_k h (by omega) k hk
  have s1 := Vf.remove_steps σ k
  have s2 := Vf.create_steps (Vf.remove σ k) k
  have CR : Hid (∀ wx, FsK P base wx b (Vf.remove σ k) → Calls Tryz.prog 79 #[.pointer (some ⟨b, 0, none⟩), str k] wx fun e w' => e = .returned (.int .i64 (Vf.createE (Vf.remove σ k) k)) ∧ FsK P base w' b (Vf.create (Vf.remove σ k) k) ∧ Kp P base wx w') := fun wx hx => create_k hx (by omega) k hk
  have AP : Hid (∀ wx, FsK P base wx b (Vf.create (Vf.remove σ k) k) → Kp P base w wx → Calls Tryz.prog 33 #[.pointer (some ⟨b, 0, none⟩), str k, .slice a n c] wx fun e w' => e = .returned (.int .i64 (Mf.appE (Vf.create (Vf.remove σ k) k) k l)) ∧ FsK P base w' b (Mf.appS (Vf.create (Vf.remove σ k) k) k l) ∧ Kp P base wx w') := fun wx hx kp => appended_k hx k hk a n c l (by omega) (hv.kept kp)
  by_cases hR : Vf.removeE σ k ≠ 0 ∧ Vf.removeE σ k ≠ 4
  · have H1 : Hid (Mf.wrE σ k l = Vf.removeE σ k) := if_pos hR
    have H2 : Hid (Mf.wrS σ k l = Vf.remove σ k) := if_pos hR
    rw [H1.out, H2.out]
    have i1 : (Vf.removeE σ k != 0) = true := by simpa using hR.1
    have i2 : (Vf.removeE σ k != 4) = true := by simpa using hR.2
    generalize Vf.removeE σ k = E at RM i1 i2
    clear hR h hv hs H1 H2 CR AP s1 s2
    go_enter Tryz.func46, Tryz.ntmps46
    go_wp2_with (go_at_call 22; refine RM.mono ?_; rintro e w1 ⟨rfl, f1, k1⟩; clear RM)
    go_ret
    exact ⟨rfl, f1, k1⟩
  · have hE : Vf.removeE σ k = 0 ∨ Vf.removeE σ k = 4 := by omega
    by_cases hC : Vf.createE (Vf.remove σ k) k = 0
    · have H1 : Hid (Mf.wrE σ k l = Mf.appE (Vf.create (Vf.remove σ k) k) k l) := by show _ = _; unfold Mf.wrE; rw [if_neg hR, if_pos hC]
      have H2 : Hid (Mf.wrS σ k l = Mf.appS (Vf.create (Vf.remove σ k) k) k l) := by show _ = _; unfold Mf.wrS; rw [if_neg hR, if_pos hC]
      rw [H1.out, H2.out]
      rw [hC] at CR
      generalize Mf.appE (Vf.create (Vf.remove σ k) k) k l = E at AP
      generalize Vf.removeE σ k = ER at RM hE
      clear hR h hv hs H1 H2 s1 s2 hC
      rcases hE with rfl | rfl <;>
      · go_enter Tryz.func46, Tryz.ntmps46
        go_wp2_with (first
          | (go_at_call 22; refine RM.mono ?_; rintro e w1 ⟨rfl, f1, k1⟩; clear RM)
          | (go_at_call 79; refine (CR.out _ f1).mono ?_; rintro e w2 ⟨rfl, f2, k2⟩; have k12 := k1.trans k2; clear CR)
          | (go_at_call 33; refine (AP.out _ f2 k12).mono ?_; rintro e w3 ⟨rfl, f3, k3⟩; clear AP))
        go_ret
        exact ⟨rfl, f3, k12.trans k3⟩
    · have H1 : Hid (Mf.wrE σ k l = Vf.createE (Vf.remove σ k) k) := by show _ = _; unfold Mf.wrE; rw [if_neg hR, if_neg hC]
      have H2 : Hid (Mf.wrS σ k l = Vf.create (Vf.remove σ k) k) := by show _ = _; unfold Mf.wrS; rw [if_neg hR, if_neg hC]
      rw [H1.out, H2.out]
      have i1 : (Vf.createE (Vf.remove σ k) k != 0) = true := by simpa using hC
      generalize Vf.createE (Vf.remove σ k) k = E at CR i1
      generalize Vf.removeE σ k = ER at RM hE
      clear hR h hv hs H1 H2 s1 s2 hC AP
      rcases hE with rfl | rfl <;>
      · go_enter Tryz.func46, Tryz.ntmps46
        go_wp2_with (first
          | (go_at_call 22; refine RM.mono ?_; rintro e w1 ⟨rfl, f1, k1⟩; clear RM)
          | (go_at_call 79; refine (CR.out _ f1).mono ?_; rintro e w2 ⟨rfl, f2, k2⟩; have k12 := k1.trans k2; clear CR))
        go_ret
        exact ⟨rfl, f2, k12⟩
end
end Go.Proofs.YtlhnjloimhcpfabGreatDoor
