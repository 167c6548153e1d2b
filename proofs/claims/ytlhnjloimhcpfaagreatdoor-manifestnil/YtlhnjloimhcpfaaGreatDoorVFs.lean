/-
  The calls of a file system that a call made for itself: all that it has lies in blocks from a base on, none of them at or behind a limit.
-/
import Derived.Test.YtlhnjloimhcpfaaGreatDoorVAppend
import Derived.Test.YtlhnjloimhcpfaaGreatDoorVAlter
namespace Go.Proofs.YtlhnjloimhcpfaaGreatDoor
open Go.RowKit Go.Maps Go.Sort

structure FsIn (base lim : Nat) (w : World) (b : Nat) (σ : Vf.St) : Prop where
  rep : ∃ S, Rep w b σ S ∧ ∀ i, S i → base ≤ i ∧ i < lim
  inv : Vf.Inv σ
  low : base ≤ w.heap.size
  lim : lim ≤ w.heap.size

theorem FsIn.later {base lim : Nat} {w w' : World} {b : Nat} {σ : Vf.St} (h : FsIn base lim w b σ) (hb : Below w.heap.size w w') : FsIn base lim w' b σ := by
  obtain ⟨S, hr, hS⟩ := h.rep
  exact ⟨⟨S, hr.later hb, hS⟩, h.inv, Nat.le_trans h.low hb.size, Nat.le_trans h.lim hb.size⟩

theorem FsIn.after {base lim : Nat} {w w' : World} {b : Nat} {σ σ' : Vf.St} {S : Nat → Prop} (h : FsIn base lim w b σ) (hS : ∀ i, S i → base ≤ i ∧ i < lim) (hi : Vf.Inv σ') (hr : Rep w' b σ' (grow S w w')) (hm : Moved S w w') : FsIn base w'.heap.size w' b σ' ∧ Below base w w' :=
  ⟨⟨⟨_, hr, fun i h' => ⟨by
    have hl := h.low
    rcases h' with h' | h'
    · exact (hS i h').1
    · omega, hr.low i h'⟩⟩, hi, Nat.le_trans h.low hm.size, Nat.le_refl _⟩, hm.under h.low (fun i hi => (hS i hi).1)⟩
theorem FsIn.after' {base lim : Nat} {w w' : World} {b : Nat} {σ σ' : Vf.St} {S : Nat → Prop} (h : FsIn base lim w b σ) (hS : ∀ i, S i → base ≤ i ∧ i < lim) (hi : Vf.Inv σ') (hr : Rep w' b σ' S) (hm : Moved S w w') : FsIn base w'.heap.size w' b σ' ∧ Below base w w' := h.after hS hi hr.grow1 hm

section
variable {base lim : Nat} {w : World} {b : Nat} {σ : Vf.St}
theorem create_fs (h : FsIn base lim w b σ) (hs : σ.steps ≤ 90000000) (k : Vf.Bs) (hk : k.length ≤ 1000000) :
    Calls Tryz.prog 164 #[.pointer (some ⟨b, 0, none⟩), str k] w fun e w' => e = .returned (.int .i64 (Vf.createE σ k)) ∧ FsIn base w'.heap.size w' b (Vf.create σ k) ∧ Below base w w' := by
  obtain ⟨S, hr, hS⟩ := h.rep
  refine (create_any w b σ S hr (ready h.inv (by omega)) k hk _ rfl).mono ?_
  rintro e w' ⟨rfl, h1, h2⟩
  exact ⟨rfl, h.after hS (h.inv.create k) h1 h2⟩
theorem remove_fs (h : FsIn base lim w b σ) (hs : σ.steps ≤ 90000000) (k : Vf.Bs) (hk : k.length ≤ 1000000) :
    Calls Tryz.prog 50 #[.pointer (some ⟨b, 0, none⟩), str k] w fun e w' => e = .returned (.int .i64 (Vf.removeE σ k)) ∧ FsIn base w'.heap.size w' b (Vf.remove σ k) ∧ Below base w w' := by
  obtain ⟨S, hr, hS⟩ := h.rep
  refine (remove_any w b σ S hr (ready h.inv (by omega)) k hk _ rfl).mono ?_
  rintro e w' ⟨rfl, h1, h2⟩
  exact ⟨rfl, h.after hS (h.inv.remove k) h1 h2⟩
theorem sync_fs (h : FsIn base lim w b σ) (hs : σ.steps ≤ 90000000) (k : Vf.Bs) (hk : k.length ≤ 1000000) :
    Calls Tryz.prog 115 #[.pointer (some ⟨b, 0, none⟩), str k] w fun e w' => e = .returned (.int .i64 (Vf.syncE σ k)) ∧ FsIn base w'.heap.size w' b (Vf.sync σ k) ∧ Below base w w' := by
  obtain ⟨S, hr, hS⟩ := h.rep
  refine (sync_any w b σ S hr (ready h.inv (by omega)) k hk _ rfl).mono ?_
  rintro e w' ⟨rfl, h1, h2⟩
  exact ⟨rfl, h.after hS (h.inv.sync k) h1 h2⟩
theorem syncNames_fs (h : FsIn base lim w b σ) (hs : σ.steps ≤ 90000000) :
    Calls Tryz.prog 103 #[.pointer (some ⟨b, 0, none⟩)] w fun e w' => e = .returned (.int .i64 (Vf.syncNamesE σ)) ∧ FsIn base w'.heap.size w' b (Vf.syncNames σ) ∧ Below base w w' := by
  obtain ⟨S, hr, hS⟩ := h.rep
  refine (syncNames_any w b σ S hr (ready h.inv (by omega)) _ rfl).mono ?_
  rintro e w' ⟨rfl, h1, h2⟩
  exact ⟨rfl, h.after hS h.inv.syncNames h1 h2⟩
theorem rename_fs (h : FsIn base lim w b σ) (hs : σ.steps ≤ 90000000) (k t : Vf.Bs) (hk : k.length ≤ 1000000) (ht : t.length ≤ 1000000) :
    Calls Tryz.prog 104 #[.pointer (some ⟨b, 0, none⟩), str k, str t] w fun e w' => e = .returned (.int .i64 (Vf.renameE σ k t)) ∧ FsIn base w'.heap.size w' b (Vf.rename σ k t) ∧ Below base w w' := by
  obtain ⟨S, hr, hS⟩ := h.rep
  refine (rename_any w b σ S hr (ready h.inv (by omega)) k t hk ht _ rfl).mono ?_
  rintro e w' ⟨rfl, h1, h2⟩
  exact ⟨rfl, h.after hS (h.inv.rename k t) h1 h2⟩
theorem crash_fs (h : FsIn base lim w b σ) (hs : σ.steps ≤ 90000000) (k t : Nat) :
    Calls Tryz.prog 82 #[.pointer (some ⟨b, 0, none⟩), .int .i64 (k : Int), .int .i64 (t : Int)] w fun e w' => e = .returned (.int .i64 0) ∧ FsIn base w'.heap.size w' b (Vf.crash σ k t) ∧ Below base w w' := by
  obtain ⟨S, hr, hS⟩ := h.rep
  refine (crash_good w b σ S hr h.inv (by omega) k t).mono ?_
  rintro e w' ⟨rfl, h1, h2⟩
  exact ⟨rfl, h.after hS (h.inv.crash k t) h1 h2⟩
theorem fuse_fs (h : FsIn base lim w b σ) (n : Int) (hn : n ≤ 9223372036854775807) :
    Calls Tryz.prog 45 #[.pointer (some ⟨b, 0, none⟩), .int .i64 n] w fun e w' => e = .returned (.int .i64 (Vf.fuseE σ n)) ∧ FsIn base w'.heap.size w' b (Vf.setFuse σ n) ∧ Below base w w' := by
  obtain ⟨S, hr, hS⟩ := h.rep
  refine (fuse_any w b σ S hr n _ rfl).mono ?_
  rintro e w' ⟨rfl, h1, h2⟩
  exact ⟨rfl, h.after' hS (h.inv.setFuse n hn) h1 h2⟩
theorem alter_fs (h : FsIn base lim w b σ) (hs : σ.steps ≤ 90000000) (k : Vf.Bs) (hk : k.length ≤ 1000000) (at_ : Int) (bits : UInt8) :
    Calls Tryz.prog 86 #[.pointer (some ⟨b, 0, none⟩), str k, .int .i64 at_, .int .u8 (bits.toNat : Int)] w fun e w' => e = .returned (.int .i64 (Vf.alterE σ k at_)) ∧ FsIn base w'.heap.size w' b (Vf.alter σ k at_ bits) ∧ Below base w w' := by
  obtain ⟨S, hr, hS⟩ := h.rep
  refine (alter_any w b σ S hr h.inv (by omega) k hk at_ bits _ rfl).mono ?_
  rintro e w' ⟨rfl, h1, h2⟩
  exact ⟨rfl, h.after' hS (h.inv.alter k at_ bits) h1 h2⟩
/-- Bytes in memory that the file system has not. -/
structure Free (base lim : Nat) (w : World) (v : Value) (l : Vf.Bs) : Prop where
  bytes : BytesIn w v l
  out : ∀ a n c, v = .slice (some a) n c → l ≠ [] → a.block < base ∨ lim ≤ a.block
  room : ∀ a n c, v = .slice a n c → l ≠ [] → l.length ≤ c
theorem append_fs (h : FsIn base lim w b σ) (k : Vf.Bs) (hk : k.length ≤ 1000000) (v : Value) (l : Vf.Bs) (hs : σ.steps + l.length ≤ 90000000) (hv : Free base lim w v l) :
    Calls Tryz.prog 114 #[.pointer (some ⟨b, 0, none⟩), str k, v] w fun e w' => e = .returned (.int .i64 (Vf.appendE σ k l)) ∧ FsIn base w'.heap.size w' b (Vf.append σ k l) ∧ Below base w w' := by
  obtain ⟨S, hr, hS⟩ := h.rep
  refine (append_any w b σ S hr h.inv k hk v l hs ⟨hv.bytes, fun a n c e h0 hs' => ?_, hv.room⟩).mono ?_
  · have h1 := hS _ hs'
    have h2 := hv.out a n c e h0
    omega
  · rintro e w' ⟨rfl, h1, h2⟩
    exact ⟨rfl, h.after hS (h.inv.append k l).1 h1 h2⟩

theorem read_fs (h : FsIn base lim w b σ) (hs : σ.steps ≤ 90000000) (k : Vf.Bs) (hk : k.length ≤ 1000000) :
    Calls Tryz.prog 93 #[.pointer (some ⟨b, 0, none⟩), str k] w fun e w' => ∃ v', e = .returned (.tuple #[v', .int .i64 (Vf.findE σ k)]) ∧ w'.ownsRow w.heap.size 5 1 v' (Vf.read σ k).length (bc (Vf.read σ k)) ∧ FsIn base lim w' b σ ∧ Below w.heap.size w w' := by
  obtain ⟨S, hr, hS⟩ := h.rep
  refine (read_any w b σ S hr (ready h.inv (by omega)) k hk _ rfl).mono ?_
  rintro e w' ⟨v', rfl, h1, h2⟩
  exact ⟨v', rfl, h1, h.later h2, h2⟩
def namesOf (σ : Vf.St) : List Vf.Bs := if σ.on then rising (σ.held.map (·.1)) else []
theorem held_few (h : FsIn base lim w b σ) : σ.held.length ≤ σ.steps := by
  have h1 := Vf.play_length σ.pending σ.durable
  have h2 := h.inv.count
  rw [← h.inv.replay] at h1; omega
theorem names_fs (h : FsIn base lim w b σ) (hs : σ.steps ≤ 90000000) :
    Calls Tryz.prog 18 #[.pointer (some ⟨b, 0, none⟩)] w fun e w' => ∃ v, e = .returned v ∧ w'.ownsRow w.heap.size 9 1 v (namesOf σ).length ((namesOf σ).map str) ∧ FsIn base lim w' b σ ∧ Below w.heap.size w w' := by
  have hf := held_few h
  obtain ⟨S, hr, hS⟩ := h.rep
  refine (names_any w b σ S hr (by omega) _ rfl).mono ?_
  rintro e w' ⟨v, rfl, h1, h2⟩
  exact ⟨v, rfl, h1, h.later h2, h2⟩
theorem left_fs (h : FsIn base lim w b σ) (hs : σ.steps ≤ 90000000) :
    Calls Tryz.prog 57 #[.pointer (some ⟨b, 0, none⟩)] w fun e w' => e = .returned (.int .i64 (Vf.left σ)) ∧ FsIn base lim w' b σ ∧ Below w.heap.size w w' := by
  obtain ⟨S, hr, hS⟩ := h.rep
  refine (left_any w b σ S hr (ready h.inv (by omega)).used h.inv.room _ rfl).mono ?_
  rintro e w' ⟨rfl, h2⟩
  exact ⟨rfl, h.later h2, h2⟩
theorem pending_fs (h : FsIn base lim w b σ) : Calls Tryz.prog 91 #[.pointer (some ⟨b, 0, none⟩)] w fun e w' => e = .returned (.int .i64 (σ.pending.length : Int)) ∧ w' = w := by
  obtain ⟨S, hr, hS⟩ := h.rep
  exact pending_any w b σ S hr
theorem steps_fs (h : FsIn base lim w b σ) : Calls Tryz.prog 90 #[.pointer (some ⟨b, 0, none⟩)] w fun e w' => e = .returned (.int .i64 (σ.steps : Int)) ∧ w' = w := by
  obtain ⟨S, hr, hS⟩ := h.rep
  exact steps_any w b σ S hr
theorem on_fs (h : FsIn base lim w b σ) : Calls Tryz.prog 52 #[.pointer (some ⟨b, 0, none⟩)] w fun e w' => e = .returned (.bool σ.on) ∧ w' = w := by
  obtain ⟨S, hr, hS⟩ := h.rep
  exact on_any w b σ S hr
theorem crash_bad_fs (h : FsIn base lim w b σ) (k t : Int) (hk : k < 0 ∨ t < 0) : Calls Tryz.prog 82 #[.pointer (some ⟨b, 0, none⟩), .int .i64 k, .int .i64 t] w fun e w' => e = .returned (.int .i64 2) ∧ w' = w := by
  obtain ⟨S, hr, hS⟩ := h.rep
  exact crash_bad w b σ S hr k t hk
end
end Go.Proofs.YtlhnjloimhcpfaaGreatDoor
