/-
  What the walks of VfsSynced share.
-/
import Derived.Test.YtclokpkhkokfhaaVSyncP
import Derived.Test.YtclokpkhkokfhaaVLives
import Derived.Test.YtclokpkhkokfhaaKCopy
import Derived.Test.YtclokpkhkokfhaaKApp
import Derived.Test.YtclokpkhkokfhaaKSame
import Derived.Test.YtclokpkhkokfhaaKRecsArg
namespace Go.Proofs.Ytclokpkhkokfhaa.vfsSynced
open Go.ChangeShapes Go.WideShapes Go.ChangeAt Go.RowKit Go.Maps Go.Sort Go.Shelf

theorem walk_off (w : World) (a : Option Addr) (n cap : Nat) (fuse k t : Int) (h : n > 100 ∨ k < 0 ∨ t < 0) :
    Calls Try.prog 5 #[.slice a n cap, .int .i64 fuse, .int .i64 k, .int .i64 t] w fun e w' => e = .returned (.bool true) ∧ Below w.heap.size w w' := by
  have LV := lives_any
  by_cases h1 : (n : Int) > 100
  · clear h
    go_enter Try.func5, Try.ntmps5
    go_wp2_with (go_at_call 9; refine (LV _).mono ?_; rintro e w1 ⟨rfl, b1⟩)
    go_ret
    exact ⟨rfl, b1⟩
  by_cases h3 : k < 0
  · clear h
    go_enter Try.func5, Try.ntmps5
    go_wp2_with (go_at_call 9; refine (LV _).mono ?_; rintro e w1 ⟨rfl, b1⟩)
    go_ret
    exact ⟨rfl, b1⟩
  · have h4 : t < 0 := by omega
    clear h
    go_enter Try.func5, Try.ntmps5
    go_wp2_with (go_at_call 9; refine (LV _).mono ?_; rintro e w1 ⟨rfl, b1⟩)
    go_ret
    exact ⟨rfl, b1⟩

/-- Between two rounds. -/
structure SyncI (w : World) (b : Nat) (wr : World) (τ : Vf.St) (A U : Vf.Bs) (va vs : Value) (S : Nat → Prop) : Prop where
  rep : Rep wr b τ S
  low : ∀ i, S i → w.heap.size ≤ i
  bel : Below w.heap.size w wr
  oa : wr.ownsRow w.heap.size 5 1 va A.length (bc A)
  os : wr.ownsRow w.heap.size 5 1 vs U.length (bc U)
  na : ∀ g, va.ownBlock = some g → ¬ S g
  ns : ∀ g, vs.ownBlock = some g → ¬ S g
theorem own_lt {w : World} {base n : Nat} {v : Value} {xs : List Value} (h : w.ownsRow base 5 1 v n xs) {g : Nat} (hg : v.ownBlock = some g) : g < w.heap.size := (h.lt g hg).2
theorem SyncI.later {w : World} {b : Nat} {wr wn : World} {τ : Vf.St} {A U : Vf.Bs} {va vs : Value} {S : Nat → Prop} (h : SyncI w b wr τ A U va vs S) (hb : Below wr.heap.size wr wn) : SyncI w b wn τ A U va vs S :=
  ⟨h.rep.later hb, h.low, h.bel.trans (hb.mono h.bel.size), own_later h.oa hb, own_later h.os hb, h.na, h.ns⟩
theorem SyncI.moved {w : World} {b : Nat} {wr wn : World} {τ τ' : Vf.St} {A U : Vf.Bs} {va vs : Value} {S : Nat → Prop} (h : SyncI w b wr τ A U va vs S) (hr : Rep wn b τ' (grow S wr wn)) (hm : Moved S wr wn) : SyncI w b wn τ' A U va vs (grow S wr wn) := by
  have hz := h.bel.size
  refine ⟨hr, fun i hi => ?_, h.bel.trans (hm.under hz h.low), ownsRow_same h.oa fun g hg => hm.block g (own_lt h.oa hg) (h.na g hg), ownsRow_same h.os fun g hg => hm.block g (own_lt h.os hg) (h.ns g hg), fun g hg hi => ?_, fun g hg hi => ?_⟩
  · rcases hi with hi | hi
    · exact h.low i hi
    · omega
  · rcases hi with hi | hi
    · exact h.na g hg hi
    · have := own_lt h.oa hg; omega
  · rcases hi with hi | hi
    · exact h.ns g hg hi
    · have := own_lt h.os hg; omega
/-- New lists in their place: blocks that came behind what the file system has. -/
theorem SyncI.newA {w : World} {b : Nat} {wr : World} {τ : Vf.St} {A U A' : Vf.Bs} {va vs va' : Value} {S : Nat → Prop} (h : SyncI w b wr τ A U va vs S) (ho : wr.ownsRow w.heap.size 5 1 va' A'.length (bc A')) (hn : ∀ g, va'.ownBlock = some g → ¬ S g) : SyncI w b wr τ A' U va' vs S := ⟨h.rep, h.low, h.bel, ho, h.os, hn, h.ns⟩
theorem SyncI.newS {w : World} {b : Nat} {wr : World} {τ : Vf.St} {A U U' : Vf.Bs} {va vs vs' : Value} {S : Nat → Prop} (h : SyncI w b wr τ A U va vs S) (ho : wr.ownsRow w.heap.size 5 1 vs' U'.length (bc U')) (hn : ∀ g, vs'.ownBlock = some g → ¬ S g) : SyncI w b wr τ A U' va vs' S := ⟨h.rep, h.low, h.bel, h.oa, ho, h.na, hn⟩

/-- The calls in a round, and behind the loop. -/
theorem sync_i {w : World} {b : Nat} {wr : World} {τ : Vf.St} {A U : Vf.Bs} {va vs : Value} {S : Nat → Prop} (h : SyncI w b wr τ A U va vs S) (i : Vf.Inv τ) (hs : τ.steps ≤ 10000) (E : Int) (HE : Hid (E = Vf.syncE τ Vf.Syn.log)) :
    Calls Try.prog 15 #[.pointer (some ⟨b, 0, none⟩), .string ⟨#[108, 111, 103]⟩] wr fun e w' => e = .returned (.int .i64 E) ∧ SyncI w b w' (Vf.sync τ Vf.Syn.log) A U va vs (grow S wr w') := by
  refine (sync_any wr b τ S h.rep (ready i (by omega)) Vf.Syn.log (by decide) E HE).mono ?_
  rintro e w' ⟨rfl, h1, h2⟩
  exact ⟨rfl, h.moved h1 h2⟩
theorem append_i {w : World} {b : Nat} {wr : World} {τ : Vf.St} {A U : Vf.Bs} {va vs : Value} {S : Nat → Prop} (h : SyncI w b wr τ A U va vs S) (i : Vf.Inv τ) (hs : τ.steps ≤ 10000) (v : Value) (p : Vf.Bs) (hp : p.length ≤ 400) (hv : BytesIn w v p) (hr : ∀ a n c, v = .slice a n c → p.length ≤ c) (E : Int) (HE : Hid (E = Vf.appendE τ Vf.Syn.log p)) :
    Calls Try.prog 11 #[.pointer (some ⟨b, 0, none⟩), .string ⟨#[108, 111, 103]⟩, v] wr fun e w' => e = .returned (.int .i64 E) ∧ SyncI w b w' (Vf.append τ Vf.Syn.log p) A U va vs (grow S wr w') := by
  have := append_any wr b τ S h.rep i Vf.Syn.log (by decide) v p (by omega) ⟨hv.later h.bel, fun a n c e h0 hs' => ?_, fun a n c e _ => hr a n c e⟩
  · rw [← HE.out] at this
    refine this.mono ?_
    rintro e w' ⟨rfl, h1, h2⟩
    exact ⟨rfl, h.moved h1 h2⟩
  · obtain ⟨⟨a', c', e', hf⟩, _⟩ := hv
    obtain ⟨b', off, ha, hat⟩ := hf h0
    rw [e] at e'
    cases e'
    cases ha
    have h1 := World.block_lt_of_cell? w _ (hat 0 (List.length_pos_iff.2 h0))
    have h2 : w.heap.size ≤ b' := h.low _ hs'
    have h1' : b' < w.heap.size := h1
    omega
theorem crash_i {w : World} {b : Nat} {wr : World} {τ : Vf.St} {A U : Vf.Bs} {va vs : Value} {S : Nat → Prop} (h : SyncI w b wr τ A U va vs S) (i : Vf.Inv τ) (hs : τ.steps ≤ 10000) (K T : Nat) :
    Calls Try.prog 13 #[.pointer (some ⟨b, 0, none⟩), .int .i64 (K : Int), .int .i64 (T : Int)] wr fun e w' => e = .returned (.int .i64 0) ∧ SyncI w b w' (Vf.crash τ K T) A U va vs (grow S wr w') := by
  refine (crash_good wr b τ S h.rep i (by omega) K T).mono ?_
  rintro e w' ⟨rfl, h1, h2⟩
  exact ⟨rfl, h.moved h1 h2⟩
theorem read_i {w : World} {b : Nat} {wr : World} {τ : Vf.St} {A U : Vf.Bs} {va vs : Value} {S : Nat → Prop} (h : SyncI w b wr τ A U va vs S) (i : Vf.Inv τ) (hs : τ.steps ≤ 10000) (e0 : Vf.findE τ Vf.Syn.log = 0) (l : Vf.Bs) (hl : Hid (l = Vf.read τ Vf.Syn.log)) :
    Calls Try.prog 22 #[.pointer (some ⟨b, 0, none⟩), .string ⟨#[108, 111, 103]⟩] wr fun e w' => ∃ a c, e = .returned (.tuple #[.slice a l.length c, .int .i64 0]) ∧ w'.ownsRow wr.heap.size 5 1 (.slice a l.length c) l.length (bc l) ∧ SyncI w b w' τ A U va vs S := by
  have := read_any wr b τ S h.rep (ready i (by omega)) Vf.Syn.log (by decide) _ rfl
  rw [e0, ← hl.out] at this
  refine this.mono ?_
  rintro e w' ⟨v', rfl, o, h2⟩
  obtain ⟨a, c, rfl⟩ := row_shape o
  exact ⟨a, c, rfl, o, h.later h2⟩
/-- .. and what holds of the file behind a crash. -/
theorem end_facts {τ : Vf.St} {A U : Vf.Bs} (h : Vf.Syn.Log τ A U) (K T : Nat) : Vf.findE (Vf.crash τ K T) Vf.Syn.log = 0 ∧ Vf.read (Vf.crash τ K T) Vf.Syn.log <+: A ∧ U.length ≤ (Vf.read (Vf.crash τ K T) Vf.Syn.log).length ∧ (Vf.crash τ K T).on = true ∧ (Vf.crash τ K T).pending.length = 0 := ⟨(Vf.Syn.crash_log h K T).1, (Vf.Syn.crash_log h K T).2.1, (Vf.Syn.crash_log h K T).2.2, rfl, rfl⟩
end Go.Proofs.Ytclokpkhkokfhaa.vfsSynced
