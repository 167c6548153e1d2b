/-
  What the walks of VfsMoves share: what comes in, and the calls on the old file.
-/
import Derived.Test.YtclokpkhkokfhaaVMovesQ
import Derived.Test.YtclokpkhkokfhaaVLives
import Derived.Test.YtclokpkhkokfhaaKSame
import Derived.Test.YtclokpkhkokfhaaKFrame
namespace Go.Proofs.Ytclokpkhkokfhaa.vfsMoves
open Go.ChangeShapes Go.WideShapes Go.ChangeAt Go.RowKit Go.Maps Go.Sort Go.Shelf

structure Pre (w : World) (v0 v1 : Value) (old now : Vf.Bs) : Prop where
  b0 : BytesIn w v0 old
  b1 : BytesIn w v1 now
  r0 : ∀ a n c, v0 = .slice a n c → old.length ≤ c
  r1 : ∀ a n c, v1 = .slice a n c → now.length ≤ c
  o : old.length ≤ 400
  n : now.length ≤ 400
theorem Pre.shape0 {w : World} {v0 v1 : Value} {old now : Vf.Bs} (p : Pre w v0 v1 old now) : ∃ a c, v0 = .slice a old.length c := by obtain ⟨⟨a, c, h, _⟩, _⟩ := p.b0; exact ⟨a, c, h⟩
theorem Pre.shape1 {w : World} {v0 v1 : Value} {old now : Vf.Bs} (p : Pre w v0 v1 old now) : ∃ a c, v1 = .slice a now.length c := by obtain ⟨⟨a, c, h, _⟩, _⟩ := p.b1; exact ⟨a, c, h⟩
theorem free_of {w wx : World} {v : Value} {l : Vf.Bs} {lim b : Nat} {σ : Vf.St} (h : BytesIn w v l) (r : ∀ a n c, v = .slice a n c → l.length ≤ c) (_ : FsIn w.heap.size lim wx b σ) (hw : Below w.heap.size w wx) : Free w.heap.size lim wx v l := by
  refine ⟨h.later hw, fun a n c e h0 => .inl ?_, fun a n c e _ => r a n c e⟩
  obtain ⟨⟨a', c', e', hf⟩, _⟩ := h
  obtain ⟨b, off, ha, hat⟩ := hf h0
  rw [e] at e'
  cases e'
  cases ha
  exact World.block_lt_of_cell? w _ (hat 0 (List.length_pos_iff.2 h0))
theorem Pre.free0 {w wx : World} {v0 v1 : Value} {old now : Vf.Bs} {lim b : Nat} {σ : Vf.St} (p : Pre w v0 v1 old now) (h : FsIn w.heap.size lim wx b σ) (hw : Below w.heap.size w wx) : Free w.heap.size lim wx v0 old := free_of p.b0 p.r0 h hw
theorem Pre.free1 {w wx : World} {v0 v1 : Value} {old now : Vf.Bs} {lim b : Nat} {σ : Vf.St} (p : Pre w v0 v1 old now) (h : FsIn w.heap.size lim wx b σ) (hw : Below w.heap.size w wx) : Free w.heap.size lim wx v1 now := free_of p.b1 p.r1 h hw

def s1 : Vf.St := Vf.create (Vf.new 1048576) Vf.Mov.cur
def s2 (old : Vf.Bs) : Vf.St := Vf.append s1 Vf.Mov.cur old
def s3 (old : Vf.Bs) : Vf.St := Vf.sync (s2 old) Vf.Mov.cur
def s4 (old : Vf.Bs) : Vf.St := Vf.syncNames (s3 old)
def s5 (old : Vf.Bs) (F : Nat) : Vf.St := Vf.setFuse (s4 old) (F : Int)

theorem st1 : s1.steps = 1 := (Vf.made_create Vf.Mov.cur Vf.Mov.fine_cur).2.one
theorem i1 : Vf.Inv s1 := (Vf.made_create Vf.Mov.cur Vf.Mov.fine_cur).2.begun.inv
theorem st2 (old : Vf.Bs) : (s2 old).steps ≤ 1 + (old.length + 63) / 64 := by have := (i1.append Vf.Mov.cur old).2; rw [st1] at this; exact this
theorem st3 (old : Vf.Bs) : (s3 old).steps ≤ 2 + (old.length + 63) / 64 := by have := Vf.sync_steps (s2 old) Vf.Mov.cur; have := st2 old; unfold s3; omega
theorem st4 (old : Vf.Bs) : (s4 old).steps ≤ 3 + (old.length + 63) / 64 := by have := Vf.syncNames_steps (s3 old); have := st3 old; unfold s4; omega
theorem st5 (old : Vf.Bs) (F : Nat) : (s5 old F).steps ≤ 3 + (old.length + 63) / 64 := by unfold s5; rw [Vf.setFuse_steps]; exact st4 old
theorem steps5 (old : Vf.Bs) (ho : old.length ≤ 400) (F m : Nat) (σ : Vf.St) (h : σ.steps ≤ (s5 old F).steps + m) (hm : m ≤ 1000 := by omega) : σ.steps ≤ 90000000 := by have := st5 old F; omega
theorem stepsA (old now : Vf.Bs) (ho : old.length ≤ 400) (_ : now.length ≤ 400) (F : Nat) : (Vf.create (s5 old F) Vf.Mov.nw).steps ≤ 20 := by have := st5 old F; have := Vf.create_steps (s5 old F) Vf.Mov.nw; omega
theorem iA (old : Vf.Bs) (F : Nat) (hF : F ≤ 9223372036854775807) (ho : old.length ≤ 400) : Vf.Inv (Vf.create (s5 old F) Vf.Mov.nw) := ((Vf.Mov.begin_old old ho F hF).2.2.2.2.1.inv).create _
theorem append_le (σ : Vf.St) (k b : Vf.Bs) : (Vf.append σ k b).steps ≤ σ.steps + (b.length + 63) / 64 := by
  unfold Vf.append
  split
  · split
    · exact Nat.le_add_right _ _
    · rw [← Vf.pieces_length]
      have : ∀ (n : Nat) (l : List Vf.Bs) (σ : Vf.St), (Vf.pour σ n l).steps ≤ σ.steps + l.length := by
        intro n l
        induction l with
        | nil => intro σ; exact Nat.le_refl _
        | cons p r ih =>
          intro σ
          rw [Vf.pour_cons]
          split
          · exact Nat.le_add_right _ _
          · have h1 := ih (Vf.doSt σ ⟨0, n, p.length, [], []⟩ p)
            have h2 := (Vf.doSt_steps σ ⟨0, n, p.length, [], []⟩ p).1
            rw [List.length_cons]; omega
      exact this _ _ _
  · exact Nat.le_add_right _ _
theorem stepsB (old now : Vf.Bs) (ho : old.length ≤ 400) (hn : now.length ≤ 400) (F : Nat) : (Vf.append (Vf.create (s5 old F) Vf.Mov.nw) Vf.Mov.nw now).steps ≤ 30 := by have := stepsA old now ho hn F; have := append_le (Vf.create (s5 old F) Vf.Mov.nw) Vf.Mov.nw now; omega
theorem stepsC (old now : Vf.Bs) (ho : old.length ≤ 400) (hn : now.length ≤ 400) (F : Nat) : (Vf.sync (Vf.append (Vf.create (s5 old F) Vf.Mov.nw) Vf.Mov.nw now) Vf.Mov.nw).steps ≤ 31 := by have := stepsB old now ho hn F; have := Vf.sync_steps (Vf.append (Vf.create (s5 old F) Vf.Mov.nw) Vf.Mov.nw now) Vf.Mov.nw; omega
theorem stepsD (old now : Vf.Bs) (ho : old.length ≤ 400) (hn : now.length ≤ 400) (F : Nat) : (Vf.rename (Vf.sync (Vf.append (Vf.create (s5 old F) Vf.Mov.nw) Vf.Mov.nw now) Vf.Mov.nw) Vf.Mov.nw Vf.Mov.cur).steps ≤ 32 := by have := stepsC old now ho hn F; have := Vf.rename_steps (Vf.sync (Vf.append (Vf.create (s5 old F) Vf.Mov.nw) Vf.Mov.nw now) Vf.Mov.nw) Vf.Mov.nw Vf.Mov.cur; omega
def stAt (old now : Vf.Bs) (F : Nat) : Nat → Vf.St
  | 1 => Vf.create (s5 old F) Vf.Mov.nw
  | 2 => Vf.append (Vf.create (s5 old F) Vf.Mov.nw) Vf.Mov.nw now
  | 3 => Vf.sync (Vf.append (Vf.create (s5 old F) Vf.Mov.nw) Vf.Mov.nw now) Vf.Mov.nw
  | 4 => Vf.rename (Vf.sync (Vf.append (Vf.create (s5 old F) Vf.Mov.nw) Vf.Mov.nw now) Vf.Mov.nw) Vf.Mov.nw Vf.Mov.cur
  | 5 => Vf.syncNames (Vf.rename (Vf.sync (Vf.append (Vf.create (s5 old F) Vf.Mov.nw) Vf.Mov.nw now) Vf.Mov.nw) Vf.Mov.nw Vf.Mov.cur)
  | _ => s5 old F
theorem stepsZ (old now : Vf.Bs) (ho : old.length ≤ 400) (hn : now.length ≤ 400) (F j : Nat) : (stAt old now F j).steps ≤ 90000000 := by
  unfold stAt
  split
  · have := stepsA old now ho hn F; omega
  · have := stepsB old now ho hn F; omega
  · have := stepsC old now ho hn F; omega
  · have := stepsD old now ho hn F; omega
  · have := stepsD old now ho hn F
    have := Vf.syncNames_steps (Vf.rename (Vf.sync (Vf.append (Vf.create (s5 old F) Vf.Mov.nw) Vf.Mov.nw now) Vf.Mov.nw) Vf.Mov.nw Vf.Mov.cur)
    omega
  · have := st5 old F; omega

section
open Vf.Mov
variable {old now : Vf.Bs} (ho : old.length ≤ 400) (F : Nat) (hF : F ≤ 9223372036854775807)
include ho hF
theorem base : Old old (s5 old F) 1 ∧ (s5 old F).pending = [] := ⟨(begin_old old ho F hF).2.2.2.2.1, (begin_old old ho F hF).2.2.2.2.2⟩
theorem part_0 (g0 : Vf.createE (s5 old F) nw ≠ 0) (K T : Nat) : Vf.findE (Vf.crash (Vf.create (s5 old F) nw) K T) cur = 0 ∧ (Vf.read (Vf.crash (Vf.create (s5 old F) nw) K T) cur = old ∨ Vf.read (Vf.crash (Vf.create (s5 old F) nw) K T) cur = now) := by
  obtain ⟨h, hp⟩ := base ho F hF
  have ha := Vf.create_fail g0
  have := holds_none (h.alike (h.inv.create _) ha) (by rw [ha.pending]; exact hp) K T
  exact ⟨this.1, .inl this.2⟩
theorem part_1 (g0 : Vf.createE (s5 old F) nw = 0) (_ : Vf.appendE (Vf.create (s5 old F) nw) nw now ≠ 0) (K T : Nat) : Vf.findE (Vf.crash (Vf.append (Vf.create (s5 old F) nw) nw now) K T) cur = 0 ∧ (Vf.read (Vf.crash (Vf.append (Vf.create (s5 old F) nw) nw now) K T) cur = old ∨ Vf.read (Vf.crash (Vf.append (Vf.create (s5 old F) nw) nw now) K T) cur = now) := by
  obtain ⟨h, hp⟩ := base ho F hF
  obtain ⟨W, l, hn, _⟩ := append_new (create_new h hp g0) now
  have := holds_named hn.old hn.writes hn.pend K T
  exact ⟨this.1, .inl this.2⟩
theorem part_2 (g0 : Vf.createE (s5 old F) nw = 0) (_ : Vf.appendE (Vf.create (s5 old F) nw) nw now = 0) (g2 : Vf.syncE (Vf.append (Vf.create (s5 old F) nw) nw now) nw ≠ 0) (K T : Nat) : Vf.findE (Vf.crash (Vf.sync (Vf.append (Vf.create (s5 old F) nw) nw now) nw) K T) cur = 0 ∧ (Vf.read (Vf.crash (Vf.sync (Vf.append (Vf.create (s5 old F) nw) nw now) nw) K T) cur = old ∨ Vf.read (Vf.crash (Vf.sync (Vf.append (Vf.create (s5 old F) nw) nw now) nw) K T) cur = now) := by
  obtain ⟨h, hp⟩ := base ho F hF
  obtain ⟨W, l, hn, hd⟩ := append_new (create_new h hp g0) now
  have hm := hn.alike (hn.old.inv.sync nw) (Vf.sync_fail g2)
  have := holds_named hm.old hm.writes hm.pend K T
  exact ⟨this.1, .inl this.2⟩
theorem whole (g0 : Vf.createE (s5 old F) nw = 0) (g1 : Vf.appendE (Vf.create (s5 old F) nw) nw now = 0) (g2 : Vf.syncE (Vf.append (Vf.create (s5 old F) nw) nw now) nw = 0) : Whole old now (Vf.sync (Vf.append (Vf.create (s5 old F) nw) nw now) nw) 1 ((s5 old F).steps + 1) := by
  obtain ⟨h, hp⟩ := base ho F hF
  obtain ⟨W, l, hn, hd⟩ := append_new (create_new h hp g0) now
  obtain ⟨rfl, rfl⟩ := hd g1
  exact sync_new hn g2
theorem part_3 (g0 : Vf.createE (s5 old F) nw = 0) (g1 : Vf.appendE (Vf.create (s5 old F) nw) nw now = 0) (g2 : Vf.syncE (Vf.append (Vf.create (s5 old F) nw) nw now) nw = 0) (g3 : Vf.renameE (Vf.sync (Vf.append (Vf.create (s5 old F) nw) nw now) nw) nw cur ≠ 0) (K T : Nat) : Vf.findE (Vf.crash (Vf.rename (Vf.sync (Vf.append (Vf.create (s5 old F) nw) nw now) nw) nw cur) K T) cur = 0 ∧ (Vf.read (Vf.crash (Vf.rename (Vf.sync (Vf.append (Vf.create (s5 old F) nw) nw now) nw) nw cur) K T) cur = old ∨ Vf.read (Vf.crash (Vf.rename (Vf.sync (Vf.append (Vf.create (s5 old F) nw) nw now) nw) nw cur) K T) cur = now) := by
  have hw := (whole ho F hF g0 g1 g2).named
  have hm := hw.alike (hw.old.inv.rename nw cur) (Vf.rename_fail g3)
  have := holds_named hm.old hm.writes hm.pend K T
  exact ⟨this.1, .inl this.2⟩
theorem placed (g0 : Vf.createE (s5 old F) nw = 0) (g1 : Vf.appendE (Vf.create (s5 old F) nw) nw now = 0) (g2 : Vf.syncE (Vf.append (Vf.create (s5 old F) nw) nw now) nw = 0) (g3 : Vf.renameE (Vf.sync (Vf.append (Vf.create (s5 old F) nw) nw now) nw) nw cur = 0) : Placed old now (Vf.rename (Vf.sync (Vf.append (Vf.create (s5 old F) nw) nw now) nw) nw cur) 1 ((s5 old F).steps + 1) := rename_new (whole ho F hF g0 g1 g2) g3
theorem part_4 (g0 : Vf.createE (s5 old F) nw = 0) (g1 : Vf.appendE (Vf.create (s5 old F) nw) nw now = 0) (g2 : Vf.syncE (Vf.append (Vf.create (s5 old F) nw) nw now) nw = 0) (g3 : Vf.renameE (Vf.sync (Vf.append (Vf.create (s5 old F) nw) nw now) nw) nw cur = 0) (g4 : Vf.syncNamesE (Vf.rename (Vf.sync (Vf.append (Vf.create (s5 old F) nw) nw now) nw) nw cur) ≠ 0) (K T : Nat) : Vf.findE (Vf.crash (Vf.syncNames (Vf.rename (Vf.sync (Vf.append (Vf.create (s5 old F) nw) nw now) nw) nw cur)) K T) cur = 0 ∧ (Vf.read (Vf.crash (Vf.syncNames (Vf.rename (Vf.sync (Vf.append (Vf.create (s5 old F) nw) nw now) nw) nw cur)) K T) cur = old ∨ Vf.read (Vf.crash (Vf.syncNames (Vf.rename (Vf.sync (Vf.append (Vf.create (s5 old F) nw) nw now) nw) nw cur)) K T) cur = now) := by
  have hp := placed ho F hF g0 g1 g2 g3
  exact holds_placed (hp.alike hp.old.inv.syncNames (Vf.syncNames_fail g4)) K T
theorem all_done (g0 : Vf.createE (s5 old F) nw = 0) (g1 : Vf.appendE (Vf.create (s5 old F) nw) nw now = 0) (g2 : Vf.syncE (Vf.append (Vf.create (s5 old F) nw) nw now) nw = 0) (g3 : Vf.renameE (Vf.sync (Vf.append (Vf.create (s5 old F) nw) nw now) nw) nw cur = 0) (g4 : Vf.syncNamesE (Vf.rename (Vf.sync (Vf.append (Vf.create (s5 old F) nw) nw now) nw) nw cur) = 0) (K T : Nat) : Vf.findE (Vf.crash (Vf.syncNames (Vf.rename (Vf.sync (Vf.append (Vf.create (s5 old F) nw) nw now) nw) nw cur)) K T) cur = 0 ∧ Vf.read (Vf.crash (Vf.syncNames (Vf.rename (Vf.sync (Vf.append (Vf.create (s5 old F) nw) nw now) nw) nw cur)) K T) cur = now :=
  names_new (placed ho F hF g0 g1 g2 g3) g4 K T
end

theorem new_20 (w wx : World) (hw : Below w.heap.size w wx) : Calls Try.prog 8 #[.int .i64 1048576] wx fun e w' => ∃ b, e = .returned (.tuple #[.pointer (some ⟨b, 0, none⟩), .int .i64 0]) ∧ FsIn w.heap.size w'.heap.size w' b (Vf.new 1048576) ∧ Below wx.heap.size wx w' := by
  refine (new_fs wx 1048576 (by decide)).mono ?_
  rintro e w' ⟨b, rfl, f, h2⟩
  obtain ⟨S, hr, hS⟩ := f.rep
  exact ⟨b, rfl, ⟨⟨S, hr, fun i hi => ⟨Nat.le_trans hw.size (hS i hi).1, (hS i hi).2⟩⟩, f.inv, Nat.le_trans hw.size f.low, f.lim⟩, h2⟩
theorem c1 (w : World) : ∀ wx lim b, FsIn w.heap.size lim wx b (Vf.new 1048576) → Calls Try.prog 10 #[.pointer (some ⟨b, 0, none⟩), .string ⟨#[99, 117, 114, 114, 101, 110, 116]⟩] wx fun e w' => e = .returned (.int .i64 0) ∧ FsIn w.heap.size w'.heap.size w' b s1 ∧ Below w.heap.size wx w' := fun wx lim b h => by
  have := create_fs h (by decide) Vf.Mov.cur (by decide)
  rw [(Vf.made_create Vf.Mov.cur Vf.Mov.fine_cur).1] at this
  exact this
theorem c2 (w : World) (old : Vf.Bs) (ho : old.length ≤ 400) : ∀ wx lim b v, FsIn w.heap.size lim wx b s1 → Free w.heap.size lim wx v old → Calls Try.prog 11 #[.pointer (some ⟨b, 0, none⟩), .string ⟨#[99, 117, 114, 114, 101, 110, 116]⟩, v] wx fun e w' => e = .returned (.int .i64 0) ∧ FsIn w.heap.size w'.heap.size w' b (s2 old) ∧ Below w.heap.size wx w' := fun wx lim b v h hv => by
  have := append_fs h Vf.Mov.cur (by decide) v old (by rw [st1]; omega) hv
  have e : Vf.appendE s1 Vf.Mov.cur old = 0 := (Vf.Mov.begin_old old ho 0 (by decide)).1
  rw [e] at this
  exact this
theorem c3 (w : World) (old : Vf.Bs) (ho : old.length ≤ 400) : ∀ wx lim b, FsIn w.heap.size lim wx b (s2 old) → Calls Try.prog 15 #[.pointer (some ⟨b, 0, none⟩), .string ⟨#[99, 117, 114, 114, 101, 110, 116]⟩] wx fun e w' => e = .returned (.int .i64 0) ∧ FsIn w.heap.size w'.heap.size w' b (s3 old) ∧ Below w.heap.size wx w' := fun wx lim b h => by
  have := sync_fs h (by have := st2 old; omega) Vf.Mov.cur (by decide)
  have e : Vf.syncE (s2 old) Vf.Mov.cur = 0 := (Vf.Mov.begin_old old ho 0 (by decide)).2.1
  rw [e] at this
  exact this
theorem c4 (w : World) (old : Vf.Bs) (ho : old.length ≤ 400) : ∀ wx lim b, FsIn w.heap.size lim wx b (s3 old) → Calls Try.prog 12 #[.pointer (some ⟨b, 0, none⟩)] wx fun e w' => e = .returned (.int .i64 0) ∧ FsIn w.heap.size w'.heap.size w' b (s4 old) ∧ Below w.heap.size wx w' := fun wx lim b h => by
  have := syncNames_fs h (by have := st3 old; omega)
  have e : Vf.syncNamesE (s3 old) = 0 := (Vf.Mov.begin_old old ho 0 (by decide)).2.2.1
  rw [e] at this
  exact this
theorem c5 (w : World) (old : Vf.Bs) (ho : old.length ≤ 400) (F : Nat) (hF : F ≤ 9223372036854775807) : ∀ wx lim b, FsIn w.heap.size lim wx b (s4 old) → Calls Try.prog 20 #[.pointer (some ⟨b, 0, none⟩), .int .i64 (F : Int)] wx fun e w' => e = .returned (.int .i64 0) ∧ FsIn w.heap.size w'.heap.size w' b (s5 old F) ∧ Below w.heap.size wx w' := fun wx lim b h => by
  have := fuse_fs h (F : Int) (by omega)
  have e : Vf.fuseE (s4 old) (F : Int) = 0 := (Vf.Mov.begin_old old ho F hF).2.2.2.1
  rw [e] at this
  exact this
end Go.Proofs.Ytclokpkhkokfhaa.vfsMoves
