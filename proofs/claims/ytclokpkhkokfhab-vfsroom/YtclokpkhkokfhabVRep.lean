/-
  Where a file system lies in memory: its own block, three maps, the list of pending steps, and for each file a block and a list of bytes; and what a call may turn.
-/
import Derived.Test.YtclokpkhkokfhabVMap
import Derived.Test.YtclokpkhkokfhabKMake
import Derived.Lib.SmallJoins
namespace Go.Proofs.Ytclokpkhkokfhab
open Go.RowKit Go.Maps

/-- Nothing has turned but blocks of S, and new ones. -/
structure Moved (S : Nat → Prop) (w w' : World) : Prop where
  os : w'.os = w.os
  tape : w'.tape = w.tape
  output : w'.output = w.output
  size : w.heap.size ≤ w'.heap.size
  block : ∀ k, k < w.heap.size → ¬ S k → w'.heap[k]? = w.heap[k]?

/-- S, and the blocks that came since. -/
def grow (S : Nat → Prop) (w w' : World) : Nat → Prop := fun i => S i ∨ (w.heap.size ≤ i ∧ i < w'.heap.size)

theorem Moved.refl (S : Nat → Prop) (w : World) : Moved S w w := ⟨rfl, rfl, rfl, Nat.le_refl _, fun _ _ _ => rfl⟩
theorem Moved.trans {S T : Nat → Prop} {a b c : World} (h : Moved S a b) (k : Moved T b c) (hT : ∀ i, i < a.heap.size → T i → S i) : Moved S a c :=
  ⟨k.os.trans h.os, k.tape.trans h.tape, k.output.trans h.output, Nat.le_trans h.size k.size, fun i hi hs => (k.block i (Nat.lt_of_lt_of_le hi h.size) (fun ht => hs (hT i hi ht))).trans (h.block i hi hs)⟩
theorem Moved.grow {S : Nat → Prop} {a b c : World} (h : Moved S a b) (k : Moved (grow S a b) b c) : Moved S a c := h.trans k fun i hi ht => by
  rcases ht with ht | ht
  · exact ht
  · omega
theorem Moved.drew {S : Nat → Prop} {a b : World} (h : Moved S a b) : Moved S a b.drew := ⟨h.os, h.tape, h.output, h.size, h.block⟩
theorem Moved.below {S : Nat → Prop} {w w' : World} (h : Below w.heap.size w w') : Moved S w w' := ⟨h.os, h.tape, h.output, h.size, fun i hi _ => h.block i hi⟩
theorem Moved.alloc {S : Nat → Prop} {a b : World} (h : Moved S a b) (o : Obj) : Moved S a (b.alloc o) := h.trans (T := fun _ => False) (Moved.below ((Below.refl _ _).alloc (Nat.le_refl _) o)) (fun _ _ h => h.elim)
theorem Moved.grown {S : Nat → Prop} {a b c : World} {row : Option Nat} (h : Moved S a b) (hg : b.grownBy c row) (hr : ∀ k, row = some k → k < a.heap.size → S k) : Moved S a c :=
  h.trans (T := fun i => row = some i) ⟨hg.os, hg.tape, hg.output, hg.size, fun i hi hs => hg.block i hi (fun e => hs e.symm)⟩ (fun i hi ht => hr i ht hi)
theorem Moved.setCell {S : Nat → Prop} {a b : World} (h : Moved S a b) {p : Addr} (hp : p.block < a.heap.size → S p.block) (u : Value) : Moved S a (b.setCell p u) :=
  h.trans (T := fun i => i = p.block) ⟨rfl, rfl, rfl, by simp [World.setCell], fun i _ hs => Below.heap_setCell _ _ _ _ hs⟩ (fun i hi ht => by subst ht; exact hp hi)
theorem Moved.under {S : Nat → Prop} {a b : World} (h : Moved S a b) {B : Nat} (hB : B ≤ a.heap.size) (hS : ∀ i, S i → B ≤ i) : Below B a b := ⟨h.os, h.tape, h.output, h.size, fun i hi => h.block i (by omega) (fun hs => by have := hS i hs; omega)⟩

/-- The cells of a step. -/
def sc (s : Vf.Step) : List Value := [.int .i64 (s.kind : Int), .int .i64 (s.file : Int), .int .i64 (s.size : Int), str s.name, str s.to]
def scs (l : List Vf.Step) : List Value := l.flatMap sc
theorem scs_length (l : List Vf.Step) : (scs l).length = l.length * 5 := by
  induction l with
  | nil => rfl
  | cons s r ih =>
    have : scs (s :: r) = sc s ++ scs r := rfl
    rw [this, List.length_append, ih, List.length_cons]
    show 5 + _ = _
    omega
theorem scs_append (l m : List Vf.Step) : scs (l ++ m) = scs l ++ scs m := by simp [scs]

def fsCells (σ : Vf.St) (bf bh bd : Nat) (pv : Value) : Array Value := #[.int .i64 (σ.room : Int), .int .i64 σ.used, .bool σ.on, .int .i64 σ.fuse, .int .i64 (σ.steps : Int), .map (some bf), .map (some bh), .map (some bd), pv]

structure RepAt (w : World) (b bf bh bd : Nat) (pv : Value) (fs : Nat → Option Nat) (sl : Nat → Value) (σ : Vf.St) (S : Nat → Prop) : Prop where
  blk : w.heap[b]? = some (.cells (fsCells σ bf bh bd pv) 48 (0, 0))
  files : PtrsAt w bf σ.steps fs
  held : NamesAt w bh σ.held
  dur : NamesAt w bd σ.durable
  pend : w.ownsRow 0 55 5 pv σ.pending.length (scs σ.pending)
  dom : ∀ n, (fs n).isSome = (σ.files n).isSome
  file : ∀ n g x, fs n = some g → σ.files n = some x → w.heap[g]? = some (.cells #[sl n, .int .i64 (x.synced : Int)] 67 (0, 0)) ∧ w.ownsRow 0 5 1 (sl n) x.bytes.length (bc x.bytes)
  inj : ∀ n n' g, fs n = some g → fs n' = some g → n = n'
  rows : ∀ n n' g, fs n ≠ none → fs n' ≠ none → (sl n).ownBlock = some g → (sl n').ownBlock = some g → n = n'
  fh : bf ≠ bh
  fd : bf ≠ bd
  hd : bh ≠ bd
  sb : S b
  sf : S bf
  sh : S bh
  sd : S bd
  sp : ∀ g, pv.ownBlock = some g → S g
  sg : ∀ n g, fs n = some g → S g
  sr : ∀ n g, fs n ≠ none → (sl n).ownBlock = some g → S g
  low : ∀ i, S i → i < w.heap.size

/-- A file system lies at block b, in blocks of S alone. -/
def Rep (w : World) (b : Nat) (σ : Vf.St) (S : Nat → Prop) : Prop := ∃ bf bh bd pv fs sl, RepAt w b bf bh bd pv fs sl σ S

theorem ownsRow_same {w w' : World} {base e size : Nat} {v : Value} {n : Nat} {xs : List Value} (h : w.ownsRow base e size v n xs) (hs : ∀ g, v.ownBlock = some g → w'.heap[g]? = w.heap[g]?) : w'.ownsRow base e size v n xs := by
  refine ⟨h.1, ?_⟩
  rcases h.2 with h' | ⟨g, cap, cur, e, h1, h2, h3⟩
  · exact .inl h'
  · refine .inr ⟨g, cap, cur, e, h1, ?_, h3⟩
    rw [hs g (by rw [e]; rfl)]
    exact h2

theorem RepAt.same {w w' : World} {b bf bh bd : Nat} {pv : Value} {fs : Nat → Option Nat} {sl : Nat → Value} {σ : Vf.St} {S : Nat → Prop} (h : RepAt w b bf bh bd pv fs sl σ S) (hs : ∀ i, S i → w'.heap[i]? = w.heap[i]?) (hz : w.heap.size ≤ w'.heap.size) : RepAt w' b bf bh bd pv fs sl σ S :=
  ⟨(hs b h.sb).trans h.blk, h.files.same (hs bf h.sf), h.held.same (hs bh h.sh), h.dur.same (hs bd h.sd), ownsRow_same h.pend fun g hg => hs g (h.sp g hg), h.dom,
    fun n g x h1 h2 => ⟨(hs g (h.sg n g h1)).trans (h.file n g x h1 h2).1, ownsRow_same (h.file n g x h1 h2).2 fun r hr => hs r (h.sr n r (by rw [h1]; simp) hr)⟩,
    h.inj, h.rows, h.fh, h.fd, h.hd, h.sb, h.sf, h.sh, h.sd, h.sp, h.sg, h.sr, fun i hi => Nat.lt_of_lt_of_le (h.low i hi) hz⟩

theorem Rep.same {w w' : World} {b : Nat} {σ : Vf.St} {S : Nat → Prop} (h : Rep w b σ S) (hs : ∀ i, S i → w'.heap[i]? = w.heap[i]?) (hz : w.heap.size ≤ w'.heap.size) : Rep w' b σ S := by
  obtain ⟨bf, bh, bd, pv, fs, sl, h⟩ := h
  exact ⟨bf, bh, bd, pv, fs, sl, h.same hs hz⟩
theorem RepAt.later {w w' : World} {b bf bh bd : Nat} {pv : Value} {fs : Nat → Option Nat} {sl : Nat → Value} {σ : Vf.St} {S : Nat → Prop} (h : RepAt w b bf bh bd pv fs sl σ S) (hb : Below w.heap.size w w') : RepAt w' b bf bh bd pv fs sl σ S := h.same (fun i hi => hb.block i (h.low i hi)) hb.size
theorem Rep.later {w w' : World} {b : Nat} {σ : Vf.St} {S : Nat → Prop} (h : Rep w b σ S) (hb : Below w.heap.size w w') : Rep w' b σ S := by
  obtain ⟨bf, bh, bd, pv, fs, sl, h⟩ := h
  exact ⟨bf, bh, bd, pv, fs, sl, h.later hb⟩
theorem Rep.low {w : World} {b : Nat} {σ : Vf.St} {S : Nat → Prop} (h : Rep w b σ S) : ∀ i, S i → i < w.heap.size := by
  obtain ⟨bf, bh, bd, pv, fs, sl, h⟩ := h
  exact h.low
theorem RepAt.wide {w : World} {b bf bh bd : Nat} {pv : Value} {fs : Nat → Option Nat} {sl : Nat → Value} {σ : Vf.St} {S T : Nat → Prop} (h : RepAt w b bf bh bd pv fs sl σ S) (hs : ∀ i, S i → T i) (hz : ∀ i, T i → i < w.heap.size) : RepAt w b bf bh bd pv fs sl σ T :=
  ⟨h.blk, h.files, h.held, h.dur, h.pend, h.dom, h.file, h.inj, h.rows, h.fh, h.fd, h.hd, hs _ h.sb, hs _ h.sf, hs _ h.sh, hs _ h.sd, fun g hg => hs _ (h.sp g hg), fun n g hg => hs _ (h.sg n g hg), fun n g h1 h2 => hs _ (h.sr n g h1 h2), hz⟩
theorem Rep.wide {w : World} {b : Nat} {σ : Vf.St} {S T : Nat → Prop} (h : Rep w b σ S) (hs : ∀ i, S i → T i) (hz : ∀ i, T i → i < w.heap.size) : Rep w b σ T := by
  obtain ⟨bf, bh, bd, pv, fs, sl, h⟩ := h
  exact ⟨bf, bh, bd, pv, fs, sl, h.wide hs hz⟩
/-- Over two calls. -/
theorem Rep.grow2 {a b' c : World} {b : Nat} {σ : Vf.St} {S : Nat → Prop} (h : Rep c b σ (grow (grow S a b') b' c)) (h1 : a.heap.size ≤ b'.heap.size) (h2 : b'.heap.size ≤ c.heap.size) : Rep c b σ (grow S a c) :=
  h.wide (fun i hi => by
    rcases hi with (hi | hi) | hi
    · exact .inl hi
    · exact .inr ⟨hi.1, by omega⟩
    · exact .inr ⟨by omega, hi.2⟩) (fun i hi => by
    rcases hi with hi | hi
    · exact h.low i (.inl (.inl hi))
    · exact hi.2)
theorem Rep.grow1 {a c : World} {b : Nat} {σ : Vf.St} {S : Nat → Prop} (h : Rep c b σ S) : Rep c b σ (grow S a c) :=
  h.wide (fun i hi => .inl hi) (fun i hi => by
    rcases hi with hi | hi
    · exact h.low i hi
    · exact hi.2)

/-- The fields, as a walk reads them. -/
theorem RepAt.cells {w : World} {b bf bh bd : Nat} {pv : Value} {fs : Nat → Option Nat} {sl : Nat → Value} {σ : Vf.St} {S : Nat → Prop} (h : RepAt w b bf bh bd pv fs sl σ S) :
    w.cell? ⟨b, 0, none⟩ = some (.int .i64 (σ.room : Int)) ∧ w.cell? ⟨b, 1, none⟩ = some (.int .i64 σ.used) ∧ w.cell? ⟨b, 2, none⟩ = some (.bool σ.on) ∧ w.cell? ⟨b, 3, none⟩ = some (.int .i64 σ.fuse) ∧ w.cell? ⟨b, 4, none⟩ = some (.int .i64 (σ.steps : Int))
    ∧ w.cell? ⟨b, 5, none⟩ = some (.map (some bf)) ∧ w.cell? ⟨b, 6, none⟩ = some (.map (some bh)) ∧ w.cell? ⟨b, 7, none⟩ = some (.map (some bd)) ∧ w.cell? ⟨b, 8, none⟩ = some pv := by
  refine ⟨?_, ?_, ?_, ?_, ?_, ?_, ?_, ?_, ?_⟩ <;> exact Joins.cell_of_block h.blk _
theorem RepAt.unfrozen {w : World} {b bf bh bd : Nat} {pv : Value} {fs : Nat → Option Nat} {sl : Nat → Value} {σ : Vf.St} {S : Nat → Prop} (h : RepAt w b bf bh bd pv fs sl σ S) (i : Nat) : w.frozen? ⟨b, i, none⟩ = false := Joins.unfrozen_of_block h.blk i
end Go.Proofs.Ytclokpkhkokfhab
