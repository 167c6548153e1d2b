/-
  A file system as the program keeps it, in plain words: files by number, held and durable names, the steps that are pending; what each call does to it and answers. .. and what follows from it.
-/
import Derived.Below
import Derived.Test.YtlhnjloimhcpfabGreatDoorKBytes
import Derived.Maps.OwnSet
import Derived.Maps.OwnOps
import Derived.Test.YtlhnjloimhcpfabGreatDoorKMake
import Derived.Lib.SmallJoins
namespace Go.Proofs.YtlhnjloimhcpfabGreatDoor
namespace Vf

abbrev Bs := List UInt8
abbrev Nm := List (Bs × Nat)

structure File where
  bytes : Bs
  synced : Nat

structure Step where
  kind : Nat
  file : Nat
  size : Nat
  name : Bs
  to : Bs

structure St where
  room : Nat
  used : Int
  on : Bool
  fuse : Int
  steps : Nat
  files : Nat → Option File
  held : Nm
  durable : Nm
  pending : List Step

/-- The number that a name has. -/
def look : Nm → Bs → Option Nat
  | [], _ => none
  | (a, n) :: r, k => if a = k then some n else look r k
def del (m : Nm) (k : Bs) : Nm := m.filter fun p => !decide (p.1 = k)
def put (m : Nm) (k : Bs) (n : Nat) : Nm := (k, n) :: del m k
/-- The number, 0 where there is none. -/
def num (m : Nm) (k : Bs) : Nat := (look m k).getD 0

def fine (k : Bs) : Bool := k.all (fun c => decide (33 ≤ c.toNat) && decide (c.toNat ≤ 126)) && decide (0 < k.length) && decide (k.length ≤ 32)

/-- What a naming, a move, an unnaming does to names. -/
def ren (s : Step) (m : Nm) : Nm :=
  if s.kind = 1 then put m s.name s.file
  else if s.kind = 2 then put (del m s.name) s.to (num m s.name)
  else if s.kind = 3 then del m s.name
  else m
/-- Which file has no name any more. -/
def lost (s : Step) (m : Nm) : Nat :=
  if s.kind = 2 then num (del m s.name) s.to
  else if s.kind = 3 then num m s.name
  else 0

def setF (f : Nat → Option File) (n : Nat) (x : Option File) : Nat → Option File := fun k => if k = n then x else f k

/-- A step becomes durable. -/
def keep (σ : St) (s : Step) : St :=
  if s.kind = 0 then
    match σ.files s.file with
    | none => σ
    | some x => { σ with files := setF σ.files s.file (some { x with synced := x.synced + s.size }) }
  else if s.kind ≤ 3 then { σ with durable := ren s σ.durable, files := setF σ.files (lost s σ.durable) none }
  else σ

def keepAll (σ : St) (l : List Step) : St := l.foldl keep σ

/-- The steps that are due become durable. -/
def settle (due : Step → Bool) (σ : St) : St := { keepAll σ (σ.pending.filter due) with pending := σ.pending.filter fun s => !due s }

def tick (σ : St) : St := { σ with fuse := if σ.fuse = -1 then -1 else σ.fuse - 1, steps := σ.steps + 1 }

def pend (σ : St) (s : Step) : St := { σ with pending := σ.pending ++ [s] }

def write (σ : St) (n : Nat) (b : Bs) : St :=
  match σ.files n with
  | none => σ
  | some x => { σ with files := setF σ.files n (some { x with bytes := x.bytes ++ b }), used := σ.used + b.length }

/-- A raw step, behind the fuse. -/
def act (σ : St) (s : Step) (b : Bs) : St :=
  if s.kind = 0 then pend (write σ s.file b) s
  else if s.kind = 1 then pend { σ with files := setF σ.files σ.steps (some ⟨[], 0⟩), held := put σ.held s.name σ.steps } { s with file := σ.steps }
  else if s.kind ≤ 3 then
    pend { σ with held := ren s σ.held, used := match σ.files (lost s σ.held) with | none => σ.used | some x => σ.used - x.bytes.length } s
  else if s.kind = 4 then settle (fun p => decide (p.kind = 0) && decide (p.file = s.file)) σ
  else settle (fun p => !decide (p.kind = 0)) σ

def doSt (σ : St) (s : Step) (b : Bs) : St := if σ.fuse = 0 then { σ with on := false } else act (tick σ) s b
def doE (σ : St) : Int := if σ.fuse = 0 then 7 else 0

/-- Why a call is refused, of the names that it bears. -/
def refuse (σ : St) (l : List Bs) : Int := if σ.on then if l.all fine then 0 else 2 else 7
def findE (σ : St) (k : Bs) : Int := if refuse σ [k] = 0 then if (look σ.held k).isSome then 0 else 4 else refuse σ [k]

def newE (room : Int) : Int := if room < 0 ∨ room > 1073741824 then 2 else 0
def new (room : Nat) : St := ⟨room, 0, true, -1, 0, fun _ => none, [], [], []⟩

def createE (σ : St) (k : Bs) : Int := if findE σ k = 0 then 9 else if findE σ k = 4 then doE σ else findE σ k
def create (σ : St) (k : Bs) : St := if findE σ k = 4 then doSt σ ⟨1, 0, 0, k, []⟩ [] else σ

def left (σ : St) : Int := if σ.on then (σ.room : Int) - σ.used else 0

/-- Writes, piece by piece. -/
def pour (σ : St) (n : Nat) : List Bs → St
  | [] => σ
  | p :: r => if σ.fuse = 0 then { σ with on := false } else pour (doSt σ ⟨0, n, p.length, [], []⟩ p) n r
def pourE (σ : St) (n : Nat) : List Bs → Int
  | [] => 0
  | p :: r => if σ.fuse = 0 then 7 else pourE (doSt σ ⟨0, n, p.length, [], []⟩ p) n r

/-- A list cut into pieces of 64. -/
def cut (b : Bs) : Nat → List Bs
  | 0 => []
  | k + 1 => b.take 64 :: cut (b.drop 64) k
def pieces (b : Bs) : List Bs := cut b ((b.length + 63) / 64)

def appendE (σ : St) (k : Bs) (b : Bs) : Int := if findE σ k = 0 then if (b.length : Int) > left σ then 8 else pourE σ (num σ.held k) (pieces b) else findE σ k
def append (σ : St) (k : Bs) (b : Bs) : St := if findE σ k = 0 then if (b.length : Int) > left σ then σ else pour σ (num σ.held k) (pieces b) else σ

def renameE (σ : St) (k t : Bs) : Int := if refuse σ [k, t] = 0 then if findE σ k = 0 then doE σ else findE σ k else refuse σ [k, t]
def rename (σ : St) (k t : Bs) : St := if renameE σ k t = 0 ∨ (refuse σ [k, t] = 0 ∧ findE σ k = 0) then doSt σ ⟨2, 0, 0, k, t⟩ [] else σ

def removeE (σ : St) (k : Bs) : Int := if findE σ k = 0 then doE σ else findE σ k
def remove (σ : St) (k : Bs) : St := if findE σ k = 0 then doSt σ ⟨3, 0, 0, k, []⟩ [] else σ

def syncE (σ : St) (k : Bs) : Int := if findE σ k = 0 then doE σ else findE σ k
def sync (σ : St) (k : Bs) : St := if findE σ k = 0 then doSt σ ⟨4, num σ.held k, 0, [], []⟩ [] else σ

def syncNamesE (σ : St) : Int := if refuse σ [] = 0 then doE σ else refuse σ []
def syncNames (σ : St) : St := if refuse σ [] = 0 then doSt σ ⟨5, 0, 0, [], []⟩ [] else σ

def bytesOf (σ : St) (n : Nat) : Bs := match σ.files n with | none => [] | some x => x.bytes
def read (σ : St) (k : Bs) : Bs := if findE σ k = 0 then bytesOf σ (num σ.held k) else []

def fuseE (σ : St) (n : Int) : Int := if refuse σ [] = 0 then if n < 0 then 2 else 0 else refuse σ []
def setFuse (σ : St) (n : Int) : St := if fuseE σ n = 0 then { σ with fuse := n } else σ
def safe (σ : St) : St := if refuse σ [] = 0 then { σ with fuse := -1 } else σ

/-- The steps that a crash keeps. -/
def kept (l : List Step) (k t : Nat) : List Step :=
  l.take k ++ match l.drop k with
    | [] => []
    | s :: _ => if s.kind = 0 then [{ s with size := min t (s.size - 1) }] else []

def sum (f : Nat → Option File) (m : Nm) : Nat := (m.map fun p => match f p.2 with | none => 0 | some x => x.synced).sum

/-- Nothing is left but what is durable. -/
def forget (σ : St) : St :=
  { σ with held := σ.durable, used := sum σ.files σ.durable, files := fun n => if n ∈ σ.durable.map (·.2) then (σ.files n).map (fun x => { x with bytes := x.bytes.take x.synced }) else none }

def crashE (k t : Int) : Int := if k < 0 ∨ t < 0 then 2 else 0
def crash (σ : St) (k t : Nat) : St := { forget (keepAll σ (kept σ.pending k t)) with pending := [], on := true, fuse := -1 }

def durableOf (σ : St) (k : Bs) : Option Bs := match σ.files (num σ.durable k) with | none => none | some x => some (x.bytes.take x.synced)

def alterE (σ : St) (k : Bs) (at_ : Int) : Int :=
  if fine k then match σ.files (num σ.durable k) with
    | none => 4
    | some x => if at_ < 0 ∨ at_ ≥ x.synced then 2 else 0
  else 2

def alter (σ : St) (k : Bs) (at_ : Int) (bits : UInt8) : St :=
  if alterE σ k at_ = 0 then match σ.files (num σ.durable k) with
    | none => σ
    | some x => { σ with files := setF σ.files (num σ.durable k) (some { x with bytes := x.bytes.set at_.toNat ((x.bytes[at_.toNat]?.getD 0) ^^^ bits) }) }
  else σ
end Vf
end Go.Proofs.YtlhnjloimhcpfabGreatDoor
namespace Go.Proofs.YtlhnjloimhcpfabGreatDoor
open Go.RowKit Go.Maps Go.MapKept Go.ChangeMaps

theorem lawS : Keyed Tryz.prog 9 := string_keyed Tryz.underlying9
theorem lawI : Keyed Tryz.prog 3 := int_keyed Tryz.underlying3
theorem zeroI (w : World) : (zeroValue 3).run Tryz.prog w = .ok (.int .i64 0) w := by kernel_rfl
theorem zeroP (w : World) : (zeroValue 72).run Tryz.prog w = .ok (.pointer none) w := by kernel_rfl

/-- A text's value. -/
abbrev str (k : Vf.Bs) : Value := .string ⟨k.toArray⟩
theorem str_of (s : ByteArray) : Value.string s = str s.data.toList := by simp
theorem keyS (k : Vf.Bs) (h : k.length ≤ 1000000) : keyOf Tryz.prog 9 (str k) = some (.string k) := by
  have := WideMaps.keyOf_string_mk (P := Tryz.prog) (k := 9) Tryz.underlying9 (s := ⟨k.toArray⟩) (by show k.toArray.size ≤ maxLen; simp [maxLen]; omega)
  simpa using this
theorem wf64 {n : Nat} (h : n ≤ 1000000000000) : (Lit.int .i64 (n : Int)).wf = true := WalkArith.wf_i64 (by omega)
theorem keyI (n : Nat) (h : n ≤ 1000000000000) : keyOf Tryz.prog 3 (.int .i64 (n : Int)) = some (.int .i64 (n : Int)) := keyOf_int_mk Tryz.underlying3 (wf64 h)

theorem keyLitS (k : Vf.Bs) : WideAt.IsKeyLit (.string k) := by trivial
theorem keyLitI (n : Int) : WideAt.IsKeyLit (.int .i64 n) := by trivial

namespace Vf
theorem look_del (m : Nm) (k j : Bs) : look (del m k) j = if j = k then none else look m j := by
  induction m with
  | nil => simp [del, look]
  | cons p r ih =>
    obtain ⟨a, n⟩ := p
    by_cases ha : a = k
    · subst ha
      have : del ((a, n) :: r) a = del r a := by simp [del]
      rw [this, ih]
      by_cases hj : j = a
      · simp [hj]
      · have hj' : ¬ a = j := fun e => hj e.symm
        simp [hj, look, hj']
    · have : del ((a, n) :: r) k = (a, n) :: del r k := by simp [del, ha]
      rw [this]
      show (if a = j then some n else look (del r k) j) = _
      rw [ih]
      by_cases hj : a = j
      · subst hj
        simp [ha, look]
      · simp [look, hj]
theorem look_put (m : Nm) (k : Bs) (n : Nat) (j : Bs) : look (put m k n) j = if j = k then some n else look m j := by
  show (if k = j then some n else look (del m k) j) = _
  rw [look_del]
  by_cases h : j = k
  · simp [h]
  · have h' : ¬ k = j := fun e => h e.symm
    simp [h, h']
theorem look_none (m : Nm) (k : Bs) : look m k = none ↔ k ∉ m.map (·.1) := by
  induction m with
  | nil => simp [look]
  | cons p r ih =>
    obtain ⟨a, n⟩ := p
    by_cases h : a = k
    · simp [look, h]
    · have h' : ¬ k = a := fun e => h e.symm
      simp [look, h, h'] at ih ⊢
      exact ih
theorem look_mem {m : Nm} {k : Bs} {n : Nat} (h : look m k = some n) : (k, n) ∈ m := by
  induction m with
  | nil => simp [look] at h
  | cons p r ih =>
    obtain ⟨a, x⟩ := p
    by_cases ha : a = k
    · subst ha
      simp [look] at h
      subst h
      simp
    · simp [look, ha] at h
      exact List.mem_cons_of_mem _ (ih h)
theorem mem_look {m : Nm} (hd : (m.map (·.1)).Nodup) {k : Bs} {n : Nat} (h : (k, n) ∈ m) : look m k = some n := by
  induction m with
  | nil => simp at h
  | cons p r ih =>
    obtain ⟨a, x⟩ := p
    simp only [List.map_cons, List.nodup_cons] at hd
    rcases List.mem_cons.1 h with e | h'
    · cases e; simp [look]
    · have : a ≠ k := fun e => hd.1 (by subst e; exact List.mem_map_of_mem (f := (·.1)) h')
      simp [look, this]
      exact ih hd.2 h'
theorem del_sub (m : Nm) (k : Bs) : (del m k).Sublist m := List.filter_sublist
theorem del_nodup {m : Nm} (h : (m.map (·.1)).Nodup) (k : Bs) : ((del m k).map (·.1)).Nodup := h.sublist ((del_sub m k).map _)
theorem put_nodup {m : Nm} (h : (m.map (·.1)).Nodup) (k : Bs) (n : Nat) : ((put m k n).map (·.1)).Nodup := by
  refine List.nodup_cons.2 ⟨?_, del_nodup h k⟩
  have := (look_none (del m k) k).1 (by rw [look_del]; simp)
  exact this
theorem del_length {m : Nm} (h : (m.map (·.1)).Nodup) (k : Bs) : (del m k).length + (if (look m k).isSome then 1 else 0) = m.length := by
  induction m with
  | nil => simp [del, look]
  | cons p r ih =>
    obtain ⟨a, x⟩ := p
    simp only [List.map_cons, List.nodup_cons] at h
    by_cases ha : a = k
    · subst ha
      have e1 : del ((a, x) :: r) a = del r a := by simp [del]
      have e2 := ih h.2
      have e3 : look r a = none := (look_none r a).2 h.1
      rw [e3] at e2
      rw [e1]
      simp [look] at e2 ⊢
      exact e2
    · have e1 : del ((a, x) :: r) k = (a, x) :: del r k := by simp [del, ha]
      have e2 := ih h.2
      rw [e1]
      simp [look, ha]
      omega
end Vf

/-- A datum that tells the names and their numbers. -/
structure NmOf (D : DataW Unit) (m : Vf.Nm) : Prop where
  hs : ∀ k, Maps.has D (.string k) = (Vf.look m k).isSome
  at' : ∀ k n, Vf.look m k = some n → ∀ z, D.atKey (.string k) z = .lit (.int .i64 (n : Int))
  size : Maps.size D = m.length
  nodup : (m.map (·.1)).Nodup

theorem NmOf.num {D : DataW Unit} {m : Vf.Nm} (h : NmOf D m) (k : Vf.Bs) : D.atKey (.string k) (.lit (.int .i64 0)) = .lit (.int .i64 (Vf.num m k : Int)) := by
  unfold Vf.num
  cases e : Vf.look m k with
  | none =>
    have := h.hs k
    rw [e] at this
    exact Maps.atKey_of_not_has this _
  | some n => exact h.at' k n e _

theorem lit_ne {k j : Vf.Bs} (h : j ≠ k) : (Lit.string j) ≠ .string k := fun e => h (by cases e; rfl)

theorem NmOf.put {D : DataW Unit} {m : Vf.Nm} (h : NmOf D m) (hm : IsMap D) (ht : Tidy D) (k : Vf.Bs) (n : Nat) : NmOf (D.put (.string k) (.lit (.int .i64 (n : Int)))) (Vf.put m k n) := by
  refine ⟨fun j => ?_, fun j c hj z => ?_, ?_, Vf.put_nodup h.nodup k n⟩
  · rw [Vf.look_put]
    by_cases e : j = k
    · subst e; simp [Maps.has_put_same hm (keyLitS j)]
    · simp [e, Maps.has_put_other (lit_ne e), h.hs j]
  · rw [Vf.look_put] at hj
    by_cases e : j = k
    · subst e
      simp at hj
      subst hj
      exact Maps.atKey_put_same hm (keyLitS j) _ _
    · simp [e] at hj
      rw [Maps.atKey_put_other (lit_ne e)]
      exact h.at' j c hj z
  · rw [Maps.size_put ht, h.hs k, h.size]
    have := Vf.del_length h.nodup k
    show _ = (Vf.del m k).length + 1
    cases e : (Vf.look m k).isSome <;> simp [e] at this ⊢ <;> omega
theorem NmOf.del {D : DataW Unit} {m : Vf.Nm} (h : NmOf D m) (ht : Tidy D) (k : Vf.Bs) : NmOf (D.del (.string k)) (Vf.del m k) := by
  refine ⟨fun j => ?_, fun j c hj z => ?_, ?_, Vf.del_nodup h.nodup k⟩
  · rw [Vf.look_del]
    by_cases e : j = k
    · subst e; simp [Maps.has_del_same]
    · simp [e, Maps.has_del_other (lit_ne e), h.hs j]
  · rw [Vf.look_del] at hj
    by_cases e : j = k
    · simp [e] at hj
    · simp [e] at hj
      rw [Maps.atKey_del_other (lit_ne e)]
      exact h.at' j c hj z
  · have e1 := Maps.size_del (D := D) (k := .string k) ht
    have e2 := Vf.del_length h.nodup k
    rw [h.hs k, h.size] at e1
    omega

theorem ownsMap_tight {P : Program} {k : TypeId} {R : Value → Option (DataW Unit × List MemPlace)} {w : World} {b n : Nat} {D : DataW Unit} (h : w.ownsMap P k R b n D) : w.ownsMap P k R b (Maps.size D) D := by
  obtain ⟨es, clock, hb, F, hs, rfl⟩ := h
  exact ⟨es, clock, hb, F, by simp [Maps.size, length_sorted], rfl⟩

/-- Block b is a map of these names. -/
def NamesAt (w : World) (b : Nat) (m : Vf.Nm) : Prop := ∃ D : DataW Unit, w.ownsMap Tryz.prog 9 (plainElem Tryz.prog 3) b m.length D ∧ NmOf D m

theorem NamesAt.lt {w : World} {b : Nat} {m : Vf.Nm} (h : NamesAt w b m) : b < w.heap.size := by obtain ⟨D, h, _⟩ := h; exact h.lt
theorem NamesAt.same {w w' : World} {b : Nat} {m : Vf.Nm} (h : NamesAt w b m) (e : w'.heap[b]? = w.heap[b]?) : NamesAt w' b m := by
  obtain ⟨D, ⟨es, clock, hb, r⟩, hn⟩ := h
  exact ⟨D, ⟨es, clock, e.trans hb, r⟩, hn⟩
theorem NamesAt.nodup {w : World} {b : Nat} {m : Vf.Nm} (h : NamesAt w b m) : (m.map (·.1)).Nodup := by obtain ⟨D, _, h⟩ := h; exact h.nodup

/-- How a pointer to a file is told apart. -/
def fileElem : Value → Option (DataW Unit × List MemPlace)
  | .pointer none => some (.lit (.int .i64 (-1)), [])
  | .pointer (some ⟨g, 0, none⟩) => some (.lit (.int .i64 (g : Int)), [])
  | _ => none
theorem fileElem_inv {v : Value} {g : Nat} {ps : List MemPlace} (h : fileElem v = some (.lit (.int .i64 (g : Int)), ps)) : v = .pointer (some ⟨g, 0, none⟩) := by
  unfold fileElem at h
  split at h
  · simp at h
  · rename_i g'
    simp at h
    have e : g' = g := by omega
    rw [e]
  · cases h
theorem fileElem_none {v : Value} {ps : List MemPlace} (h : fileElem v = some (.lit (.int .i64 (-1)), ps)) : v = .pointer none := by
  unfold fileElem at h
  split at h
  · rfl
  · simp at h
  · cases h

/-- A datum that tells which block a file's number has. -/
structure FmOf (D : DataW Unit) (fs : Nat → Option Nat) : Prop where
  hs : ∀ n : Nat, Maps.has D (.int .i64 (n : Int)) = (fs n).isSome
  at' : ∀ n g, fs n = some g → ∀ z, D.atKey (.int .i64 (n : Int)) z = .lit (.int .i64 (g : Int))

def ptr (x : Option Nat) : Value := match x with | none => .pointer none | some g => .pointer (some ⟨g, 0, none⟩)
def setG (fs : Nat → Option Nat) (n : Nat) (x : Option Nat) : Nat → Option Nat := fun k => if k = n then x else fs k

theorem int_ne {k j : Nat} (h : j ≠ k) : (Lit.int .i64 (j : Int)) ≠ .int .i64 (k : Int) := fun e => h (by injection e; omega)
theorem FmOf.put {D : DataW Unit} {fs : Nat → Option Nat} (h : FmOf D fs) (hm : IsMap D) (n g : Nat) : FmOf (D.put (.int .i64 (n : Int)) (.lit (.int .i64 (g : Int)))) (setG fs n (some g)) := by
  refine ⟨fun j => ?_, fun j c hj z => ?_⟩
  · by_cases e : j = n
    · subst e; simp [setG, Maps.has_put_same hm (keyLitI _)]
    · simp [setG, e, Maps.has_put_other (int_ne e), h.hs j]
  · by_cases e : j = n
    · subst e
      simp [setG] at hj
      subst hj
      exact Maps.atKey_put_same hm (keyLitI _) _ _
    · simp [setG, e] at hj
      rw [Maps.atKey_put_other (int_ne e)]
      exact h.at' j c hj z
theorem FmOf.del {D : DataW Unit} {fs : Nat → Option Nat} (h : FmOf D fs) (n : Nat) : FmOf (D.del (.int .i64 (n : Int))) (setG fs n none) := by
  refine ⟨fun j => ?_, fun j c hj z => ?_⟩
  · by_cases e : j = n
    · subst e; simp [setG, Maps.has_del_same]
    · simp [setG, e, Maps.has_del_other (int_ne e), h.hs j]
  · by_cases e : j = n
    · simp [setG, e] at hj
    · simp [setG, e] at hj
      rw [Maps.atKey_del_other (int_ne e)]
      exact h.at' j c hj z

/-- Block b is a map of these files, of at most N. -/
def PtrsAt (w : World) (b N : Nat) (fs : Nat → Option Nat) : Prop := ∃ D : DataW Unit, w.ownsMap Tryz.prog 3 fileElem b N D ∧ FmOf D fs

theorem PtrsAt.lt {w : World} {b N : Nat} {fs : Nat → Option Nat} (h : PtrsAt w b N fs) : b < w.heap.size := by obtain ⟨D, h, _⟩ := h; exact h.lt
theorem PtrsAt.mono {w : World} {b N N' : Nat} {fs : Nat → Option Nat} (h : PtrsAt w b N fs) (hN : N ≤ N') : PtrsAt w b N' fs := by obtain ⟨D, h, h'⟩ := h; exact ⟨D, h.mono hN, h'⟩
theorem PtrsAt.same {w w' : World} {b N : Nat} {fs : Nat → Option Nat} (h : PtrsAt w b N fs) (e : w'.heap[b]? = w.heap[b]?) : PtrsAt w' b N fs := by
  obtain ⟨D, ⟨es, clock, hb, r⟩, hn⟩ := h
  exact ⟨D, ⟨es, clock, e.trans hb, r⟩, hn⟩

/-! ### what the operations do -/
theorem NamesAt.look {w : World} {b : Nat} {m : Vf.Nm} (h : NamesAt w b m) (k : Vf.Bs) (hk : k.length ≤ 1000000) : (Instr.lookup 56 (.map (some b)) (str k) false).run Tryz.prog w = .ok (.int .i64 (Vf.num m k : Int)) w := by
  obtain ⟨D, h, hn⟩ := h
  obtain ⟨c, hrun, hat, _⟩ := h.lookup_int lawS Tryz.underlying56 Tryz.underlying3 (zeroI _) (keyS k hk)
  rw [hn.num k] at hat
  simp only [DataW.lit.injEq, Lit.int.injEq, true_and] at hat
  rw [hrun, hat]
theorem NamesAt.look_ok {w : World} {b : Nat} {m : Vf.Nm} (h : NamesAt w b m) (k : Vf.Bs) (hk : k.length ≤ 1000000) : (Instr.lookup 56 (.map (some b)) (str k) true).run Tryz.prog w = .ok (.tuple #[.int .i64 (Vf.num m k : Int), .bool (Vf.look m k).isSome]) w := by
  obtain ⟨D, h, hn⟩ := h
  obtain ⟨v, ps, hrun, hv⟩ := h.look_ok lawS Tryz.underlying56 (zeroI _) (plainElem_int Tryz.underlying3 (by decide)) (keyS k hk)
  rw [hn.num k] at hv
  obtain ⟨c, rfl, hc, _⟩ := plainElem_int_inv Tryz.underlying3 hv
  simp only [Prod.mk.injEq, DataW.lit.injEq, Lit.int.injEq, true_and] at hc
  rw [hrun, hn.hs k, hc.1]
theorem NamesAt.put {w : World} {b : Nat} {m : Vf.Nm} (h : NamesAt w b m) (k : Vf.Bs) (hk : k.length ≤ 1000000) (n : Nat) (hn : n ≤ 1000000000000) (hm : m.length ≤ 1000000000000) :
    ∃ w', (Instr.mapUpdate 56 (.map (some b)) (str k) (.int .i64 (n : Int))).run Tryz.prog w = .ok () w' ∧ NamesAt w' b (Vf.put m k n) ∧ w.grownBy w' (some b) ∧ w'.heap.size = w.heap.size := by
  obtain ⟨D, h, hD⟩ := h
  obtain ⟨w', hrun, ho, ht⟩ := h.store lawS Tryz.underlying56 (by unfold maxLen; omega) (keyS k hk) (plainElem_int Tryz.underlying3 (wf64 hn))
  have hD' := hD.put h.isMap (h.tidy lawS) k n
  have ho' := ownsMap_tight ho
  rw [hD'.size] at ho'
  refine ⟨w', hrun, ⟨_, ho', hD'⟩, ht.grown, ?_⟩
  obtain ⟨es, clock, es', clock', _, rfl⟩ := ht
  simp [setBlock]
theorem NamesAt.del {w : World} {b : Nat} {m : Vf.Nm} (h : NamesAt w b m) (k : Vf.Bs) (hk : k.length ≤ 1000000) (ty : TypeId) :
    ∃ w', (Builtin.delete_ #[56, 9] ty #[.map (some b), str k]).run Tryz.prog w = .ok (.tuple #[]) w' ∧ NamesAt w' b (Vf.del m k) ∧ w.grownBy w' (some b) ∧ w'.heap.size = w.heap.size := by
  obtain ⟨D, h, hD⟩ := h
  obtain ⟨w', hrun, ho, ht⟩ := h.drop lawS Tryz.underlying56 (keyS k hk) ty
  have hD' := hD.del (h.tidy lawS) k
  have ho' := ownsMap_tight ho
  rw [hD'.size] at ho'
  refine ⟨w', hrun, ⟨_, ho', hD'⟩, ht.grown, ?_⟩
  obtain ⟨es, clock, es', clock', _, rfl⟩ := ht
  simp [setBlock]

theorem PtrsAt.look {w : World} {b N : Nat} {fs : Nat → Option Nat} (h : PtrsAt w b N fs) (n : Nat) (hn : n ≤ 1000000000000) : (Instr.lookup 55 (.map (some b)) (.int .i64 (n : Int)) false).run Tryz.prog w = .ok (ptr (fs n)) w := by
  obtain ⟨D, h, hD⟩ := h
  obtain ⟨v, ps, hrun, hv⟩ := h.lookup lawI Tryz.underlying55 (zeroP _) (zd := .lit (.int .i64 (-1))) (zp := []) rfl (keyI n hn)
  rw [hrun]
  cases e : fs n with
  | none =>
    have h0 : Maps.has D (.int .i64 (n : Int)) = false := by rw [hD.hs n, e]; rfl
    rw [Maps.atKey_of_not_has h0] at hv
    rw [fileElem_none hv]; rfl
  | some g =>
    rw [hD.at' n g e] at hv
    rw [fileElem_inv hv]; rfl
theorem PtrsAt.put {w : World} {b N : Nat} {fs : Nat → Option Nat} (h : PtrsAt w b N fs) (n : Nat) (hn : n ≤ 1000000000000) (g : Nat) (hN : N ≤ 1000000000000) :
    ∃ w', (Instr.mapUpdate 55 (.map (some b)) (.int .i64 (n : Int)) (.pointer (some ⟨g, 0, none⟩))).run Tryz.prog w = .ok () w' ∧ PtrsAt w' b (N + 1) (setG fs n (some g)) ∧ w.grownBy w' (some b) ∧ w'.heap.size = w.heap.size := by
  obtain ⟨D, h, hD⟩ := h
  obtain ⟨w', hrun, ho, ht⟩ := h.store lawI Tryz.underlying55 (by unfold maxLen; omega) (keyI n hn) (val := .pointer (some ⟨g, 0, none⟩)) (d := .lit (.int .i64 (g : Int))) (ps := []) rfl
  refine ⟨w', hrun, ⟨_, ho, hD.put h.isMap n g⟩, ht.grown, ?_⟩
  obtain ⟨es, clock, es', clock', _, rfl⟩ := ht
  simp [setBlock]
theorem PtrsAt.del {w : World} {b N : Nat} {fs : Nat → Option Nat} (h : PtrsAt w b N fs) (n : Nat) (hn : n ≤ 1000000000000) (ty : TypeId) :
    ∃ w', (Builtin.delete_ #[55, 3] ty #[.map (some b), .int .i64 (n : Int)]).run Tryz.prog w = .ok (.tuple #[]) w' ∧ PtrsAt w' b N (setG fs n none) ∧ w.grownBy w' (some b) ∧ w'.heap.size = w.heap.size := by
  obtain ⟨D, h, hD⟩ := h
  obtain ⟨w', hrun, ho, ht⟩ := h.drop lawI Tryz.underlying55 (keyI n hn) ty
  refine ⟨w', hrun, ⟨_, ho, hD.del n⟩, ht.grown, ?_⟩
  obtain ⟨es, clock, es', clock', _, rfl⟩ := ht
  simp [setBlock]

theorem NamesAt.made (w : World) : NamesAt (w.alloc (.map #[] 0)) w.heap.size [] :=
  ⟨_, World.ownsMap_made w _ _ _, ⟨fun k => by simp [Vf.look, Maps.has], fun k n h => by simp [Vf.look] at h, rfl, List.nodup_nil⟩⟩
theorem PtrsAt.made (w : World) : PtrsAt (w.alloc (.map #[] 0)) w.heap.size 0 (fun _ => none) :=
  ⟨_, World.ownsMap_made w _ _ _, ⟨fun k => by simp [Maps.has], fun k n h => by simp at h⟩⟩

/-! ### .. and as a walk meets them -/
section
variable (w : World) {ops : Array Oper} {rest : List Oper} {o : Oper} {a : Act} {Q : Exit → Act → World → Prop}
theorem wpList_names_look (hg : o.guard = none) (m x : Operand) (hop : o.op = Op.lookup 56 m x false) (b : Nat) (M : Vf.Nm) (k : Vf.Bs) (hm : a.eval m = .map (some b)) (hx : a.eval x = str k) (h : NamesAt w b M) (hk : k.length ≤ 1000000)
    (hK : wpList Tryz.prog ops Q rest (a.put o.dst (.int .i64 (Vf.num M k : Int))) w) : wpList Tryz.prog ops Q (o :: rest) a w := by
  refine wpList_plain hg fun K' hK' => ?_
  unfold Oper.wp
  simp [execOp, hop, hm, hx, h.look k hk, Result.andThen]
  exact hK' _ _ hK
theorem wpList_names_look_ok (hg : o.guard = none) (m x : Operand) (hop : o.op = Op.lookup 56 m x true) (b : Nat) (M : Vf.Nm) (k : Vf.Bs) (hm : a.eval m = .map (some b)) (hx : a.eval x = str k) (h : NamesAt w b M) (hk : k.length ≤ 1000000)
    (hK : wpList Tryz.prog ops Q rest (a.put o.dst (.tuple #[.int .i64 (Vf.num M k : Int), .bool (Vf.look M k).isSome])) w) : wpList Tryz.prog ops Q (o :: rest) a w := by
  refine wpList_plain hg fun K' hK' => ?_
  unfold Oper.wp
  simp [execOp, hop, hm, hx, h.look_ok k hk, Result.andThen]
  exact hK' _ _ hK
theorem wpList_names_put (hg : o.guard = none) (m x v : Operand) (hop : o.op = Op.mapUpdate 56 m x v) (b : Nat) (M : Vf.Nm) (k : Vf.Bs) (n : Nat) (hm : a.eval m = .map (some b)) (hx : a.eval x = str k) (hv : a.eval v = .int .i64 (n : Int)) (h : NamesAt w b M) (hk : k.length ≤ 1000000) (hn : n ≤ 1000000000000) (hM : M.length ≤ 1000000000000)
    (hK : ∀ w', NamesAt w' b (Vf.put M k n) → w.grownBy w' (some b) → w'.heap.size = w.heap.size → wpList Tryz.prog ops Q rest (a.put o.dst undef) w') : wpList Tryz.prog ops Q (o :: rest) a w := by
  refine wpList_plain hg fun K' hK' => ?_
  obtain ⟨w', hrun, r1, r2, r3⟩ := h.put k hk n hn hM
  unfold Oper.wp
  simp [execOp, hop, hm, hx, hv, hrun, Result.andThen]
  exact hK' _ _ (hK w' r1 r2 r3)
theorem wpList_names_del (hg : o.guard = none) (m x : Operand) (hop : o.op = Op.call { callee := Callee.builtin Builtin.delete, args := #[m, x], argTypes := #[56, 9] }) (b : Nat) (M : Vf.Nm) (k : Vf.Bs) (hm : a.eval m = .map (some b)) (hx : a.eval x = str k) (h : NamesAt w b M) (hk : k.length ≤ 1000000)
    (hK : ∀ w', NamesAt w' b (Vf.del M k) → w.grownBy w' (some b) → w'.heap.size = w.heap.size → wpList Tryz.prog ops Q rest (a.put o.dst (.tuple #[])) w') : wpList Tryz.prog ops Q (o :: rest) a w := by
  refine wpList_plain hg fun K' hK' => ?_
  obtain ⟨w', hrun, r1, r2, r3⟩ := h.del k hk o.type
  unfold Oper.wp
  simp [execOp, hop, resolve, invoke, builtin, hm, hx, hrun, Result.andThen]
  exact hK' _ _ (hK w' r1 r2 r3)
theorem wpList_ptrs_look (hg : o.guard = none) (m x : Operand) (hop : o.op = Op.lookup 55 m x false) (b N : Nat) (fs : Nat → Option Nat) (n : Nat) (hm : a.eval m = .map (some b)) (hx : a.eval x = .int .i64 (n : Int)) (h : PtrsAt w b N fs) (hn : n ≤ 1000000000000)
    (hK : wpList Tryz.prog ops Q rest (a.put o.dst (ptr (fs n))) w) : wpList Tryz.prog ops Q (o :: rest) a w := by
  refine wpList_plain hg fun K' hK' => ?_
  unfold Oper.wp
  simp [execOp, hop, hm, hx, h.look n hn, Result.andThen]
  exact hK' _ _ hK
theorem wpList_ptrs_put (hg : o.guard = none) (m x v : Operand) (hop : o.op = Op.mapUpdate 55 m x v) (b N : Nat) (fs : Nat → Option Nat) (n g : Nat) (hm : a.eval m = .map (some b)) (hx : a.eval x = .int .i64 (n : Int)) (hv : a.eval v = .pointer (some ⟨g, 0, none⟩)) (h : PtrsAt w b N fs) (hn : n ≤ 1000000000000) (hN : N ≤ 1000000000000)
    (hK : ∀ w', PtrsAt w' b (N + 1) (setG fs n (some g)) → w.grownBy w' (some b) → w'.heap.size = w.heap.size → wpList Tryz.prog ops Q rest (a.put o.dst undef) w') : wpList Tryz.prog ops Q (o :: rest) a w := by
  refine wpList_plain hg fun K' hK' => ?_
  obtain ⟨w', hrun, r1, r2, r3⟩ := h.put n hn g hN
  unfold Oper.wp
  simp [execOp, hop, hm, hx, hv, hrun, Result.andThen]
  exact hK' _ _ (hK w' r1 r2 r3)
theorem wpList_ptrs_del (hg : o.guard = none) (m x : Operand) (hop : o.op = Op.call { callee := Callee.builtin Builtin.delete, args := #[m, x], argTypes := #[55, 3] }) (b N : Nat) (fs : Nat → Option Nat) (n : Nat) (hm : a.eval m = .map (some b)) (hx : a.eval x = .int .i64 (n : Int)) (h : PtrsAt w b N fs) (hn : n ≤ 1000000000000)
    (hK : ∀ w', PtrsAt w' b N (setG fs n none) → w.grownBy w' (some b) → w'.heap.size = w.heap.size → wpList Tryz.prog ops Q rest (a.put o.dst (.tuple #[])) w') : wpList Tryz.prog ops Q (o :: rest) a w := by
  refine wpList_plain hg fun K' hK' => ?_
  obtain ⟨w', hrun, r1, r2, r3⟩ := h.del n hn o.type
  unfold Oper.wp
  simp [execOp, hop, resolve, invoke, builtin, hm, hx, hrun, Result.andThen]
  exact hK' _ _ (hK w' r1 r2 r3)
end
end Go.Proofs.YtlhnjloimhcpfabGreatDoor
namespace Go.Proofs.YtlhnjloimhcpfabGreatDoor
open Go.RowKit Go.Maps

/-- Nothing has turned but blocks of S, and new ones. -/
structure Moved (S : Nat → Prop) (w w' : World) : Prop where
  os : w'.os = w.os
  tape : w'.tape = w.tape
  output : w'.output = w.output
  size : w.heap.size ≤ w'.heap.size
  block : ∀ k, k < w.heap.size → ¬ S k → w'.heap[k]? = w.heap[k]?

/-- S, and the blocks that came since. -/
def grow (S : Nat → Prop) (w w' : World) : Nat → Prop := fun i => S i ∨ (w.heap.size ≤ i ∧ i < w'.heap.size)

theorem Moved.refl (S : Nat → Prop) (w : World) : Moved S w w := ⟨rfl, rfl, rfl, Nat.le_refl _, fun _ _ _ => rfl⟩
theorem Moved.trans {S T : Nat → Prop} {a b c : World} (h : Moved S a b) (k : Moved T b c) (hT : ∀ i, i < a.heap.size → T i → S i) : Moved S a c :=
  ⟨k.os.trans h.os, k.tape.trans h.tape, k.output.trans h.output, Nat.le_trans h.size k.size, fun i hi hs => (k.block i (Nat.lt_of_lt_of_le hi h.size) (fun ht => hs (hT i hi ht))).trans (h.block i hi hs)⟩
theorem Moved.grow {S : Nat → Prop} {a b c : World} (h : Moved S a b) (k : Moved (grow S a b) b c) : Moved S a c := h.trans k fun i hi ht => by
  rcases ht with ht | ht
  · exact ht
  · omega
theorem Moved.drew {S : Nat → Prop} {a b : World} (h : Moved S a b) : Moved S a b.drew := ⟨h.os, h.tape, h.output, h.size, h.block⟩
theorem Moved.below {S : Nat → Prop} {w w' : World} (h : Below w.heap.size w w') : Moved S w w' := ⟨h.os, h.tape, h.output, h.size, fun i hi _ => h.block i hi⟩
theorem Moved.alloc {S : Nat → Prop} {a b : World} (h : Moved S a b) (o : Obj) : Moved S a (b.alloc o) := h.trans (T := fun _ => False) (Moved.below ((Below.refl _ _).alloc (Nat.le_refl _) o)) (fun _ _ h => h.elim)
theorem Moved.grown {S : Nat → Prop} {a b c : World} {row : Option Nat} (h : Moved S a b) (hg : b.grownBy c row) (hr : ∀ k, row = some k → k < a.heap.size → S k) : Moved S a c :=
  h.trans (T := fun i => row = some i) ⟨hg.os, hg.tape, hg.output, hg.size, fun i hi hs => hg.block i hi (fun e => hs e.symm)⟩ (fun i hi ht => hr i ht hi)
theorem Moved.setCell {S : Nat → Prop} {a b : World} (h : Moved S a b) {p : Addr} (hp : p.block < a.heap.size → S p.block) (u : Value) : Moved S a (b.setCell p u) :=
  h.trans (T := fun i => i = p.block) ⟨rfl, rfl, rfl, by simp [World.setCell], fun i _ hs => Below.heap_setCell _ _ _ _ hs⟩ (fun i hi ht => by subst ht; exact hp hi)
theorem Moved.under {S : Nat → Prop} {a b : World} (h : Moved S a b) {B : Nat} (hB : B ≤ a.heap.size) (hS : ∀ i, S i → B ≤ i) : Below B a b := ⟨h.os, h.tape, h.output, h.size, fun i hi => h.block i (by omega) (fun hs => by have := hS i hs; omega)⟩

/-- The cells of a step. -/
def sc (s : Vf.Step) : List Value := [.int .i64 (s.kind : Int), .int .i64 (s.file : Int), .int .i64 (s.size : Int), str s.name, str s.to]
def scs (l : List Vf.Step) : List Value := l.flatMap sc
theorem scs_length (l : List Vf.Step) : (scs l).length = l.length * 5 := by
  induction l with
  | nil => rfl
  | cons s r ih =>
    have : scs (s :: r) = sc s ++ scs r := rfl
    rw [this, List.length_append, ih, List.length_cons]
    show 5 + _ = _
    omega
theorem scs_append (l m : List Vf.Step) : scs (l ++ m) = scs l ++ scs m := by simp [scs]

def fsCells (σ : Vf.St) (bf bh bd : Nat) (pv : Value) : Array Value := #[.int .i64 (σ.room : Int), .int .i64 σ.used, .bool σ.on, .int .i64 σ.fuse, .int .i64 (σ.steps : Int), .map (some bf), .map (some bh), .map (some bd), pv]

structure RepAt (w : World) (b bf bh bd : Nat) (pv : Value) (fs : Nat → Option Nat) (sl : Nat → Value) (σ : Vf.St) (S : Nat → Prop) : Prop where
  blk : w.heap[b]? = some (.cells (fsCells σ bf bh bd pv) 59 (0, 0))
  files : PtrsAt w bf σ.steps fs
  held : NamesAt w bh σ.held
  dur : NamesAt w bd σ.durable
  pend : w.ownsRow 0 102 5 pv σ.pending.length (scs σ.pending)
  dom : ∀ n, (fs n).isSome = (σ.files n).isSome
  file : ∀ n g x, fs n = some g → σ.files n = some x → w.heap[g]? = some (.cells #[sl n, .int .i64 (x.synced : Int)] 71 (0, 0)) ∧ w.ownsRow 0 5 1 (sl n) x.bytes.length (bc x.bytes)
  inj : ∀ n n' g, fs n = some g → fs n' = some g → n = n'
  rows : ∀ n n' g, fs n ≠ none → fs n' ≠ none → (sl n).ownBlock = some g → (sl n').ownBlock = some g → n = n'
  fh : bf ≠ bh
  fd : bf ≠ bd
  hd : bh ≠ bd
  sb : S b
  sf : S bf
  sh : S bh
  sd : S bd
  sp : ∀ g, pv.ownBlock = some g → S g
  sg : ∀ n g, fs n = some g → S g
  sr : ∀ n g, fs n ≠ none → (sl n).ownBlock = some g → S g
  low : ∀ i, S i → i < w.heap.size

/-- A file system lies at block b, in blocks of S alone. -/
def Rep (w : World) (b : Nat) (σ : Vf.St) (S : Nat → Prop) : Prop := ∃ bf bh bd pv fs sl, RepAt w b bf bh bd pv fs sl σ S

theorem ownsRow_same {w w' : World} {base e size : Nat} {v : Value} {n : Nat} {xs : List Value} (h : w.ownsRow base e size v n xs) (hs : ∀ g, v.ownBlock = some g → w'.heap[g]? = w.heap[g]?) : w'.ownsRow base e size v n xs := by
  refine ⟨h.1, ?_⟩
  rcases h.2 with h' | ⟨g, cap, cur, e, h1, h2, h3⟩
  · exact .inl h'
  · refine .inr ⟨g, cap, cur, e, h1, ?_, h3⟩
    rw [hs g (by rw [e]; rfl)]
    exact h2

theorem RepAt.same {w w' : World} {b bf bh bd : Nat} {pv : Value} {fs : Nat → Option Nat} {sl : Nat → Value} {σ : Vf.St} {S : Nat → Prop} (h : RepAt w b bf bh bd pv fs sl σ S) (hs : ∀ i, S i → w'.heap[i]? = w.heap[i]?) (hz : w.heap.size ≤ w'.heap.size) : RepAt w' b bf bh bd pv fs sl σ S :=
  ⟨(hs b h.sb).trans h.blk, h.files.same (hs bf h.sf), h.held.same (hs bh h.sh), h.dur.same (hs bd h.sd), ownsRow_same h.pend fun g hg => hs g (h.sp g hg), h.dom,
    fun n g x h1 h2 => ⟨(hs g (h.sg n g h1)).trans (h.file n g x h1 h2).1, ownsRow_same (h.file n g x h1 h2).2 fun r hr => hs r (h.sr n r (by rw [h1]; simp) hr)⟩,
    h.inj, h.rows, h.fh, h.fd, h.hd, h.sb, h.sf, h.sh, h.sd, h.sp, h.sg, h.sr, fun i hi => Nat.lt_of_lt_of_le (h.low i hi) hz⟩

theorem Rep.same {w w' : World} {b : Nat} {σ : Vf.St} {S : Nat → Prop} (h : Rep w b σ S) (hs : ∀ i, S i → w'.heap[i]? = w.heap[i]?) (hz : w.heap.size ≤ w'.heap.size) : Rep w' b σ S := by
  obtain ⟨bf, bh, bd, pv, fs, sl, h⟩ := h
  exact ⟨bf, bh, bd, pv, fs, sl, h.same hs hz⟩
theorem RepAt.later {w w' : World} {b bf bh bd : Nat} {pv : Value} {fs : Nat → Option Nat} {sl : Nat → Value} {σ : Vf.St} {S : Nat → Prop} (h : RepAt w b bf bh bd pv fs sl σ S) (hb : Below w.heap.size w w') : RepAt w' b bf bh bd pv fs sl σ S := h.same (fun i hi => hb.block i (h.low i hi)) hb.size
theorem Rep.later {w w' : World} {b : Nat} {σ : Vf.St} {S : Nat → Prop} (h : Rep w b σ S) (hb : Below w.heap.size w w') : Rep w' b σ S := by
  obtain ⟨bf, bh, bd, pv, fs, sl, h⟩ := h
  exact ⟨bf, bh, bd, pv, fs, sl, h.later hb⟩
theorem Rep.low {w : World} {b : Nat} {σ : Vf.St} {S : Nat → Prop} (h : Rep w b σ S) : ∀ i, S i → i < w.heap.size := by
  obtain ⟨bf, bh, bd, pv, fs, sl, h⟩ := h
  exact h.low
theorem RepAt.wide {w : World} {b bf bh bd : Nat} {pv : Value} {fs : Nat → Option Nat} {sl : Nat → Value} {σ : Vf.St} {S T : Nat → Prop} (h : RepAt w b bf bh bd pv fs sl σ S) (hs : ∀ i, S i → T i) (hz : ∀ i, T i → i < w.heap.size) : RepAt w b bf bh bd pv fs sl σ T :=
  ⟨h.blk, h.files, h.held, h.dur, h.pend, h.dom, h.file, h.inj, h.rows, h.fh, h.fd, h.hd, hs _ h.sb, hs _ h.sf, hs _ h.sh, hs _ h.sd, fun g hg => hs _ (h.sp g hg), fun n g hg => hs _ (h.sg n g hg), fun n g h1 h2 => hs _ (h.sr n g h1 h2), hz⟩
theorem Rep.wide {w : World} {b : Nat} {σ : Vf.St} {S T : Nat → Prop} (h : Rep w b σ S) (hs : ∀ i, S i → T i) (hz : ∀ i, T i → i < w.heap.size) : Rep w b σ T := by
  obtain ⟨bf, bh, bd, pv, fs, sl, h⟩ := h
  exact ⟨bf, bh, bd, pv, fs, sl, h.wide hs hz⟩
/-- Over two calls. -/
theorem Rep.grow2 {a b' c : World} {b : Nat} {σ : Vf.St} {S : Nat → Prop} (h : Rep c b σ (grow (grow S a b') b' c)) (h1 : a.heap.size ≤ b'.heap.size) (h2 : b'.heap.size ≤ c.heap.size) : Rep c b σ (grow S a c) :=
  h.wide (fun i hi => by
    rcases hi with (hi | hi) | hi
    · exact .inl hi
    · exact .inr ⟨hi.1, by omega⟩
    · exact .inr ⟨by omega, hi.2⟩) (fun i hi => by
    rcases hi with hi | hi
    · exact h.low i (.inl (.inl hi))
    · exact hi.2)
theorem Rep.grow1 {a c : World} {b : Nat} {σ : Vf.St} {S : Nat → Prop} (h : Rep c b σ S) : Rep c b σ (grow S a c) :=
  h.wide (fun i hi => .inl hi) (fun i hi => by
    rcases hi with hi | hi
    · exact h.low i hi
    · exact hi.2)

/-- The fields, as a walk reads them. -/
theorem RepAt.cells {w : World} {b bf bh bd : Nat} {pv : Value} {fs : Nat → Option Nat} {sl : Nat → Value} {σ : Vf.St} {S : Nat → Prop} (h : RepAt w b bf bh bd pv fs sl σ S) :
    w.cell? ⟨b, 0, none⟩ = some (.int .i64 (σ.room : Int)) ∧ w.cell? ⟨b, 1, none⟩ = some (.int .i64 σ.used) ∧ w.cell? ⟨b, 2, none⟩ = some (.bool σ.on) ∧ w.cell? ⟨b, 3, none⟩ = some (.int .i64 σ.fuse) ∧ w.cell? ⟨b, 4, none⟩ = some (.int .i64 (σ.steps : Int))
    ∧ w.cell? ⟨b, 5, none⟩ = some (.map (some bf)) ∧ w.cell? ⟨b, 6, none⟩ = some (.map (some bh)) ∧ w.cell? ⟨b, 7, none⟩ = some (.map (some bd)) ∧ w.cell? ⟨b, 8, none⟩ = some pv := by
  refine ⟨?_, ?_, ?_, ?_, ?_, ?_, ?_, ?_, ?_⟩ <;> exact Joins.cell_of_block h.blk _
theorem RepAt.unfrozen {w : World} {b bf bh bd : Nat} {pv : Value} {fs : Nat → Option Nat} {sl : Nat → Value} {σ : Vf.St} {S : Nat → Prop} (h : RepAt w b bf bh bd pv fs sl σ S) (i : Nat) : w.frozen? ⟨b, i, none⟩ = false := Joins.unfrozen_of_block h.blk i
end Go.Proofs.YtlhnjloimhcpfabGreatDoor
namespace Go.Proofs.YtlhnjloimhcpfabGreatDoor
open Go.RowKit Go.Maps

/-- A call that leaves the world as it was. -/
theorem still {f : FuncId} {args : Array Value} {w : World} {v : Ending} (c : Calls Tryz.prog f args w fun e w' => e = v ∧ w' = w) {K : Ending → World → Prop} (h : K v w) : Calls Tryz.prog f args w K := c.mono (by rintro e w' ⟨rfl, rfl⟩; exact h)

theorem neqM (w : World) (r : Option Nat) : (binOp .neq 55 (.map r) (.map none)).run Tryz.prog w = .ok (.bool (!r.isNone)) w := run_neq_map_nil w _ _ _ r Tryz.underlying55

theorem made_nil (w : World) : Calls Tryz.prog 34 #[.pointer none] w fun e w' => e = .returned (.bool false) ∧ w' = w := by
  have q := neqM
  go_enter Tryz.func34, Tryz.ntmps34
  go_wp2
  go_ret
  exact ⟨rfl, rfl⟩
theorem made_zero (w : World) (b : Nat) (h : w.cell? ⟨b, 5, none⟩ = some (.map none)) : Calls Tryz.prog 34 #[.pointer (some ⟨b, 0, none⟩)] w fun e w' => e = .returned (.bool false) ∧ w' = w := by
  have q := neqM
  go_enter Tryz.func34, Tryz.ntmps34
  go_wp2
  go_ret
  exact ⟨rfl, rfl⟩
theorem made_some (w : World) (b bf : Nat) (h : w.cell? ⟨b, 5, none⟩ = some (.map (some bf))) : Calls Tryz.prog 34 #[.pointer (some ⟨b, 0, none⟩)] w fun e w' => e = .returned (.bool true) ∧ w' = w := by
  have q := neqM
  go_enter Tryz.func34, Tryz.ntmps34
  go_wp2
  go_ret
  exact ⟨rfl, rfl⟩

/-- The first signs of a text that may be in a name. -/
def fineTo (k : Vf.Bs) (j : Nat) : Bool := (k.take j).all (fun c => decide (33 ≤ c.toNat) && decide (c.toNat ≤ 126))
theorem fineTo_succ (k : Vf.Bs) (j : Nat) (h : j < k.length) : fineTo k (j + 1) = (fineTo k j && (decide (33 ≤ (k[j]).toNat) && decide ((k[j]).toNat ≤ 126))) := by
  unfold fineTo
  rw [List.take_succ_eq_append_getElem h, List.all_append]
  simp only [List.all_cons, List.all_nil, Bool.and_true]
theorem fine_of (k : Vf.Bs) : Vf.fine k = (fineTo k k.length && decide (0 < k.length) && decide (k.length ≤ 32)) := by unfold Vf.fine fineTo; rw [List.take_length]
theorem fine_no (k : Vf.Bs) (j : Nat) (h : fineTo k j = false) : Vf.fine k = false := by
  have : fineTo k k.length = false := by
    cases e : fineTo k k.length with
    | false => rfl
    | true =>
      unfold fineTo at e h
      rw [List.take_length, List.all_eq_true] at e
      have : (k.take j).all (fun c => decide (33 ≤ c.toNat) && decide (c.toNat ≤ 126)) = true := List.all_eq_true.2 fun x hx => e x (List.mem_of_mem_take hx)
      rw [this] at h
      cases h
  rw [fine_of, this]
  rfl

set_option maxHeartbeats 1600000 in
theorem proper_any (w : World) (s : ByteArray) (hs : s.size ≤ maxLen) : Calls Tryz.prog 35 #[.string s] w fun e w' => e = .returned (.bool (Vf.fine s.data.toList)) ∧ w' = w := by
  unfold maxLen at hs
  have FN : Hid (∀ j (h : j < s.size), fineTo s.data.toList (j + 1) = (fineTo s.data.toList j && (decide (33 ≤ (s[j]).toNat) && decide ((s[j]).toNat ≤ 126)))) := fun j h => fineTo_succ s.data.toList j (by simpa using h)
  have FO : Hid (Vf.fine s.data.toList = (fineTo s.data.toList s.size && decide (0 < s.size) && decide (s.size ≤ 32))) := by
    have e : s.data.toList.length = s.size := by simp
    have := fine_of s.data.toList
    rw [e] at this
    exact this
  have FX : Hid (∀ j, fineTo s.data.toList j = false → Vf.fine s.data.toList = false) := fine_no _
  have F0 : Hid (fineTo s.data.toList 0 = true) := rfl
  go_enter Tryz.func35, Tryz.ntmps35
  go_wp2_with (fail)
  go_loopw [6] (fun i wr => ∃ j : Nat, j ≤ s.size ∧ i = .int .i64 j ∧ Hid (fineTo s.data.toList j = true) ∧ wr = w) (fun i _ => s.size - (intOf i).toNat)
  case atStart => exact ⟨0, Nat.zero_le _, rfl, F0, rfl⟩
  case round =>
    obtain ⟨j, hj, rfl, HJ, rfl⟩ := hrel
    clear F0
    by_cases hlt : j < s.size
    · have l0 := UInt8.toNat_lt s[j]
      have HN : Hid (fineTo s.data.toList (j + 1) = (decide (33 ≤ (s[j]).toNat) && decide ((s[j]).toNat ≤ 126))) := by show _ = _; rw [FN.out j hlt, HJ.out, Bool.true_and]
      clear FN FO
      by_cases h1 : (s[j]).toNat < 33
      · have HF : Hid (Vf.fine s.data.toList = false) := FX.out (j + 1) (by rw [HN.out]; simp; omega)
        have i1 : ((s[j]).toNat : Int) < 33 := by omega
        clear HN FX
        go_wp2_with (fail)
        go_ret
        exact ⟨by rw [HF.out]; rfl, rfl⟩
      · by_cases h2 : (s[j]).toNat > 126
        · have HF : Hid (Vf.fine s.data.toList = false) := FX.out (j + 1) (by rw [HN.out]; simp; omega)
          have i1 : ¬ ((s[j]).toNat : Int) < 33 := by omega
          have i2 : ((s[j]).toNat : Int) > 126 := by omega
          clear HN FX
          go_wp2_with (fail)
          go_ret
          exact ⟨by rw [HF.out]; rfl, rfl⟩
        · have HF : Hid (fineTo s.data.toList (j + 1) = true) := by show _ = _; rw [HN.out]; simp; omega
          have i1 : ¬ ((s[j]).toNat : Int) < 33 := by omega
          have i2 : ¬ ((s[j]).toNat : Int) > 126 := by omega
          clear HN FX
          go_wp2_with (fail)
          exact ⟨⟨j + 1, by omega, rfl, HF, trivial⟩, by simp [intOf]; omega⟩
    · have e : j = s.size := by omega
      subst e
      have HG : Hid (Vf.fine s.data.toList = (decide (0 < s.size) && decide (s.size ≤ 32))) := by show _ = _; rw [FO.out, HJ.out, Bool.true_and]
      clear FN FO FX HJ
      by_cases h1 : 0 < s.size
      · by_cases h2 : s.size ≤ 32
        · have HE : Hid (Vf.fine s.data.toList = true) := by show _ = _; rw [HG.out]; simp [h1, h2]
          clear HG
          go_wp2_with (fail)
          go_ret
          exact ⟨by rw [HE.out]; show Ending.returned (.bool (decide ((s.size : Int) ≤ 32))) = _; rw [decide_eq_true (by omega)], rfl⟩
        · have HE : Hid (Vf.fine s.data.toList = false) := by show _ = _; rw [HG.out]; simp; omega
          clear HG
          go_wp2_with (fail)
          go_ret
          exact ⟨by rw [HE.out]; show Ending.returned (.bool (decide ((s.size : Int) ≤ 32))) = _; rw [decide_eq_false (by omega)], rfl⟩
      · have HE : Hid (Vf.fine s.data.toList = false) := by show _ = _; rw [HG.out]; simp; omega
        clear HG
        go_wp2_with (fail)
        go_ret
        exact ⟨by rw [HE.out]; rfl, rfl⟩

end Go.Proofs.YtlhnjloimhcpfabGreatDoor
namespace Go.Proofs.YtlhnjloimhcpfabGreatDoor
open Go.RowKit Go.Maps

/-- Names as a call hands them on. -/
structure Asked (w : World) (v : Value) (l : List Vf.Bs) : Prop where
  form : ∃ a cap, v = .slice a l.length cap ∧ ∀ j (h : j < l.length), ∃ b off, a = some ⟨b, off, none⟩ ∧ w.cell? ⟨b, off + j, none⟩ = some (str (l[j]))
  short : ∀ k ∈ l, k.length ≤ 1000000
  few : l.length ≤ 1000

theorem refused_nil (w : World) (v : Value) : Calls Tryz.prog 37 #[.pointer none, v] w fun e w' => e = .returned (.int .i64 1) ∧ w' = w := by
  have q := made_nil w
  go_enter Tryz.func37, Tryz.ntmps37
  go_wp2_with (go_at_call 34; refine still q ?_)
  go_ret
  exact ⟨rfl, rfl⟩
theorem refused_zero (w : World) (b : Nat) (v : Value) (h : w.cell? ⟨b, 5, none⟩ = some (.map none)) : Calls Tryz.prog 37 #[.pointer (some ⟨b, 0, none⟩), v] w fun e w' => e = .returned (.int .i64 1) ∧ w' = w := by
  have q := made_zero w b h
  go_enter Tryz.func37, Tryz.ntmps37
  go_wp2_with (go_at_call 34; refine still q ?_)
  go_ret
  exact ⟨rfl, rfl⟩

set_option maxHeartbeats 400000 in
theorem refused_some (w : World) (b bf : Nat) (on : Bool) (v : Value) (l : List Vf.Bs) (h5 : w.cell? ⟨b, 5, none⟩ = some (.map (some bf))) (h2 : w.cell? ⟨b, 2, none⟩ = some (.bool on)) (hl : Asked w v l) (R : Int) (HR : Hid (R = if on then if l.all Vf.fine then 0 else 2 else 7)) :
    Calls Tryz.prog 37 #[.pointer (some ⟨b, 0, none⟩), v] w fun e w' => e = .returned (.int .i64 R) ∧ w' = w := by
  have q := made_some w b bf h5
  obtain ⟨⟨a, cap, rfl, hf⟩, hsh, hfew⟩ := hl
  cases on with
  | false =>
    clear hf
    have H7 : Hid (R = 7) := HR.out
    clear HR
    go_enter Tryz.func37, Tryz.ntmps37
    go_wp2_with (go_at_call 34; refine still q ?_)
    go_ret
    exact ⟨by rw [H7.out]; rfl, rfl⟩
  | true =>
    have HA : Hid (∀ j, l.take j = l → (l.take j).all Vf.fine = true → l.all Vf.fine = true) := fun j e h => by rw [e] at h; exact h
    have HS : Hid (∀ j (h : j < l.length), (l.take (j + 1)).all Vf.fine = ((l.take j).all Vf.fine && Vf.fine l[j])) := fun j h => by
      rw [List.take_succ_eq_append_getElem h, List.all_append]
      simp only [List.all_cons, List.all_nil, Bool.and_true]
    have HX : Hid (∀ j (h : j < l.length), Vf.fine l[j] = false → l.all Vf.fine = false) := fun j h hf => by
      cases e : l.all Vf.fine with
      | false => rfl
      | true => rw [List.all_eq_true] at e; rw [e _ (List.getElem_mem h)] at hf; cases hf
    have HP : Hid (∀ j (h : j < l.length), ∃ b off, a = some ⟨b, off, none⟩ ∧ w.cell? ⟨b, off + j, none⟩ = some (str (l[j])) ∧ (l[j]).length ≤ 1000000) := fun j h => by
      obtain ⟨b, off, h1, h2⟩ := hf j h
      exact ⟨b, off, h1, h2, hsh _ (List.getElem_mem h)⟩
    have H0 : Hid ((l.take 0).all Vf.fine = true) := rfl
    clear hf hsh
    go_enter Tryz.func37, Tryz.ntmps37
    go_wp2_with (go_at_call 34; refine still q ?_)
    go_loopw [17] (fun i wr => ∃ j : Nat, j ≤ l.length ∧ i = .int .i64 j ∧ Hid ((l.take j).all Vf.fine = true) ∧ wr = w) (fun i _ => l.length - (intOf i).toNat)
    case atStart => exact ⟨0, Nat.zero_le _, rfl, H0, rfl⟩
    case round =>
      obtain ⟨j, hj, rfl, HJ, hwr⟩ := hrel
      have hwr' := hwr.symm
      subst hwr'
      clear hwr
      clear H0 q
      by_cases hlt : j < l.length
      · obtain ⟨B, off, rfl, hc, hk⟩ := HP.out j hlt
        obtain ⟨k, hkk⟩ : ∃ k, k = l[j] := ⟨_, rfl⟩
        rw [← hkk] at hc hk
        have HN : Hid ((l.take (j + 1)).all Vf.fine = Vf.fine k) := by show _ = _; rw [HS.out j hlt, HJ.out, Bool.true_and, hkk]
        have HXX : Hid (Vf.fine k = false → l.all Vf.fine = false) := fun h => HX.out j hlt (by rw [← hkk]; exact h)
        have qp := proper_any w ⟨k.toArray⟩ (by show k.toArray.size ≤ _; simp [maxLen]; omega)
        simp only at qp
        clear HP HS HX HA hkk
        cases hfk : Vf.fine k with
        | true =>
          rw [hfk] at qp HN
          go_wp2_with (go_at_call 35; refine still qp ?_)
          exact ⟨⟨j + 1, by omega, rfl, HN, trivial⟩, by simp [intOf]; omega⟩
        | false =>
          rw [hfk] at qp
          have HF : Hid (R = 2) := by show _ = _; rw [HR.out, HXX.out hfk]; rfl
          clear HN HXX hfk HR
          go_wp2_with (go_at_call 35; refine still qp ?_)
          go_ret
          exact ⟨by rw [HF.out]; rfl, rfl⟩
      · have e : j = l.length := by omega
        have HF : Hid (R = 0) := by show _ = _; rw [HR.out, HA.out j (by rw [e, List.take_length]) HJ.out]; rfl
        subst e
        clear HP HS HX HA HJ HR
        go_wp2_with (fail)
        go_ret
        exact ⟨by rw [HF.out]; rfl, rfl⟩
end Go.Proofs.YtlhnjloimhcpfabGreatDoor
namespace Go.Proofs.YtlhnjloimhcpfabGreatDoor
open Go.RowKit Go.Maps

theorem asked_one (w : World) (k : Vf.Bs) (hk : k.length ≤ 1000000) : Asked (w.alloc (.cells #[str k] 9)) (.slice (some ⟨w.heap.size, 0, none⟩) 1 1) [k] := by
  refine ⟨⟨_, 1, rfl, fun j hj => ⟨w.heap.size, 0, rfl, ?_⟩⟩, fun x hx => ?_, by simp⟩
  · have e : j = 0 := by simp at hj; omega
    subst e
    exact cell_one_new w (str k) 9 0 _ rfl
  · rw [List.mem_singleton] at hx; rw [hx]; exact hk
theorem asked_none (w : World) : Asked w (.slice none 0 0) [] := ⟨⟨_, 0, rfl, fun j hj => by simp at hj⟩, fun x hx => by simp at hx, by simp⟩

theorem find_nil (w : World) (s : ByteArray) : Calls Tryz.prog 23 #[.pointer none, .string s] w fun e w' => e = .returned (.tuple #[.int .i64 0, .int .i64 1]) ∧ w' = w.alloc (.cells #[.string s] 9) := by
  have q := fun w v => refused_nil w v
  go_enter Tryz.func23, Tryz.ntmps23
  go_wp2_with (go_at_call 37; refine still (q _ _) ?_)
  go_ret2
  exact ⟨rfl, rfl⟩
theorem find_zero (w : World) (b : Nat) (s : ByteArray) (h : w.cell? ⟨b, 5, none⟩ = some (.map none)) : Calls Tryz.prog 23 #[.pointer (some ⟨b, 0, none⟩), .string s] w fun e w' => e = .returned (.tuple #[.int .i64 0, .int .i64 1]) ∧ w' = w.alloc (.cells #[.string s] 9) := by
  have q := fun v => refused_zero (w.alloc (.cells #[.string s] 9)) b v (keepC ((Below.refl _ _).alloc (Nat.le_refl _) _) h)
  go_enter Tryz.func23, Tryz.ntmps23
  go_wp2_with (go_at_call 37; refine still (q _) ?_)
  go_ret2
  exact ⟨rfl, rfl⟩

set_option maxHeartbeats 400000 in
theorem find_some (w : World) (b bf bh bd : Nat) (pv : Value) (fs : Nat → Option Nat) (sl : Nat → Value) (σ : Vf.St) (S : Nat → Prop) (h : RepAt w b bf bh bd pv fs sl σ S) (k : Vf.Bs) (hk : k.length ≤ 1000000) (E : Int) (HE : Hid (E = Vf.findE σ k)) (N : Nat) (HN : Hid (N = if Vf.findE σ k = 0 then Vf.num σ.held k else 0)) :
    Calls Tryz.prog 23 #[.pointer (some ⟨b, 0, none⟩), str k] w fun e w' => e = .returned (.tuple #[.int .i64 (N : Int), .int .i64 E]) ∧ w' = w.alloc (.cells #[str k] 9) := by
  have B1 : Below w.heap.size w (w.alloc (.cells #[str k] 9)) := (Below.refl _ _).alloc (Nat.le_refl _) _
  have h1 := h.later B1
  obtain ⟨_, _, c2, _, _, c5, c6, _, _⟩ := h1.cells
  have A1 := asked_one w k hk
  obtain ⟨R, hR⟩ : ∃ R, R = Vf.refuse σ [k] := ⟨_, rfl⟩
  have q := refused_some _ b bf σ.on _ [k] c5 c2 A1 R (by show _ = _; rw [hR]; rfl)
  have L := h1.held.look_ok k hk
  clear A1 c5 c2
  by_cases r0 : R = 0
  · have rr : Vf.refuse σ [k] = 0 := by rw [← hR, r0]
    subst r0
    cases hl : Vf.look σ.held k with
    | none =>
      have f4 : Vf.findE σ k = 4 := by unfold Vf.findE; rw [if_pos rr, hl]; rfl
      have e4 : Hid (E = 4) := by show _ = _; rw [HE.out, f4]
      have n4 : Hid (N = 0) := by show _ = _; rw [HN.out, f4]; rfl
      rw [hl] at L
      clear HE HN f4 rr hR hl h h1 B1
      go_enter Tryz.func23, Tryz.ntmps23
      go_wp2_with (go_at_call 37; refine still q ?_)
      go_ret2
      exact ⟨by rw [e4.out, n4.out]; rfl, rfl⟩
    | some n =>
      have f4 : Vf.findE σ k = 0 := by unfold Vf.findE; rw [if_pos rr, hl]; rfl
      have e4 : Hid (E = 0) := by show _ = _; rw [HE.out, f4]
      have n4 : Hid (N = Vf.num σ.held k) := by show _ = _; rw [HN.out, f4]; rfl
      rw [hl] at L
      clear HE HN f4 rr hR hl h h1 B1
      go_enter Tryz.func23, Tryz.ntmps23
      go_wp2_with (go_at_call 37; refine still q ?_)
      go_ret2
      exact ⟨by rw [e4.out, n4.out]; rfl, rfl⟩
  · have f4 : Vf.findE σ k = R := by unfold Vf.findE; rw [if_neg (by rw [← hR]; exact r0), hR]
    have e4 : Hid (E = R) := by show _ = _; rw [HE.out, f4]
    have n4 : Hid (N = 0) := by show _ = _; rw [HN.out, f4, if_neg r0]
    have rb : (R == 0) = false := by simpa using r0
    clear HE HN f4 hR h h1 B1 L
    go_enter Tryz.func23, Tryz.ntmps23
    go_wp2_with (go_at_call 37; refine still q ?_)
    go_ret2
    exact ⟨by rw [e4.out, n4.out]; rfl, rfl⟩
end Go.Proofs.YtlhnjloimhcpfabGreatDoor
namespace Go.Proofs.YtlhnjloimhcpfabGreatDoor
open Go.RowKit Go.Maps

/-- A step's value. -/
abbrev sv (s : Vf.Step) : Value := .agg #[.int .i64 (s.kind : Int), .int .i64 (s.file : Int), .int .i64 (s.size : Int), str s.name, str s.to]

structure StepOk (s : Vf.Step) : Prop where
  name : s.name.length ≤ 1000000
  to : s.to.length ≤ 1000000
  file : s.file ≤ 1000000000
  size : s.size ≤ 1000000000
  kind : s.kind ≤ 5

/-- The cells of a new block behind a turn of another one. -/
theorem boxed_kept {w w1 : World} {cs : Array Value} {t : TypeId} {bm : Nat} (g : (w.alloc (.cells cs t)).grownBy w1 (some bm)) (hb : bm < w.heap.size) (j : Nat) : w1.cell? ⟨w.heap.size, j, none⟩ = cs[j]? := by
  refine Joins.cell_of_block ((g.block w.heap.size (by simp) (by simp; omega)).trans ?_) j (t := t) (fr := (0, 0))
  show (w.heap.push _)[w.heap.size]? = _
  simp

set_option maxHeartbeats 400000 in
theorem ren_any (w : World) (bm : Nat) (M : Vf.Nm) (s : Vf.Step) (ok : StepOk s) (h : NamesAt w bm M) (hM : M.length ≤ 1000000000) (hv : ∀ k, Vf.num M k ≤ 1000000000) (L : Nat) (HL : Hid (L = Vf.lost s M)) (M' : Vf.Nm) (HM : Hid (M' = Vf.ren s M)) :
    Calls Tryz.prog 80 #[sv s, .map (some bm)] w fun e w' => e = .returned (.int .i64 (L : Int)) ∧ NamesAt w' bm M' ∧ w.grownBy w' (some bm) ∧ w'.heap.size = w.heap.size + 1 := by
  obtain ⟨kind, file, size, name, to⟩ := s
  obtain ⟨kn, kt, kf, ks, kk⟩ := ok
  simp only at kn kt kf ks kk
  have h1 : NamesAt (w.alloc (.cells #[.int .i64 (kind : Int), .int .i64 (file : Int), .int .i64 (size : Int), str name, str to] 102)) bm M := h.same (Below.heap_alloc _ _ _ h.lt)
  have g0 : w.grownBy (w.alloc (.cells #[.int .i64 (kind : Int), .int .i64 (file : Int), .int .i64 (size : Int), str name, str to] 102)) (some bm) := World.grownBy_alloc _ _ _
  have z0 : (w.alloc (.cells #[.int .i64 (kind : Int), .int .i64 (file : Int), .int .i64 (size : Int), str name, str to] 102)).heap.size = w.heap.size + 1 := by simp
  have hb := h.lt
  clear h
  by_cases k1 : kind = 1
  · subst k1
    have HL' : Hid (L = 0) := HL.out
    have HM' : Hid (Vf.put M name file = M') := HM.out.symm
    clear HL HM
    have Z0 : Hid _ := z0
    clear z0
    go_enter Tryz.func80, Tryz.ntmps80
    go_wp2_with (at_mapUpdate; refine wpList_names_put _ rfl _ _ _ rfl bm M name file rfl rfl rfl h1 kn (by omega) (by omega) ?_; intro w1 n1 g1 z1; have Z1 : Hid _ := z1; clear z1 h1)
    go_ret
    exact ⟨by rw [HL'.out]; rfl, by rw [HM'.out] at n1; exact n1, grownBy_trans g0 g1 (.inl rfl), by rw [Z1.out]; exact Z0.out⟩
  by_cases k2 : kind = 2
  · subst k2
    have HL' : Hid (Vf.num (Vf.del M name) to = L) := HL.out.symm
    have HM' : Hid (Vf.put (Vf.del M name) to (Vf.num M name) = M') := HM.out.symm
    have hv1 := hv name
    have hd : (Vf.del M name).length ≤ 1000000000 := Nat.le_trans (Vf.del_sub M name).length_le hM
    clear HL HM hv
    have Z0 : Hid _ := z0
    clear z0
    obtain ⟨D, hD⟩ : ∃ D, D = Vf.del M name := ⟨_, rfl⟩
    obtain ⟨n, hn⟩ : ∃ n, n = Vf.num M name := ⟨_, rfl⟩
    rw [← hn] at hv1 HM'
    have HN : Hid (Vf.num M name = n) := hn.symm
    rw [← hD] at hd HM' HL'
    have HD : Hid (Vf.del M name = D) := hD.symm
    clear hD hn
    go_enter Tryz.func80, Tryz.ntmps80
    go_wp2_with (first
      | (at_lookup; refine wpList_names_look _ rfl _ _ rfl bm M name rfl rfl h1 kn ?_; rw [HN.out])
      | (at_delete; refine wpList_names_del _ rfl _ _ rfl bm M name rfl rfl h1 kn ?_; intro w1 n1 g1 z1; have c4 : w1.cell? ⟨w.heap.size, 4, none⟩ = some (str to) := (boxed_kept g1 hb 4); rw [HD.out] at n1; have G1 : Hid _ := grownBy_trans g0 g1 (.inl rfl); have Z1 : Hid _ := z1; clear z1 h1 g0 g1 HD)
      | (at_lookup; refine wpList_names_look _ rfl _ _ rfl bm D to rfl rfl n1 kt ?_; rw [HL'.out])
      | (at_mapUpdate; refine wpList_names_put _ rfl _ _ _ rfl bm D to n rfl rfl rfl n1 kt (by omega) (by omega) ?_; intro w2 n2 g2 z2; have Z2 : Hid _ := z2; clear z2 n1))
    go_ret
    exact ⟨rfl, by rw [HM'.out] at n2; exact n2, grownBy_trans G1.out g2 (.inl rfl), by rw [Z2.out, Z1.out]; exact Z0.out⟩
  by_cases k3 : kind = 3
  · subst k3
    have HL' : Hid (Vf.num M name = L) := HL.out.symm
    have HM' : Hid (Vf.del M name = M') := HM.out.symm
    clear HL HM hv
    have Z0 : Hid _ := z0
    clear z0
    go_enter Tryz.func80, Tryz.ntmps80
    go_wp2_with (first
      | (at_lookup; refine wpList_names_look _ rfl _ _ rfl bm M name rfl rfl h1 kn ?_; rw [HL'.out])
      | (at_delete; refine wpList_names_del _ rfl _ _ rfl bm M name rfl rfl h1 kn ?_; intro w1 n1 g1 z1; have Z1 : Hid _ := z1; clear z1 h1))
    go_ret
    exact ⟨rfl, by rw [HM'.out] at n1; exact n1, grownBy_trans g0 g1 (.inl rfl), by rw [Z1.out]; exact Z0.out⟩
  · have HL' : Hid (L = 0) := by show _ = _; rw [HL.out]; unfold Vf.lost; rw [if_neg k2, if_neg k3]
    have HM' : Hid (M' = M) := by show _ = _; rw [HM.out]; unfold Vf.ren; rw [if_neg k1, if_neg k2, if_neg k3]
    have b1 : ((kind : Int) == 1) = false := by simp; omega
    have b2 : ((kind : Int) == 2) = false := by simp; omega
    have b3 : ((kind : Int) == 3) = false := by simp; omega
    clear HL HM hv
    have Z0 : Hid _ := z0
    clear z0
    go_enter Tryz.func80, Tryz.ntmps80
    go_wp2_with (fail)
    go_ret
    exact ⟨by rw [HL'.out]; rfl, by rw [HM'.out]; exact h1, g0, Z0.out⟩
end Go.Proofs.YtlhnjloimhcpfabGreatDoor
namespace Go.Proofs.YtlhnjloimhcpfabGreatDoor
open Go.RowKit Go.Maps

/-- What a block is. -/
def kindAt (w : World) (i : Nat) : Option (Option TypeId) := (w.heap[i]?).map fun o => match o with | .cells _ t _ => some t | _ => none
theorem kind_cells {w : World} {i : Nat} {cs : Array Value} {t : TypeId} {fr : Nat × Nat} (h : w.heap[i]? = some (.cells cs t fr)) : kindAt w i = some (some t) := by simp [kindAt, h]
theorem ne_kind {w : World} {i j : Nat} {x y : Option (Option TypeId)} (hi : kindAt w i = x) (hj : kindAt w j = y) (h : x ≠ y) : i ≠ j := fun e => h (by rw [← hi, ← hj, e])
theorem NamesAt.kind {w : World} {b : Nat} {m : Vf.Nm} (h : NamesAt w b m) : kindAt w b = some none := by obtain ⟨D, ⟨es, c, hb, _⟩, _⟩ := h; simp [kindAt, hb]
theorem PtrsAt.kind {w : World} {b N : Nat} {fs : Nat → Option Nat} (h : PtrsAt w b N fs) : kindAt w b = some none := by obtain ⟨D, ⟨es, c, hb, _⟩, _⟩ := h; simp [kindAt, hb]
theorem row_kind {w : World} {base e size : Nat} {v : Value} {n g : Nat} {xs : List Value} (h : w.ownsRow base e size v n xs) (hg : v.ownBlock = some g) : kindAt w g = some (some e) := by
  rcases h.2 with ⟨rfl, _⟩ | ⟨g', cap, cur, rfl, _, hb, _⟩
  · cases hg
  · have : g' = g := by simpa [Value.ownBlock] using hg
    subst this
    exact kind_cells hb

section
variable {w : World} {b bf bh bd : Nat} {pv : Value} {fs : Nat → Option Nat} {sl : Nat → Value} {σ : Vf.St} {S : Nat → Prop}

theorem RepAt.kb (h : RepAt w b bf bh bd pv fs sl σ S) : kindAt w b = some (some 59) := kind_cells h.blk
theorem RepAt.kp (h : RepAt w b bf bh bd pv fs sl σ S) {g : Nat} (hg : pv.ownBlock = some g) : kindAt w g = some (some 102) := row_kind h.pend hg
theorem RepAt.has (h : RepAt w b bf bh bd pv fs sl σ S) {n g : Nat} (hn : fs n = some g) : ∃ x, σ.files n = some x := by
  have := h.dom n
  rw [hn] at this
  exact Option.isSome_iff_exists.1 this.symm
theorem RepAt.kg (h : RepAt w b bf bh bd pv fs sl σ S) {n g : Nat} (hn : fs n = some g) : kindAt w g = some (some 71) := by
  obtain ⟨x, hx⟩ := h.has hn
  exact kind_cells (h.file n g x hn hx).1
theorem RepAt.kr (h : RepAt w b bf bh bd pv fs sl σ S) {n r : Nat} (hn : fs n ≠ none) (hr : (sl n).ownBlock = some r) : kindAt w r = some (some 5) := by
  obtain ⟨g, hg⟩ := Option.ne_none_iff_exists'.1 hn
  obtain ⟨x, hx⟩ := h.has hg
  exact row_kind (h.file n g x hg hx).2 hr

/-- Only block p has turned. -/
def Only (w w' : World) (p : Nat) : Prop := w.heap.size ≤ w'.heap.size ∧ ∀ i, i < w.heap.size → i ≠ p → w'.heap[i]? = w.heap[i]?
theorem only_grown {w w' : World} {p : Nat} (h : w.grownBy w' (some p)) : Only w w' p := ⟨h.size, fun i hi hne => h.block i hi (fun e => hne (Option.some.inj e))⟩
theorem only_setCell (w : World) (a : Addr) (u : Value) : Only w (w.setCell a u) a.block := ⟨by simp [World.setCell], fun _ _ hne => Below.heap_setCell _ _ _ _ hne⟩

/-- A turn of the file system's own block. -/
theorem RepAt.turnB (h : RepAt w b bf bh bd pv fs sl σ S) {w' : World} (ho : Only w w' b) (σ' : Vf.St) (pv' : Value) (hb : w'.heap[b]? = some (.cells (fsCells σ' bf bh bd pv') 59 (0, 0)))
    (e1 : σ'.files = σ.files) (e2 : σ'.held = σ.held) (e3 : σ'.durable = σ.durable) (e5 : σ.steps ≤ σ'.steps)
    (hp : w'.ownsRow 0 102 5 pv' σ'.pending.length (scs σ'.pending)) (hs : ∀ g, pv'.ownBlock = some g → S g) : RepAt w' b bf bh bd pv' fs sl σ' S :=
  ⟨hb, (h.files.same (ho.2 _ h.files.lt (ne_kind h.files.kind h.kb (by simp)))).mono e5, by rw [e2]; exact h.held.same (ho.2 _ h.held.lt (ne_kind h.held.kind h.kb (by simp))), by rw [e3]; exact h.dur.same (ho.2 _ h.dur.lt (ne_kind h.dur.kind h.kb (by simp))), hp,
    fun n => by rw [e1]; exact h.dom n,
    fun n g x hn hx => by
      rw [e1] at hx
      refine ⟨(ho.2 g (h.low _ (h.sg n g hn)) (ne_kind (h.kg hn) h.kb (by decide))).trans (h.file n g x hn hx).1, ownsRow_same (h.file n g x hn hx).2 fun r hr => ?_⟩
      have hne : fs n ≠ none := by rw [hn]; simp
      exact ho.2 r (h.low _ (h.sr n r hne hr)) (ne_kind (h.kr hne hr) h.kb (by decide)),
    h.inj, h.rows, h.fh, h.fd, h.hd, h.sb, h.sf, h.sh, h.sd, hs, h.sg, h.sr, fun i hi => Nat.lt_of_lt_of_le (h.low i hi) ho.1⟩

/-- One field that is a number or a bool. -/
theorem RepAt.field (h : RepAt w b bf bh bd pv fs sl σ S) (i : Nat) (u : Value) (σ' : Vf.St) (hc : (fsCells σ bf bh bd pv).setIfInBounds i u = fsCells σ' bf bh bd pv)
    (e1 : σ'.files = σ.files) (e2 : σ'.held = σ.held) (e3 : σ'.durable = σ.durable) (e4 : σ'.pending = σ.pending) (e5 : σ.steps ≤ σ'.steps) : RepAt (w.setCell ⟨b, i, none⟩ u) b bf bh bd pv fs sl σ' S :=
  h.turnB (only_setCell w ⟨b, i, none⟩ u) σ' pv (by rw [Joins.block_setCell h.blk u, hc]) e1 e2 e3 e5
    (by rw [e4]; exact ownsRow_same h.pend fun g hg => (only_setCell w ⟨b, i, none⟩ u).2 g (h.low _ (h.sp g hg)) (ne_kind (h.kp hg) h.kb (by decide))) h.sp

/-- A turn of the block of held names, of durable ones, of files. -/
theorem RepAt.turnH (h : RepAt w b bf bh bd pv fs sl σ S) {w' : World} (ho : Only w w' bh) (M : Vf.Nm) (hM : NamesAt w' bh M) : RepAt w' b bf bh bd pv fs sl { σ with held := M } S :=
  ⟨(ho.2 b (h.low _ h.sb) (ne_kind h.kb h.held.kind (by simp))).trans h.blk, h.files.same (ho.2 _ h.files.lt h.fh), hM, h.dur.same (ho.2 _ h.dur.lt h.hd.symm),
    ownsRow_same h.pend fun g hg => ho.2 g (h.low _ (h.sp g hg)) (ne_kind (h.kp hg) h.held.kind (by simp)), h.dom,
    fun n g x hn hx => by
      refine ⟨(ho.2 g (h.low _ (h.sg n g hn)) (ne_kind (h.kg hn) h.held.kind (by simp))).trans (h.file n g x hn hx).1, ownsRow_same (h.file n g x hn hx).2 fun r hr => ?_⟩
      have hne : fs n ≠ none := by rw [hn]; simp
      exact ho.2 r (h.low _ (h.sr n r hne hr)) (ne_kind (h.kr hne hr) h.held.kind (by simp)),
    h.inj, h.rows, h.fh, h.fd, h.hd, h.sb, h.sf, h.sh, h.sd, h.sp, h.sg, h.sr, fun i hi => Nat.lt_of_lt_of_le (h.low i hi) ho.1⟩
theorem RepAt.turnD (h : RepAt w b bf bh bd pv fs sl σ S) {w' : World} (ho : Only w w' bd) (M : Vf.Nm) (hM : NamesAt w' bd M) : RepAt w' b bf bh bd pv fs sl { σ with durable := M } S :=
  ⟨(ho.2 b (h.low _ h.sb) (ne_kind h.kb h.dur.kind (by simp))).trans h.blk, h.files.same (ho.2 _ h.files.lt h.fd), h.held.same (ho.2 _ h.held.lt h.hd), hM,
    ownsRow_same h.pend fun g hg => ho.2 g (h.low _ (h.sp g hg)) (ne_kind (h.kp hg) h.dur.kind (by simp)), h.dom,
    fun n g x hn hx => by
      refine ⟨(ho.2 g (h.low _ (h.sg n g hn)) (ne_kind (h.kg hn) h.dur.kind (by simp))).trans (h.file n g x hn hx).1, ownsRow_same (h.file n g x hn hx).2 fun r hr => ?_⟩
      have hne : fs n ≠ none := by rw [hn]; simp
      exact ho.2 r (h.low _ (h.sr n r hne hr)) (ne_kind (h.kr hne hr) h.dur.kind (by simp)),
    h.inj, h.rows, h.fh, h.fd, h.hd, h.sb, h.sf, h.sh, h.sd, h.sp, h.sg, h.sr, fun i hi => Nat.lt_of_lt_of_le (h.low i hi) ho.1⟩

/-- A file goes. -/
theorem RepAt.drop (h : RepAt w b bf bh bd pv fs sl σ S) {w' : World} (ho : Only w w' bf) (n : Nat) (hF : PtrsAt w' bf σ.steps (setG fs n none)) : RepAt w' b bf bh bd pv (setG fs n none) sl { σ with files := Vf.setF σ.files n none } S := by
  have hs : ∀ k g, setG fs n none k = some g → fs k = some g := fun k g hk => by
    unfold setG at hk
    by_cases e : k = n
    · simp [e] at hk
    · simpa [e] using hk
  have hs' : ∀ k, setG fs n none k ≠ none → fs k ≠ none := fun k hk => by
    obtain ⟨g, hg⟩ := Option.ne_none_iff_exists'.1 hk
    rw [hs k g hg]; simp
  refine ⟨(ho.2 b (h.low _ h.sb) (ne_kind h.kb h.files.kind (by simp))).trans h.blk, hF, h.held.same (ho.2 _ h.held.lt h.fh.symm), h.dur.same (ho.2 _ h.dur.lt h.fd.symm),
    ownsRow_same h.pend fun g hg => ho.2 g (h.low _ (h.sp g hg)) (ne_kind (h.kp hg) h.files.kind (by simp)), fun k => ?_,
    fun k g x hk hx => ?_, fun k k' g h1 h2 => h.inj k k' g (hs _ _ h1) (hs _ _ h2), fun k k' g h1 h2 => h.rows k k' g (hs' _ h1) (hs' _ h2), h.fh, h.fd, h.hd, h.sb, h.sf, h.sh, h.sd, h.sp, fun k g hk => h.sg k g (hs _ _ hk), fun k g hk => h.sr k g (hs' _ hk), fun i hi => Nat.lt_of_lt_of_le (h.low i hi) ho.1⟩
  · unfold setG Vf.setF
    by_cases e : k = n
    · simp [e]
    · simp [e, h.dom k]
  · have hk' := hs _ _ hk
    have hx' : σ.files k = some x := by
      simp only [Vf.setF] at hx
      by_cases e : k = n
      · simp [e] at hx
      · simpa [e] using hx
    refine ⟨(ho.2 g (h.low _ (h.sg k g hk')) (ne_kind (h.kg hk') h.files.kind (by simp))).trans (h.file k g x hk' hx').1, ownsRow_same (h.file k g x hk' hx').2 fun r hr => ?_⟩
    have hne : fs k ≠ none := by rw [hk']; simp
    exact ho.2 r (h.low _ (h.sr k r hne hr)) (ne_kind (h.kr hne hr) h.files.kind (by simp))

/-- A file's own block turns: how many bytes are durable, and which bytes. -/
theorem RepAt.turnG (h : RepAt w b bf bh bd pv fs sl σ S) {n g : Nat} {x x' : Vf.File} (hn : fs n = some g) (hx : σ.files n = some x) {w' : World} (ho : Only w w' g) (v : Value)
    (hb : w'.heap[g]? = some (.cells #[v, .int .i64 (x'.synced : Int)] 71 (0, 0))) (hv : w'.ownsRow 0 5 1 v x'.bytes.length (bc x'.bytes)) (hr : ∀ r, v.ownBlock = some r → (sl n).ownBlock = some r) :
    RepAt w' b bf bh bd pv fs (fun k => if k = n then v else sl k) { σ with files := Vf.setF σ.files n (some x') } S := by
  have hne0 : fs n ≠ none := by rw [hn]; simp
  have hrow : ∀ k r, fs k ≠ none → (if k = n then v else sl k).ownBlock = some r → (sl k).ownBlock = some r := fun k r _ h1 => by
    by_cases e : k = n
    · subst e; simp at h1; exact hr r h1
    · simpa [e] using h1
  refine ⟨(ho.2 b (h.low _ h.sb) (ne_kind h.kb (h.kg hn) (by decide))).trans h.blk, h.files.same (ho.2 _ h.files.lt (ne_kind h.files.kind (h.kg hn) (by simp))), h.held.same (ho.2 _ h.held.lt (ne_kind h.held.kind (h.kg hn) (by simp))), h.dur.same (ho.2 _ h.dur.lt (ne_kind h.dur.kind (h.kg hn) (by simp))),
    ownsRow_same h.pend fun r hr => ho.2 r (h.low _ (h.sp r hr)) (ne_kind (h.kp hr) (h.kg hn) (by decide)), fun k => ?_,
    fun k r y hk hy => ?_, h.inj, fun k k' r h1 h2 h3 h4 => h.rows k k' r h1 h2 (hrow k r h1 h3) (hrow k' r h2 h4), h.fh, h.fd, h.hd, h.sb, h.sf, h.sh, h.sd, h.sp, h.sg, fun k r h1 h2 => h.sr k r h1 (hrow k r h1 h2), fun i hi => Nat.lt_of_lt_of_le (h.low i hi) ho.1⟩
  · show (fs k).isSome = (Vf.setF σ.files n (some x') k).isSome
    unfold Vf.setF
    by_cases e : k = n
    · subst e; simp [hn]
    · simp [e, h.dom k]
  · simp only [Vf.setF] at hy
    by_cases e : k = n
    · subst e
      simp at hy
      subst hy
      rw [hn] at hk
      cases hk
      simp
      exact ⟨hb, hv⟩
    · simp [e] at hy ⊢
      have hgr : r ≠ g := fun e2 => e (h.inj k n g (by rw [hk, e2]) hn)
      refine ⟨(ho.2 r (h.low _ (h.sg k r hk)) hgr).trans (h.file k r y hk hy).1, ownsRow_same (h.file k r y hk hy).2 fun q hq => ?_⟩
      have hne : fs k ≠ none := by rw [hk]; simp
      exact ho.2 q (h.low _ (h.sr k q hne hq)) (ne_kind (h.kr hne hq) (h.kg hn) (by decide))
end
end Go.Proofs.YtlhnjloimhcpfabGreatDoor
namespace Go.Proofs.YtlhnjloimhcpfabGreatDoor
open Go.RowKit Go.Maps

theorem ptr_none {fs : Nat → Option Nat} {n : Nat} (h : fs n = none) : ptr (fs n) = .pointer none := by rw [h]; rfl
theorem ptr_some {fs : Nat → Option Nat} {n g : Nat} (h : fs n = some g) : ptr (fs n) = .pointer (some ⟨g, 0, none⟩) := by rw [h]; rfl

abbrev boxS (w : World) (K : Int) (F Z : Nat) (u1 u2 : Value) : World := w.alloc (.cells #[.int .i64 K, .int .i64 (F : Int), .int .i64 (Z : Int), u1, u2] 102)

theorem RepAt.alloc {w : World} {b bf bh bd : Nat} {pv : Value} {fs : Nat → Option Nat} {sl : Nat → Value} {σ : Vf.St} {S : Nat → Prop} (h : RepAt w b bf bh bd pv fs sl σ S) (o : Obj) : RepAt (w.alloc o) b bf bh bd pv fs sl σ S := h.later ((Below.refl _ _).alloc (Nat.le_refl _) _)
theorem RepAt.drew {w : World} {b bf bh bd : Nat} {pv : Value} {fs : Nat → Option Nat} {sl : Nat → Value} {σ : Vf.St} {S : Nat → Prop} (h : RepAt w b bf bh bd pv fs sl σ S) : RepAt w.drew b bf bh bd pv fs sl σ S := h.same (fun _ _ => rfl) (Nat.le_refl _)

set_option maxHeartbeats 400000 in
theorem keep_none (w : World) (b bf bh bd : Nat) (pv : Value) (fs : Nat → Option Nat) (sl : Nat → Value) (σ : Vf.St) (S : Nat → Prop) (h : RepAt w b bf bh bd pv fs sl σ S) (K : Int) (F Z : Nat) (u1 u2 : Value) (hK : (K == 0) = true) (hF : F ≤ 1000000000) (hn : fs F = none) :
    Calls Tryz.prog 112 #[.pointer (some ⟨b, 0, none⟩), .agg #[.int .i64 K, .int .i64 (F : Int), .int .i64 (Z : Int), u1, u2]] w fun e w' => e = .returned (.tuple #[]) ∧ w' = (boxS w K F Z u1 u2).drew := by
  have h1 := h.alloc (.cells #[.int .i64 K, .int .i64 (F : Int), .int .i64 (Z : Int), u1, u2] 102)
  obtain ⟨_, _, _, _, _, c5, _, _, _⟩ := h1.cells
  have L := h1.drew.files.look F (by omega)
  rw [ptr_none hn] at L
  clear h h1 hn
  go_enter Tryz.func112, Tryz.ntmps112
  go_wp2_with (fail)
  go_region
  go_wp2_with (fail)
  go_end0
  exact ⟨rfl, rfl⟩

set_option maxHeartbeats 400000 in
theorem keep_some (w : World) (b bf bh bd : Nat) (pv : Value) (fs : Nat → Option Nat) (sl : Nat → Value) (σ : Vf.St) (S : Nat → Prop) (h : RepAt w b bf bh bd pv fs sl σ S) (K : Int) (F Z g : Nat) (x : Vf.File) (u1 u2 : Value) (hK : (K == 0) = true) (hF : F ≤ 1000000000) (hn : fs F = some g) (hx : σ.files F = some x) (hz : x.synced + Z ≤ 1000000000000) :
    Calls Tryz.prog 112 #[.pointer (some ⟨b, 0, none⟩), .agg #[.int .i64 K, .int .i64 (F : Int), .int .i64 (Z : Int), u1, u2]] w fun e w' => e = .returned (.tuple #[]) ∧ w' = ((boxS w K F Z u1 u2).setCell ⟨g, 1, none⟩ (.int .i64 ((x.synced + Z : Nat) : Int))).drew.drew := by
  have h1 := h.alloc (.cells #[.int .i64 K, .int .i64 (F : Int), .int .i64 (Z : Int), u1, u2] 102)
  obtain ⟨_, _, _, _, _, c5, _, _, _⟩ := h1.cells
  have L := h1.drew.files.look F (by omega)
  rw [ptr_some hn] at L
  have d1 : (boxS w K F Z u1 u2).cell? ⟨g, 1, none⟩ = some (.int .i64 (x.synced : Int)) := Joins.cell_of_block (h1.file F g x hn hx).1 1
  have f1 := Joins.unfrozen_of_block (h1.file F g x hn hx).1 1
  obtain ⟨y, hy⟩ : ∃ y, y = x.synced := ⟨_, rfl⟩
  rw [← hy] at d1 hz ⊢
  clear h h1 hn hx hy x
  go_enter Tryz.func112, Tryz.ntmps112
  go_wp2_with (fail)
  go_region
  go_wp2_with (fail)
  go_region
  go_wp2_with (fail)
  go_end0
  exact ⟨rfl, rfl⟩

theorem PtrsAt.del' {w : World} {b N : Nat} {fs : Nat → Option Nat} (h : PtrsAt w b N fs) (n : Nat) (hn : n ≤ 1000000000000) :
    ∃ w', (∀ ty, (Builtin.delete_ #[55, 3] ty #[.map (some b), .int .i64 (n : Int)]).run Tryz.prog w = .ok (.tuple #[]) w') ∧ PtrsAt w' b N (setG fs n none) ∧ w.grownBy w' (some b) ∧ w'.heap.size = w.heap.size := by
  obtain ⟨w', r, h⟩ := h.del n hn 0
  exact ⟨w', fun _ => r, h⟩

theorem grown_cell {w w' : World} {p : Nat} {a : Addr} {v : Value} (g : w.grownBy w' (some p)) (h : w.cell? a = some v) (hne : a.block ≠ p) : w'.cell? a = some v := by
  rw [← h]
  exact World.cell?_of_block (w := w) (g.block a.block (World.block_lt_of_cell? w _ h) (fun e => hne (Option.some.inj e)))

theorem seven_grown {w w' : World} {p b bf bd B : Nat} {K F Z : Int} {u1 u2 : Value} (g : w.grownBy w' (some p)) (hb : b ≠ p) (hB : B ≠ p) (h : w.cell? ⟨b, 5, none⟩ = some (.map (some bf)) ∧ w.cell? ⟨b, 7, none⟩ = some (.map (some bd)) ∧ w.cell? ⟨B, 0, none⟩ = some (.int .i64 K) ∧ w.cell? ⟨B, 1, none⟩ = some (.int .i64 F) ∧ w.cell? ⟨B, 2, none⟩ = some (.int .i64 Z) ∧ w.cell? ⟨B, 3, none⟩ = some u1 ∧ w.cell? ⟨B, 4, none⟩ = some u2) :
    w'.cell? ⟨b, 5, none⟩ = some (.map (some bf)) ∧ w'.cell? ⟨b, 7, none⟩ = some (.map (some bd)) ∧ w'.cell? ⟨B, 0, none⟩ = some (.int .i64 K) ∧ w'.cell? ⟨B, 1, none⟩ = some (.int .i64 F) ∧ w'.cell? ⟨B, 2, none⟩ = some (.int .i64 Z) ∧ w'.cell? ⟨B, 3, none⟩ = some u1 ∧ w'.cell? ⟨B, 4, none⟩ = some u2 := by
  obtain ⟨h1, h2, h3, h4, h5, h6, h7⟩ := h
  exact ⟨grown_cell g h1 hb, grown_cell g h2 hb, grown_cell g h3 hB, grown_cell g h4 hB, grown_cell g h5 hB, grown_cell g h6 hB, grown_cell g h7 hB⟩
theorem new_cell (w : World) (cs : Array Value) (t : TypeId) (i : Nat) : (w.alloc (.cells cs t)).drew.cell? ⟨w.heap.size, i, none⟩ = cs[i]? := by
  have : (w.alloc (.cells cs t)).drew.heap[w.heap.size]? = some (.cells cs t (0, 0)) := by show (w.heap.push _)[w.heap.size]? = _; simp
  exact Joins.cell_of_block this i

set_option maxHeartbeats 800000 in
theorem keep_name (w : World) (b bf bh bd : Nat) (pv : Value) (fs : Nat → Option Nat) (sl : Nat → Value) (σ : Vf.St) (S : Nat → Prop) (h : RepAt w b bf bh bd pv fs sl σ S) (s : Vf.Step) (ok : StepOk s) (hk : s.kind = 1 ∨ s.kind = 2 ∨ s.kind = 3) (hM : σ.durable.length ≤ 1000000000) (hv : ∀ k, Vf.num σ.durable k ≤ 1000000000)
    (L : Nat) (HL : Hid (L = Vf.lost s σ.durable)) (hL : L ≤ 1000000000) (M' : Vf.Nm) (HM : Hid (M' = Vf.ren s σ.durable)) :
    Calls Tryz.prog 112 #[.pointer (some ⟨b, 0, none⟩), sv s] w fun e w' => e = .returned (.tuple #[]) ∧ RepAt w' b bf bh bd pv (setG fs L none) sl { σ with durable := M', files := Vf.setF σ.files L none } S ∧ Moved S w w' := by
  have h1 := (h.alloc (.cells #[.int .i64 (s.kind : Int), .int .i64 (s.file : Int), .int .i64 (s.size : Int), str s.name, str s.to] 102)).drew
  have m1 : Moved S w (w.alloc (.cells #[.int .i64 (s.kind : Int), .int .i64 (s.file : Int), .int .i64 (s.size : Int), str s.name, str s.to] 102)).drew := ((Moved.refl S w).alloc _).drew
  have c5 := h1.cells.2.2.2.2.2.1
  have c7 := h1.cells.2.2.2.2.2.2.2.1
  have R1 := ren_any _ bd σ.durable s ok h1.dur hM hv L HL M' HM
  have nb : b ≠ bd := ne_kind h1.kb h1.dur.kind (by simp)
  have nf : b ≠ bf := ne_kind h1.kb h1.files.kind (by simp)
  have wd : w.heap.size ≠ bd := by have := h.dur.lt; omega
  have wf : w.heap.size ≠ bf := by have := h.files.lt; omega
  have P1 : (w.alloc (.cells #[.int .i64 (s.kind : Int), .int .i64 (s.file : Int), .int .i64 (s.size : Int), str s.name, str s.to] 102)).drew.cell? ⟨b, 5, none⟩ = some (.map (some bf)) ∧ (w.alloc (.cells #[.int .i64 (s.kind : Int), .int .i64 (s.file : Int), .int .i64 (s.size : Int), str s.name, str s.to] 102)).drew.cell? ⟨b, 7, none⟩ = some (.map (some bd)) ∧ (w.alloc (.cells #[.int .i64 (s.kind : Int), .int .i64 (s.file : Int), .int .i64 (s.size : Int), str s.name, str s.to] 102)).drew.cell? ⟨w.heap.size, 0, none⟩ = some (.int .i64 (s.kind : Int)) ∧ (w.alloc (.cells #[.int .i64 (s.kind : Int), .int .i64 (s.file : Int), .int .i64 (s.size : Int), str s.name, str s.to] 102)).drew.cell? ⟨w.heap.size, 1, none⟩ = some (.int .i64 (s.file : Int)) ∧ (w.alloc (.cells #[.int .i64 (s.kind : Int), .int .i64 (s.file : Int), .int .i64 (s.size : Int), str s.name, str s.to] 102)).drew.cell? ⟨w.heap.size, 2, none⟩ = some (.int .i64 (s.size : Int)) ∧ (w.alloc (.cells #[.int .i64 (s.kind : Int), .int .i64 (s.file : Int), .int .i64 (s.size : Int), str s.name, str s.to] 102)).drew.cell? ⟨w.heap.size, 3, none⟩ = some (str s.name) ∧ (w.alloc (.cells #[.int .i64 (s.kind : Int), .int .i64 (s.file : Int), .int .i64 (s.size : Int), str s.name, str s.to] 102)).drew.cell? ⟨w.heap.size, 4, none⟩ = some (str s.to) :=
    ⟨c5, c7, new_cell _ _ _ 0, new_cell _ _ _ 1, new_cell _ _ _ 2, new_cell _ _ _ 3, new_cell _ _ _ 4⟩
  have b0 : ((s.kind : Int) == 0) = false := by simp; omega
  have H1 : Hid _ := h1
  have M1 : Hid _ := m1
  clear h h1 m1 ok hM hv HL HM c5 c7
  obtain ⟨K, hK⟩ : ∃ K : Int, K = (s.kind : Int) := ⟨_, rfl⟩
  have hb : (K == 1) = true ∨ ((K == 1) = false ∧ (K == 2) = true) ∨ ((K == 1) = false ∧ (K == 2) = false ∧ (K == 3) = true) := by
    rcases hk with hk | hk | hk <;> rw [hk] at hK <;> subst hK
    · exact .inl rfl
    · exact .inr (.inl ⟨rfl, rfl⟩)
    · exact .inr (.inr ⟨rfl, rfl, rfl⟩)
  unfold sv at R1 ⊢
  rw [← hK] at b0 R1 P1 H1 M1 ⊢
  clear hK hk
  rcases hb with b1 | ⟨b1, b2⟩ | ⟨b1, b2, b3⟩
  all_goals
    go_enter Tryz.func112, Tryz.ntmps112
    go_wp2_with (fail)
    go_region_held3 (fun w' => w'.cell? ⟨b, 5, none⟩ = some (.map (some bf)) ∧ w'.cell? ⟨b, 7, none⟩ = some (.map (some bd)) ∧ w'.cell? ⟨w.heap.size, 0, none⟩ = some (.int .i64 K) ∧ w'.cell? ⟨w.heap.size, 1, none⟩ = some (.int .i64 (s.file : Int)) ∧ w'.cell? ⟨w.heap.size, 2, none⟩ = some (.int .i64 (s.size : Int)) ∧ w'.cell? ⟨w.heap.size, 3, none⟩ = some (str s.name) ∧ w'.cell? ⟨w.heap.size, 4, none⟩ = some (str s.to))
      (first | exact P1 | exact P2 | exact P3)
      (first | (go_at_call 80; refine R1.mono ?_; rintro e w2 ⟨rfl, n2, g2, z2⟩; have P2 := seven_grown g2 nb wd P1; have H2 := H1.out.turnD (only_grown g2) M' n2; obtain ⟨w3, r3, p3, g3, z3⟩ := H2.files.del' L (by omega); have P3 := seven_grown g3 nf wf P2; clear z2 z3 n2))
    go_end0
    have H3 := H2.drop (only_grown g3) L p3
    have M2 := M1.out.grown g2 (fun k e _ => by cases e; exact H1.out.sd)
    have M3 := M2.grown g3 (fun k e _ => by cases e; exact H1.out.sf)
    exact ⟨rfl, H3, M3⟩

/-- What a step that is kept must keep to. -/
structure KeepOk (σ : Vf.St) (s : Vf.Step) : Prop where
  step : StepOk s
  kind : s.kind ≤ 3
  few : σ.durable.length ≤ 1000000000
  nums : ∀ k, Vf.num σ.durable k ≤ 1000000000
  synced : ∀ x, σ.files s.file = some x → x.synced + s.size ≤ 1000000000000

theorem keep_any (w : World) (b bf bh bd : Nat) (pv : Value) (fs : Nat → Option Nat) (sl : Nat → Value) (σ : Vf.St) (S : Nat → Prop) (h : RepAt w b bf bh bd pv fs sl σ S) (s : Vf.Step) (ok : KeepOk σ s) :
    Calls Tryz.prog 112 #[.pointer (some ⟨b, 0, none⟩), sv s] w fun e w' => e = .returned (.tuple #[]) ∧ (∃ fs' sl', RepAt w' b bf bh bd pv fs' sl' (Vf.keep σ s) S) ∧ Moved S w w' := by
  by_cases k0 : s.kind = 0
  · have hK : ((s.kind : Int) == 0) = true := by rw [k0]; rfl
    cases hx : σ.files s.file with
    | none =>
      have hn : fs s.file = none := by
        have := h.dom s.file
        rw [hx] at this
        simpa using this
      refine (keep_none w b bf bh bd pv fs sl σ S h (s.kind : Int) s.file s.size (str s.name) (str s.to) hK ok.step.file hn).mono ?_
      rintro e w' ⟨rfl, rfl⟩
      refine ⟨rfl, ⟨fs, sl, ?_⟩, ((Moved.refl S w).alloc _).drew⟩
      have e1 : Vf.keep σ s = σ := by unfold Vf.keep; rw [if_pos k0, hx]
      rw [e1]
      exact (h.alloc _).drew
    | some x =>
      obtain ⟨g, hn⟩ : ∃ g, fs s.file = some g := by
        have := h.dom s.file
        rw [hx] at this
        exact Option.isSome_iff_exists.1 this
      refine (keep_some w b bf bh bd pv fs sl σ S h (s.kind : Int) s.file s.size g x (str s.name) (str s.to) hK ok.step.file hn hx (ok.synced x hx)).mono ?_
      rintro e w' ⟨rfl, rfl⟩
      have h1 := h.alloc (.cells #[.int .i64 (s.kind : Int), .int .i64 (s.file : Int), .int .i64 (s.size : Int), str s.name, str s.to] 102)
      refine ⟨rfl, ⟨fs, fun k => if k = s.file then sl s.file else sl k, ?_⟩, ((((Moved.refl S w).alloc _).setCell (fun _ => h.sg _ _ hn) _).drew).drew⟩
      have e1 : Vf.keep σ s = { σ with files := Vf.setF σ.files s.file (some { x with synced := x.synced + s.size }) } := by unfold Vf.keep; rw [if_pos k0, hx]
      rw [e1]
      refine RepAt.drew (RepAt.drew (h1.turnG hn hx (x' := { x with synced := x.synced + s.size }) (only_setCell _ ⟨g, 1, none⟩ _) (sl s.file) ?_ ?_ (fun r hr => hr)))
      · rw [Joins.block_setCell (h1.file s.file g x hn hx).1]; rfl
      · exact ownsRow_same (h1.file s.file g x hn hx).2 fun r hr => (only_setCell _ ⟨g, 1, none⟩ _).2 r (h1.low _ (h1.sr s.file r (by rw [hn]; simp) hr)) (ne_kind (h1.kr (by rw [hn]; simp) hr) (h1.kg hn) (by decide))
  · have hk : s.kind = 1 ∨ s.kind = 2 ∨ s.kind = 3 := by have := ok.kind; omega
    have hL : Vf.lost s σ.durable ≤ 1000000000 := by
      unfold Vf.lost
      split
      · unfold Vf.num
        rw [Vf.look_del]
        split
        · simp
        · exact ok.nums _
      · split
        · exact ok.nums _
        · omega
    refine (keep_name w b bf bh bd pv fs sl σ S h s ok.step hk ok.few ok.nums _ rfl hL _ rfl).mono ?_
    rintro e w' ⟨rfl, h', m'⟩
    refine ⟨rfl, ⟨setG fs (Vf.lost s σ.durable) none, sl, ?_⟩, m'⟩
    have e1 : Vf.keep σ s = { σ with durable := Vf.ren s σ.durable, files := Vf.setF σ.files (Vf.lost s σ.durable) none } := by unfold Vf.keep; rw [if_neg k0, if_pos ok.kind]
    rw [e1]
    exact h'
end Go.Proofs.YtlhnjloimhcpfabGreatDoor
namespace Go.Proofs.YtlhnjloimhcpfabGreatDoor
open Go.RowKit Go.Maps

theorem infoS : (Tryz.prog.info? 102).map (fun i => (i.zero, i.size, i.bytes)) = some (some (.agg #[.int .i64 0, .int .i64 0, .int .i64 0, .string ⟨#[]⟩, .string ⟨#[]⟩]), 5, 56) := by kernel_rfl
theorem zeroSt (w : World) : (zeroValue 102).run Tryz.prog w = .ok (.agg #[.int .i64 0, .int .i64 0, .int .i64 0, .string ⟨#[]⟩, .string ⟨#[]⟩]) w := by kernel_rfl

/-- Block g begins with these steps. -/
def StepsAt (w : World) (g cap : Nat) (l : List Vf.Step) : Prop := ∃ cur : Array Value, w.heap[g]? = some (.cells cur 102 (0, 0)) ∧ cur.size = cap * 5 ∧ l.length ≤ cap ∧ cap ≤ maxLen ∧ cur.toList.take (l.length * 5) = scs l

theorem steps_of_row {w : World} {base g n cap : Nat} {l : List Vf.Step} (h : w.ownsRow base 102 5 (.slice (some ⟨g, 0, none⟩) n cap) n (scs l)) (hn : n = l.length) : StepsAt w g cap l := by
  subst hn
  rcases h.2 with ⟨e, _⟩ | ⟨g', cap', cur, e, _, hb, hnc, hcm, hcs, ht⟩
  · cases e
  · simp only [Value.slice.injEq, Option.some.injEq, Addr.mk.injEq, and_true, true_and] at e
    obtain ⟨rfl, rfl⟩ := e
    exact ⟨cur, hb, hcs, hnc, hcm, ht⟩
theorem row_of_steps {w : World} {g cap n : Nat} {l : List Vf.Step} (h : StepsAt w g cap l) (hn : n = l.length) : w.ownsRow 0 102 5 (.slice (some ⟨g, 0, none⟩) n cap) n (scs l) := by
  subst hn
  obtain ⟨cur, hb, hcs, hnc, hcm, ht⟩ := h
  exact ⟨scs_length l, .inr ⟨g, cap, cur, rfl, Nat.zero_le _, hb, hnc, hcm, hcs, ht⟩⟩
theorem StepsAt.take {w : World} {g cap : Nat} {l : List Vf.Step} (h : StepsAt w g cap l) (r : Nat) : StepsAt w g cap (l.take r) := by
  obtain ⟨cur, hb, hcs, hnc, hcm, ht⟩ := h
  have hl := List.length_take_le' r l
  refine ⟨cur, hb, hcs, by omega, hcm, ?_⟩
  have e : scs l = scs (l.take r) ++ scs (l.drop r) := by rw [← scs_append, List.take_append_drop]
  have := congrArg (List.take ((l.take r).length * 5)) ht
  rw [List.take_take, Nat.min_eq_left (by omega)] at this
  rw [this, e, List.take_left' (scs_length _)]
theorem StepsAt.same {w w' : World} {g cap : Nat} {l : List Vf.Step} (h : StepsAt w g cap l) (e : w'.heap[g]? = w.heap[g]?) : StepsAt w' g cap l := by
  obtain ⟨cur, hb, r⟩ := h
  exact ⟨cur, e.trans hb, r⟩

theorem scs_get (l : List Vf.Step) (j i : Nat) (hj : j < l.length) (hi : i < 5) : (scs l)[j * 5 + i]? = (sc l[j])[i]? := by
  have e : l = l.take j ++ (l[j] :: l.drop (j + 1)) := by rw [List.getElem_cons_drop, List.take_append_drop]
  have : scs l = scs (l.take j) ++ (sc l[j] ++ scs (l.drop (j + 1))) := by
    conv => lhs; rw [e]
    rw [scs_append]; rfl
  have hlen : (scs (l.take j)).length = j * 5 := by rw [scs_length, List.length_take, Nat.min_eq_left (by omega)]
  rw [this, List.getElem?_append_right (by omega), hlen, Nat.add_sub_cancel_left, List.getElem?_append_left (by show i < 5; exact hi)]

theorem StepsAt.cell {w : World} {g cap : Nat} {l : List Vf.Step} (h : StepsAt w g cap l) (j i : Nat) (hj : j < l.length) (hi : i < 5) : w.cell? ⟨g, j * 5 + i, none⟩ = (sc l[j])[i]? := by
  obtain ⟨cur, hb, hcs, hnc, hcm, ht⟩ := h
  rw [Joins.cell_of_block hb, ← scs_get l j i hj hi, ← ht, List.getElem?_take_of_lt (by omega), Array.getElem?_toList]

theorem scs_one (l : List Vf.Step) : ∀ u ∈ scs l, u.oneCell' = true := by
  intro u hu
  simp only [scs, List.mem_flatMap] at hu
  obtain ⟨s, _, hs⟩ := hu
  simp only [sc, List.mem_cons, List.not_mem_nil, or_false] at hs
  rcases hs with rfl | rfl | rfl | rfl | rfl <;> rfl

theorem step_cells {w : World} {B : Nat} {s : Vf.Step} (h : w.heap[B]? = some (.cells (sc s).toArray 102 (0, 0))) : ∀ j u, (scs [s])[j]? = some u → w.cell? ((⟨B, 0, none⟩ : Addr).add j) = some u := by
  intro j u hu
  have hadd : (⟨B, 0, none⟩ : Addr).add j = ⟨B, j, none⟩ := by unfold Addr.add; split <;> simp_all
  rw [hadd, Joins.cell_of_block h]
  simpa [scs] using hu

/-- One step put over an older one. -/
theorem wpList_over (w : World) {ops : Array Oper} {rest : List Oper} {o : Oper} {a : Act} {Q : Exit → Act → World → Prop} (hgd : o.guard = none) (x y : Operand)
    (hop : o.op = .call { callee := .builtin .append, args := #[x, y], argTypes := #[57, 57] })
    (g cap : Nat) (l : List Vf.Step) (s : Vf.Step) (r : Nat) (hr : r < l.length) (hx : a.eval x = .slice (some ⟨g, 0, none⟩) r cap) (B c : Nat) (hy : a.eval y = .slice (some ⟨B, 0, none⟩) 1 c)
    (hs : StepsAt w g cap l) (hB : w.heap[B]? = some (.cells (sc s).toArray 102 (0, 0)))
    (h : ∀ w', StepsAt w' g cap (l.take r ++ [s] ++ l.drop (r + 1)) → w.grownBy w' (some g) → w'.heap.size = w.heap.size → wpList Tryz.prog ops Q rest (a.put o.dst (.slice (some ⟨g, 0, none⟩) (r + 1) cap)) w') :
    wpList Tryz.prog ops Q (o :: rest) a w := by
  obtain ⟨i0, hi, hz0, hz1, hz2⟩ := info_parts infoS
  obtain ⟨cur, hb, hcs, hnc, hcm, ht⟩ := hs
  have hl1 : (scs [s]).length = 1 * i0.size := by rw [hz1]; rfl
  have hrun := fun ty => run_append_room (P := Tryz.prog) w 57 ty 102 i0 Tryz.underlying57 hi g r cap cur hb ⟨B, 0, none⟩ 1 c (scs [s]) hl1 (step_cells hB) (scs_one _) (by omega) (by rw [hl1, hz1, hcs]; omega)
  refine wpList_plain hgd fun K' hK' => ?_
  unfold Oper.wp
  simp [execOp, hop, resolve, invoke, builtin, hx, hy, hrun, Result.andThen]
  refine hK' _ _ (h _ ?_ ⟨rfl, rfl, rfl, by simp, fun k _ hk => setRow_other w g k _ (fun e => hk (by simp [e]))⟩ (by simp))
  have hlen : (l.take r ++ [s] ++ l.drop (r + 1)).length = l.length := by simp; omega
  refine ⟨_, setRow_heap w g cur _ 102 _ hb, ?_, by rw [hlen]; exact hnc, hcm, ?_⟩
  · have h5 : (scs [s]).length = 5 := rfl
    simp only [List.size_toArray, List.length_append, List.length_take, List.length_drop, Array.length_toList, h5, hz1]
    omega
  · have h5 : (scs [s]).length = 5 := rfl
    have hcl : cur.toList.length = cap * 5 := by rw [Array.length_toList, hcs]
    rw [hlen, h5, hz1, scs_append, scs_append]
    have e1 : cur.toList.take (r * 5) = scs (l.take r) := by
      have := congrArg (List.take (r * 5)) ht
      rw [List.take_take, Nat.min_eq_left (by omega)] at this
      rw [this]
      have e : scs l = scs (l.take r) ++ scs (l.drop r) := by rw [← scs_append, List.take_append_drop]
      rw [e, List.take_left' (by rw [scs_length, List.length_take, Nat.min_eq_left (by omega)])]
    have e2 : (cur.toList.drop (r * 5 + 5)).take ((l.length - (r + 1)) * 5) = scs (l.drop (r + 1)) := by
      have := congrArg (List.drop ((r + 1) * 5)) ht
      rw [List.drop_take] at this
      have e : scs l = scs (l.take (r + 1)) ++ scs (l.drop (r + 1)) := by rw [← scs_append, List.take_append_drop]
      rw [e, List.drop_left' (by rw [scs_length, List.length_take, Nat.min_eq_left (by omega)])] at this
      rw [← this, show r * 5 + 5 = (r + 1) * 5 from by omega, show (l.length - (r + 1)) * 5 = l.length * 5 - (r + 1) * 5 from by omega]
    rw [e1, List.toList_toArray, ← e2]
    have hl2 : (scs (l.take r) ++ scs [s]).length = (r + 1) * 5 := by rw [List.length_append, scs_length, h5, List.length_take, Nat.min_eq_left (by omega)]; omega
    rw [← List.append_assoc]
    generalize scs (l.take r) ++ scs [s] = A at hl2 ⊢
    rw [List.take_append, List.take_of_length_le (by rw [hl2]; omega), hl2, show l.length * 5 - (r + 1) * 5 = (l.length - (r + 1)) * 5 from by omega]

/-- The end of the list made empty. -/
theorem run_clear_steps (w : World) (g cap : Nat) (l : List Vf.Step) (r : Nat) (hr : r ≤ l.length) (hs : StepsAt w g cap l) (c : Nat) :
    ∃ w', (∀ ty, (Builtin.clear_ #[57] ty #[.slice (some ⟨g, r * 5, none⟩) (l.length - r) c]).run Tryz.prog w = .ok (.tuple #[]) w') ∧ StepsAt w' g cap (l.take r) ∧ w.grownBy w' (some g) ∧ w'.heap.size = w.heap.size := by
  by_cases h0 : l.length - r = 0
  · refine ⟨w, fun ty => ?_, ?_, World.grownBy.refl _ _, rfl⟩
    · rw [h0]
      simp [Builtin.clear_, run_underlying Tryz.underlying57]
    · rw [List.take_of_length_le (by omega)]; exact hs
  · obtain ⟨cur, hb, hcs, hnc, hcm, ht⟩ := hs
    have hz : (Builtin.zeroCells (Value.agg #[.int .i64 0, .int .i64 0, .int .i64 0, .string ⟨#[]⟩, .string ⟨#[]⟩]).cells (l.length - r)).toList.length = (l.length - r) * 5 := by rw [Array.length_toList, size_zeroCells]; rfl
    have h1 : ∀ v ∈ (Builtin.zeroCells (Value.agg #[.int .i64 0, .int .i64 0, .int .i64 0, .string ⟨#[]⟩, .string ⟨#[]⟩]).cells (l.length - r)).toList, v.oneCell' = true := by
      intro v hv
      rw [Array.mem_toList_iff] at hv
      unfold Builtin.zeroCells at hv
      rw [Array.mem_map] at hv
      obtain ⟨i, _, rfl⟩ := hv
      have hm : i % (Value.agg #[.int .i64 0, .int .i64 0, .int .i64 0, .string ⟨#[]⟩, .string ⟨#[]⟩]).cells.size < 5 := Nat.mod_lt _ (by decide)
      generalize i % (Value.agg #[.int .i64 0, .int .i64 0, .int .i64 0, .string ⟨#[]⟩, .string ⟨#[]⟩]).cells.size = m at hm ⊢
      match m, hm with
      | 0, _ => rfl
      | 1, _ => rfl
      | 2, _ => rfl
      | 3, _ => rfl
      | 4, _ => rfl
    generalize hZ : (Builtin.zeroCells (Value.agg #[.int .i64 0, .int .i64 0, .int .i64 0, .string ⟨#[]⟩, .string ⟨#[]⟩]).cells (l.length - r)).toList = Z at hz h1
    have hst := run_storeCells_at Tryz.prog g (r * 5) 102 Z 0 cur w hb (by rw [hz, hcs]; omega) h1
    refine ⟨w.setRow g (cur.toList.take (r * 5 + 0) ++ Z ++ cur.toList.drop (r * 5 + 0 + Z.length)).toArray, fun ty => ?_, ⟨_, setRow_heap w g cur _ 102 _ hb, ?_, ?_, hcm, ?_⟩, ⟨rfl, rfl, rfl, by simp, fun k _ hk => setRow_other w g k _ (fun e => hk (by simp [e]))⟩, by simp⟩
    · obtain ⟨m, hm⟩ : ∃ m, l.length - r = m + 1 := ⟨l.length - r - 1, by omega⟩
      rw [hm] at hZ ⊢
      simp [Builtin.clear_, run_underlying Tryz.underlying57, hZ, hst]
    · simp only [List.size_toArray, List.length_append, List.length_take, List.length_drop, Array.length_toList, hz]
      omega
    · have := List.length_take_le' r l
      omega
    · have hcl : cur.toList.length = cap * 5 := by rw [Array.length_toList, hcs]
      have hlr : (l.take r).length = r := by rw [List.length_take, Nat.min_eq_left hr]
      rw [List.toList_toArray, hlr, Nat.add_zero, List.append_assoc, List.take_left' (by rw [List.length_take, hcl]; omega)]
      have := congrArg (List.take (r * 5)) ht
      rw [List.take_take, Nat.min_eq_left (by omega)] at this
      rw [this]
      have e : scs l = scs (l.take r) ++ scs (l.drop r) := by rw [← scs_append, List.take_append_drop]
      rw [e, List.take_left' (by rw [scs_length, hlr])]
end Go.Proofs.YtlhnjloimhcpfabGreatDoor
namespace Go.Proofs.YtlhnjloimhcpfabGreatDoor
open Go.RowKit Go.Maps

theorem due2_any (w : World) (s : Vf.Step) : Calls Tryz.prog 83 #[sv s] w fun e w' => e = .returned (.bool (!decide (s.kind = 0))) ∧ w' = w.alloc (.cells (sc s).toArray 102) := by
  obtain ⟨kind, file, size, name, to⟩ := s
  have q : Hid ((!((kind : Int) == 0)) = !decide (kind = 0)) := by show _ = _; congr 1; by_cases h : kind = 0 <;> simp [h]
  go_enter Tryz.func83, Tryz.ntmps83
  go_wp2
  go_ret
  exact ⟨by rw [← q.out]; rfl, rfl⟩
theorem due1_any (w : World) (s : Vf.Step) (B F : Nat) (hc : w.cell? ⟨B, 1, none⟩ = some (.int .i64 (F : Int))) : Calls Tryz.prog 82 #[sv s, .pointer (some ⟨B, 0, none⟩)] w fun e w' => e = .returned (.bool (decide (s.kind = 0) && decide (s.file = F))) ∧ w' = w.alloc (.cells (sc s).toArray 102) := by
  obtain ⟨kind, file, size, name, to⟩ := s
  have q0 : Hid (((kind : Int) == 0) = decide (kind = 0)) := by show _ = _; by_cases h : kind = 0 <;> simp [h]
  have q1 : Hid (((file : Int) == (F : Int)) = decide (file = F)) := by show _ = _; by_cases h : file = F <;> simp [h]; omega
  by_cases h0 : kind = 0
  · have b0 : ((kind : Int) == 0) = true := by simp [h0]
    have H0 : Hid (kind = 0) := h0
    have hc' : ∀ o, (w.alloc o).cell? ⟨B, 1, none⟩ = some (.int .i64 (F : Int)) := fun o => keepC ((Below.refl _ _).alloc (Nat.le_refl _) _) hc
    clear h0 hc q0
    go_enter Tryz.func82, Tryz.ntmps82
    go_wp2
    go_ret
    exact ⟨by rw [← q1.out, decide_eq_true H0.out]; rfl, rfl⟩
  · have b0 : ((kind : Int) == 0) = false := by simp; omega
    go_enter Tryz.func82, Tryz.ntmps82
    go_wp2
    go_ret
    exact ⟨by rw [decide_eq_false h0]; rfl, rfl⟩


/-- The steps of the first i that are due, and that are not. -/
def dueTo (due : Vf.Step → Bool) (l : List Vf.Step) (i : Nat) : List Vf.Step := (l.take i).filter due
def restTo (due : Vf.Step → Bool) (l : List Vf.Step) (i : Nat) : List Vf.Step := (l.take i).filter fun s => !due s

theorem dueTo_yes {due : Vf.Step → Bool} {l : List Vf.Step} {i : Nat} (h : i < l.length) (hd : due l[i] = true) : dueTo due l (i + 1) = dueTo due l i ++ [l[i]] ∧ restTo due l (i + 1) = restTo due l i := by
  unfold dueTo restTo
  rw [List.take_succ_eq_append_getElem h, List.filter_append, List.filter_append]
  simp only [List.filter_cons, hd, List.filter_nil, Bool.not_true, Bool.false_eq_true, if_true, if_false, List.append_nil, and_self]
theorem dueTo_no {due : Vf.Step → Bool} {l : List Vf.Step} {i : Nat} (h : i < l.length) (hd : due l[i] = false) : dueTo due l (i + 1) = dueTo due l i ∧ restTo due l (i + 1) = restTo due l i ++ [l[i]] := by
  unfold dueTo restTo
  rw [List.take_succ_eq_append_getElem h, List.filter_append, List.filter_append]
  simp only [List.filter_cons, hd, List.filter_nil, Bool.not_false, Bool.false_eq_true, if_true, if_false, List.append_nil, and_self]
theorem restTo_le (due : Vf.Step → Bool) (l : List Vf.Step) (i : Nat) : (restTo due l i).length ≤ i := Nat.le_trans (List.length_filter_le _ _) (List.length_take_le i l)

theorem Vf.keep_pending (σ : Vf.St) (s : Vf.Step) (p : List Vf.Step) : Vf.keep { σ with pending := p } s = { Vf.keep σ s with pending := p } := by
  unfold Vf.keep
  simp only
  split
  · split <;> simp
  · split <;> rfl

/-- The state behind i rounds. -/
def setTo (due : Vf.Step → Bool) (σ : Vf.St) (i : Nat) : Vf.St := { Vf.keepAll σ (dueTo due σ.pending i) with pending := restTo due σ.pending i ++ σ.pending.drop (restTo due σ.pending i).length }
theorem setTo_zero (due : Vf.Step → Bool) (σ : Vf.St) : setTo due σ 0 = σ := by simp [setTo, dueTo, restTo, Vf.keepAll]
theorem setTo_yes {due : Vf.Step → Bool} {σ : Vf.St} {i : Nat} (h : i < σ.pending.length) (hd : due σ.pending[i] = true) : setTo due σ (i + 1) = Vf.keep (setTo due σ i) σ.pending[i] := by
  obtain ⟨e1, e2⟩ := dueTo_yes h hd
  unfold setTo
  rw [e1, e2, Vf.keep_pending]
  simp [Vf.keepAll]
theorem setTo_no {due : Vf.Step → Bool} {σ : Vf.St} {i : Nat} (h : i < σ.pending.length) (hd : due σ.pending[i] = false) :
    setTo due σ (i + 1) = { setTo due σ i with pending := (setTo due σ i).pending.take (restTo due σ.pending i).length ++ [σ.pending[i]] ++ (setTo due σ i).pending.drop ((restTo due σ.pending i).length + 1) } := by
  obtain ⟨e1, e2⟩ := dueTo_no h hd
  have hr := restTo_le due σ.pending i
  unfold setTo
  rw [e1, e2]
  simp only [List.take_left', List.length_append, List.length_singleton]
  congr 1
  rw [show (restTo due σ.pending i ++ List.drop (restTo due σ.pending i).length σ.pending).drop ((restTo due σ.pending i).length + 1) = σ.pending.drop ((restTo due σ.pending i).length + 1) from by
    rw [List.drop_append, List.drop_of_length_le (by omega), List.nil_append, List.drop_drop]
    congr 1; omega]
theorem setTo_pend (due : Vf.Step → Bool) (σ : Vf.St) (i : Nat) (hi : i ≤ σ.pending.length) : (setTo due σ i).pending.length = σ.pending.length := by
  have hr := restTo_le due σ.pending i
  show (restTo due σ.pending i ++ σ.pending.drop (restTo due σ.pending i).length).length = _
  rw [List.length_append, List.length_drop]; omega
theorem setTo_get (due : Vf.Step → Bool) (σ : Vf.St) (i : Nat) (hi : i < σ.pending.length) (h : i < (setTo due σ i).pending.length) : (setTo due σ i).pending[i] = σ.pending[i] := by
  have hr := restTo_le due σ.pending i
  have e : (setTo due σ i).pending = restTo due σ.pending i ++ σ.pending.drop (restTo due σ.pending i).length := rfl
  apply Option.some.inj
  rw [← List.getElem?_eq_getElem h, ← List.getElem?_eq_getElem hi, e, List.getElem?_append_right hr, List.getElem?_drop]
  congr 1; omega
theorem setTo_end (due : Vf.Step → Bool) (σ : Vf.St) : { setTo due σ σ.pending.length with pending := restTo due σ.pending σ.pending.length } = Vf.settle due σ := by
  unfold setTo Vf.settle dueTo restTo
  simp [List.take_length]
end Go.Proofs.YtlhnjloimhcpfabGreatDoor
namespace Go.Proofs.YtlhnjloimhcpfabGreatDoor
open Go.RowKit Go.Maps

/-- A turn of the block of the pending steps. -/
theorem RepAt.turnP {w : World} {b bf bh bd : Nat} {pv : Value} {fs : Nat → Option Nat} {sl : Nat → Value} {σ : Vf.St} {S : Nat → Prop} (h : RepAt w b bf bh bd pv fs sl σ S) {w' : World} {g : Nat} (hg : pv.ownBlock = some g) (ho : Only w w' g) (l : List Vf.Step)
    (hp : w'.ownsRow 0 102 5 pv l.length (scs l)) : RepAt w' b bf bh bd pv fs sl { σ with pending := l } S :=
  ⟨(ho.2 b (h.low _ h.sb) (ne_kind h.kb (h.kp hg) (by decide))).trans h.blk, h.files.same (ho.2 _ h.files.lt (ne_kind h.files.kind (h.kp hg) (by simp))), h.held.same (ho.2 _ h.held.lt (ne_kind h.held.kind (h.kp hg) (by simp))), h.dur.same (ho.2 _ h.dur.lt (ne_kind h.dur.kind (h.kp hg) (by simp))), hp, h.dom,
    fun n r x hn hx => by
      refine ⟨(ho.2 r (h.low _ (h.sg n r hn)) (ne_kind (h.kg hn) (h.kp hg) (by decide))).trans (h.file n r x hn hx).1, ownsRow_same (h.file n r x hn hx).2 fun q hq => ?_⟩
      have hne : fs n ≠ none := by rw [hn]; simp
      exact ho.2 q (h.low _ (h.sr n q hne hq)) (ne_kind (h.kr hne hq) (h.kp hg) (by decide)),
    h.inj, h.rows, h.fh, h.fd, h.hd, h.sb, h.sf, h.sh, h.sd, h.sp, h.sg, h.sr, fun i hi => Nat.lt_of_lt_of_le (h.low i hi) ho.1⟩

/-- A turn of the file system's own block and of the block of the pending steps. -/
theorem RepAt.turnPB {w : World} {b bf bh bd : Nat} {pv : Value} {fs : Nat → Option Nat} {sl : Nat → Value} {σ : Vf.St} {S : Nat → Prop} (h : RepAt w b bf bh bd pv fs sl σ S) {w' : World} {g : Nat} (hk : kindAt w g = some (some 102)) (_ : w.heap.size ≤ w'.heap.size) (ho : ∀ i, i < w.heap.size → i ≠ b → i ≠ g → w'.heap[i]? = w.heap[i]?) (σ' : Vf.St) (pv' : Value)
    (hb : w'.heap[b]? = some (.cells (fsCells σ' bf bh bd pv') 59 (0, 0))) (e1 : σ'.files = σ.files) (e2 : σ'.held = σ.held) (e3 : σ'.durable = σ.durable) (e5 : σ.steps ≤ σ'.steps)
    (hp : w'.ownsRow 0 102 5 pv' σ'.pending.length (scs σ'.pending)) (T : Nat → Prop) (hT : ∀ i, S i → T i) (hl : ∀ i, T i → i < w'.heap.size) (hs : ∀ g, pv'.ownBlock = some g → T g) : RepAt w' b bf bh bd pv' fs sl σ' T :=
  ⟨hb, (h.files.same (ho _ h.files.lt (ne_kind h.files.kind h.kb (by simp)) (ne_kind h.files.kind hk (by simp)))).mono e5, by rw [e2]; exact h.held.same (ho _ h.held.lt (ne_kind h.held.kind h.kb (by simp)) (ne_kind h.held.kind hk (by simp))), by rw [e3]; exact h.dur.same (ho _ h.dur.lt (ne_kind h.dur.kind h.kb (by simp)) (ne_kind h.dur.kind hk (by simp))), hp,
    fun n => by rw [e1]; exact h.dom n,
    fun n r x hn hx => by
      rw [e1] at hx
      refine ⟨(ho r (h.low _ (h.sg n r hn)) (ne_kind (h.kg hn) h.kb (by decide)) (ne_kind (h.kg hn) hk (by decide))).trans (h.file n r x hn hx).1, ownsRow_same (h.file n r x hn hx).2 fun q hq => ?_⟩
      have hne : fs n ≠ none := by rw [hn]; simp
      exact ho q (h.low _ (h.sr n q hne hq)) (ne_kind (h.kr hne hq) h.kb (by decide)) (ne_kind (h.kr hne hq) hk (by decide)),
    h.inj, h.rows, h.fh, h.fd, h.hd, hT _ h.sb, hT _ h.sf, hT _ h.sh, hT _ h.sd, hs, fun n g hn => hT _ (h.sg n g hn), fun n g h1 h2 => hT _ (h.sr n g h1 h2), hl⟩

theorem settle_end {w wr w5 : World} {b bf bh bd g cap n r : Nat} {fs : Nat → Option Nat} {sl : Nat → Value} {σ : Vf.St} {S : Nat → Prop} {due : Vf.Step → Bool} (h : RepAt wr b bf bh bd (.slice (some ⟨g, 0, none⟩) n cap) fs sl (setTo due σ σ.pending.length) S) (hm : Moved S w wr) (g5 : wr.grownBy w5 (some g))
    (hr : r = (restTo due σ.pending σ.pending.length).length) (s5 : StepsAt w5 g cap (restTo due σ.pending σ.pending.length)) :
    (∃ pv' fs' sl', RepAt (w5.setCell ⟨b, 8, none⟩ (.slice (some ⟨g, 0, none⟩) r cap)) b bf bh bd pv' fs' sl' (Vf.settle due σ) S) ∧ Moved S w (w5.setCell ⟨b, 8, none⟩ (.slice (some ⟨g, 0, none⟩) r cap)) := by
  have nb : b ≠ g := ne_kind h.kb (h.kp rfl) (by decide)
  have b5 := (g5.block b (h.low _ h.sb) (by simp; exact nb)).trans h.blk
  refine ⟨⟨.slice (some ⟨g, 0, none⟩) r cap, fs, sl, ?_⟩, (hm.grown g5 (fun k e _ => by cases e; exact h.sp g rfl)).setCell (fun _ => h.sb) _⟩
  rw [← setTo_end]
  have hz : wr.heap.size ≤ (w5.setCell ⟨b, 8, none⟩ (.slice (some ⟨g, 0, none⟩) r cap)).heap.size := Nat.le_trans g5.size (by simp [World.setCell])
  refine h.turnPB (h.kp rfl) hz (fun i hi h1 h2 => ?_) { setTo due σ σ.pending.length with pending := restTo due σ.pending σ.pending.length } (.slice (some ⟨g, 0, none⟩) r cap) ?_ rfl rfl rfl (Nat.le_refl _) ?_ S (fun i hi => hi) (fun i hi => Nat.lt_of_lt_of_le (h.low i hi) hz) (fun q hq => h.sp q hq)
  · exact (Below.heap_setCell w5 ⟨b, 8, none⟩ _ i h1).trans (g5.block i hi (by simp; exact h2))
  · rw [Joins.block_setCell b5]; rfl
  · show World.ownsRow _ 0 _ 5 _ (restTo due σ.pending σ.pending.length).length _
    rw [← hr]
    exact ownsRow_same (row_of_steps s5 hr) fun q hq => by
      have : q = g := by simp [Value.ownBlock] at hq; exact hq.symm
      rw [this]
      exact Below.heap_setCell w5 ⟨b, 8, none⟩ _ g nb.symm

theorem new_block (w : World) (o : Obj) : (w.alloc o).heap[w.heap.size]? = some o := by show (w.heap.push _)[w.heap.size]? = _; simp

theorem still2 {f : FuncId} {args : Array Value} {w w1 : World} {v : Ending} (c : Calls Tryz.prog f args w fun e w' => e = v ∧ w' = w1) {K : Ending → World → Prop} (h : K v w1) : Calls Tryz.prog f args w K := c.mono (by rintro e w' ⟨rfl, rfl⟩; exact h)

set_option maxHeartbeats 1000000 in
theorem settle2_some (w : World) (b bf bh bd g cap n : Nat) (fs : Nat → Option Nat) (sl : Nat → Value) (σ : Vf.St) (S : Nat → Prop) (h : RepAt w b bf bh bd (.slice (some ⟨g, 0, none⟩) n cap) fs sl σ S) (hn : n = σ.pending.length) (hcap : n ≤ 1000000000)
    (due : Vf.Step → Bool) (DU : Hid (∀ wx s, Moved S w wx → Calls Tryz.prog 83 #[sv s] wx fun e w' => e = .returned (.bool (due s)) ∧ w' = wx.alloc (.cells (sc s).toArray 102)))
    (ok : Hid (∀ i (hi : i < σ.pending.length), due σ.pending[i] = true → KeepOk (setTo due σ i) σ.pending[i])) :
    Calls Tryz.prog 81 #[.pointer (some ⟨b, 0, none⟩), .func (.func 83) #[] #[]] w fun e w' => e = .returned (.tuple #[]) ∧ (∃ pv' fs' sl', RepAt w' b bf bh bd pv' fs' sl' (Vf.settle due σ) S) ∧ Moved S w w' := by
  have c8 := h.cells.2.2.2.2.2.2.2.2
  have HN : Hid (n = σ.pending.length) := hn
  have nc : (0 : Int) ≤ (cap : Int) := by omega
  have H0 : Hid _ := h
  clear h hn
  go_enter Tryz.func81, Tryz.ntmps81
  go_wp2_with (fail)
  go_loopw [4, 17] (fun v i wr => ∃ j r : Nat, j ≤ n ∧ r ≤ j ∧ i = .int .i64 j ∧ v = .slice (some ⟨g, 0, none⟩) r cap ∧ Hid (r = (restTo due σ.pending j).length) ∧ (∃ fs' sl', RepAt wr b bf bh bd (.slice (some ⟨g, 0, none⟩) n cap) fs' sl' (setTo due σ j) S) ∧ Moved S w wr) (fun _ i _ => n - (intOf i).toNat)
  case atStart => exact ⟨0, 0, Nat.zero_le _, Nat.le_refl _, rfl, rfl, rfl, ⟨fs, sl, by rw [setTo_zero]; exact H0.out⟩, Moved.refl _ _⟩
  case round =>
    obtain ⟨j, r, hj, hrj, rfl, rfl, HR, ⟨fs', sl', hrep⟩, hm⟩ := hrel
    clear H0 c8
    by_cases hlt : j < n
    · have hl : j < σ.pending.length := by have := HN.out; omega
      have hpl : (setTo due σ j).pending.length = n := by rw [setTo_pend due σ j (by omega)]; exact HN.out.symm
      have ST := steps_of_row (by have := hrep.pend; rw [hpl] at this; exact this) hpl.symm
      obtain ⟨s, hs⟩ : ∃ s, s = σ.pending[j] := ⟨_, rfl⟩
      have hget : (setTo due σ j).pending[j]'(by omega) = s := by rw [setTo_get due σ j hl]; exact hs.symm
      have d0 : wr.cell? ⟨g, j * 5, none⟩ = some (.int .i64 (s.kind : Int)) := by have := ST.cell j 0 (by omega) (by omega); rw [hget] at this; exact this
      have d1 : wr.cell? ⟨g, j * 5 + 1, none⟩ = some (.int .i64 (s.file : Int)) := by have := ST.cell j 1 (by omega) (by omega); rw [hget] at this; exact this
      have d2 : wr.cell? ⟨g, j * 5 + 2, none⟩ = some (.int .i64 (s.size : Int)) := by have := ST.cell j 2 (by omega) (by omega); rw [hget] at this; exact this
      have d3 : wr.cell? ⟨g, j * 5 + 3, none⟩ = some (str s.name) := by have := ST.cell j 3 (by omega) (by omega); rw [hget] at this; exact this
      have d4 : wr.cell? ⟨g, j * 5 + 4, none⟩ = some (str s.to) := by have := ST.cell j 4 (by omega) (by omega); rw [hget] at this; exact this
      have R2 := (hrep.alloc (.cells #[.int .i64 (s.kind : Int), .int .i64 (s.file : Int), .int .i64 (s.size : Int), str s.name, str s.to] 102)).alloc (.cells #[.int .i64 (s.kind : Int), .int .i64 (s.file : Int), .int .i64 (s.size : Int), str s.name, str s.to] 102)
      have M2 := (hm.alloc (.cells #[.int .i64 (s.kind : Int), .int .i64 (s.file : Int), .int .i64 (s.size : Int), str s.name, str s.to] 102)).alloc (.cells #[.int .i64 (s.kind : Int), .int .i64 (s.file : Int), .int .i64 (s.size : Int), str s.name, str s.to] 102)
      have DS : Calls Tryz.prog 83 #[sv s] (wr.alloc (.cells #[.int .i64 (s.kind : Int), .int .i64 (s.file : Int), .int .i64 (s.size : Int), str s.name, str s.to] 102)) fun e w' => e = .returned (.bool (due s)) ∧ w' = (wr.alloc (.cells #[.int .i64 (s.kind : Int), .int .i64 (s.file : Int), .int .i64 (s.size : Int), str s.name, str s.to] 102)).alloc (.cells #[.int .i64 (s.kind : Int), .int .i64 (s.file : Int), .int .i64 (s.size : Int), str s.name, str s.to] 102) := DU.out (wr.alloc (.cells #[.int .i64 (s.kind : Int), .int .i64 (s.file : Int), .int .i64 (s.size : Int), str s.name, str s.to] 102)) s (hm.alloc _)
      cases hd : due s with
      | true =>
        rw [hd] at DS
        have KA := keep_any _ b bf bh bd _ fs' sl' _ S R2 s (by rw [hs]; exact ok.out j hl (by rw [← hs]; exact hd))
        have E1 : Hid (setTo due σ (j + 1) = Vf.keep (setTo due σ j) s) := by show _ = _; rw [hs]; exact setTo_yes hl (by rw [← hs]; exact hd)
        have E2 : Hid (r = (restTo due σ.pending (j + 1)).length) := by show _ = _; rw [(dueTo_yes hl (by rw [← hs]; exact hd)).2]; exact HR.out
        clear ok DU hrep hm ST hget hs R2 HR hpl hd HN
        go_wp2_with (first
          | (go_at_call 83; refine still2 DS ?_)
          | (go_at_call 112; refine KA.mono ?_; rintro e w3 ⟨rfl, r3, m3⟩))
        exact ⟨⟨j + 1, r, by omega, by omega, rfl, rfl, E2, by rw [E1.out]; exact r3, M2.trans m3 (fun i _ h => h)⟩, by simp [intOf]; omega⟩
      | false =>
        rw [hd] at DS
        have E1 : Hid (setTo due σ (j + 1) = { setTo due σ j with pending := (setTo due σ j).pending.take r ++ [s] ++ (setTo due σ j).pending.drop (r + 1) }) := by show _ = _; rw [hs, HR.out]; exact setTo_no hl (by rw [← hs]; exact hd)
        have E2 : Hid (r + 1 = (restTo due σ.pending (j + 1)).length) := by show _ = _; rw [(dueTo_no hl (by rw [← hs]; exact hd)).2, List.length_append, ← HR.out]; rfl
        have R3 := R2.alloc (.cells #[.int .i64 (s.kind : Int), .int .i64 (s.file : Int), .int .i64 (s.size : Int), str s.name, str s.to] 102)
        have M3 := M2.alloc (.cells #[.int .i64 (s.kind : Int), .int .i64 (s.file : Int), .int .i64 (s.size : Int), str s.name, str s.to] 102)
        obtain ⟨P, hP⟩ : ∃ P, P = (setTo due σ j).pending := ⟨_, rfl⟩
        have HP : Hid (P = (setTo due σ j).pending) := hP
        have S3 : StepsAt (((wr.alloc (.cells #[.int .i64 (s.kind : Int), .int .i64 (s.file : Int), .int .i64 (s.size : Int), str s.name, str s.to] 102)).alloc (.cells #[.int .i64 (s.kind : Int), .int .i64 (s.file : Int), .int .i64 (s.size : Int), str s.name, str s.to] 102)).alloc (.cells #[.int .i64 (s.kind : Int), .int .i64 (s.file : Int), .int .i64 (s.size : Int), str s.name, str s.to] 102)) g cap P := by rw [hP]; exact steps_of_row (by have := R3.pend; rw [hpl] at this; exact this) hpl.symm
        have pl : P.length = n := by rw [hP]; exact hpl
        have NB : (((wr.alloc (.cells #[.int .i64 (s.kind : Int), .int .i64 (s.file : Int), .int .i64 (s.size : Int), str s.name, str s.to] 102)).alloc (.cells #[.int .i64 (s.kind : Int), .int .i64 (s.file : Int), .int .i64 (s.size : Int), str s.name, str s.to] 102)).alloc (.cells #[.int .i64 (s.kind : Int), .int .i64 (s.file : Int), .int .i64 (s.size : Int), str s.name, str s.to] 102)).heap[wr.heap.size + 1 + 1]? = some (.cells (sc s).toArray 102 (0, 0)) := by
          have := new_block ((wr.alloc (.cells #[.int .i64 (s.kind : Int), .int .i64 (s.file : Int), .int .i64 (s.size : Int), str s.name, str s.to] 102)).alloc (.cells #[.int .i64 (s.kind : Int), .int .i64 (s.file : Int), .int .i64 (s.size : Int), str s.name, str s.to] 102)) (.cells #[.int .i64 (s.kind : Int), .int .i64 (s.file : Int), .int .i64 (s.size : Int), str s.name, str s.to] 102)
          rw [World.size_alloc, World.size_alloc] at this
          exact this
        have hrl : r < P.length := by omega
        have PL : Hid _ := pl
        clear ok DU hrep hm ST hget hs R2 HR hpl hd HN hP pl
        go_wp2_with (first
          | (go_at_call 83; refine still2 DS ?_)
          | (at_builtin; refine wpList_over _ rfl _ _ rfl g cap P s r hrl rfl (wr.heap.size + 1 + 1) 1 rfl S3 NB ?_; intro w4 s4 g4 z4; have Z4 : Hid _ := z4; clear z4))
        have ln : (P.take r ++ [s] ++ P.drop (r + 1)).length = n := by rw [← PL.out]; simp; omega
        refine ⟨⟨j + 1, r + 1, by omega, by omega, rfl, rfl, E2, ⟨fs', sl', ?_⟩, M3.grown g4 (fun k e _ => by cases e; exact R3.sp g rfl)⟩, by simp [intOf]; omega⟩
        rw [E1.out, ← HP.out]
        exact R3.turnP rfl (only_grown g4) _ (by rw [ln]; exact row_of_steps s4 ln.symm)
    · have e : j = n := by omega
      have hl : n = σ.pending.length := HN.out
      have hpl : (setTo due σ j).pending.length = n := by rw [setTo_pend due σ j (by omega)]; exact hl.symm
      have ST := steps_of_row (by have := hrep.pend; rw [hpl] at this; exact this) hpl.symm
      have c8 := hrep.cells.2.2.2.2.2.2.2.2
      have nc : n ≤ cap := by obtain ⟨_, _, _, q, _⟩ := ST; rw [hpl] at q; exact q
      have ntk : (setTo due σ j).pending.take r = restTo due σ.pending j := by
        show (restTo due σ.pending j ++ _).take r = _
        rw [HR.out]; exact List.take_left' rfl
      have i1 : (r : Int) ≤ (n : Int) := by omega
      have i2 : (n : Int) ≤ (cap : Int) := by omega
      have i3 : ¬ (j : Int) < (n : Int) := by omega
      by_cases hrn : cap = r
      · have q5 : ∀ ty a c, (Builtin.clear_ #[57] ty #[.slice a 0 c]).run Tryz.prog wr = .ok (.tuple #[]) wr := fun ty a c => by
          cases a <;> simp [Builtin.clear_, run_underlying Tryz.underlying57]
        have f8 := hrep.unfrozen 8
        have hr2 : r = n := by omega
        have nz : n - r = 0 := by omega
        have s5 := ST.take r
        rw [ntk] at s5
        have e2 : j = σ.pending.length := by omega
        have FIN : Hid _ := settle_end (r := r) (by rw [e2] at hrep; exact hrep) hm (World.grownBy.refl wr (some g)) (by rw [← e2]; exact HR.out) (by rw [e2] at s5; exact s5)
        clear ok DU hrep ST hpl hl HN ntk e hcap nc hj hlt hrj s5 hr2 e2
        subst hrn
        go_wp2_with (fail)
        go_end0
        exact ⟨rfl, FIN.out⟩
      · obtain ⟨w5, q5, s5, g5, z5⟩ := run_clear_steps wr g cap _ r (by omega) ST (cap - r)
        rw [hpl] at q5
        rw [ntk] at s5
        have b5 : w5.heap[b]? = some (.cells (fsCells (setTo due σ j) bf bh bd (.slice (some ⟨g, 0, none⟩) n cap)) 59 (0, 0)) := (g5.block b (World.block_lt_of_cell? wr _ c8) (by simp; exact ne_kind hrep.kb (hrep.kp rfl) (by decide))).trans hrep.blk
        have f8 := Joins.unfrozen_of_block b5 8
        have e8 : w5.cell? ⟨b, 8, none⟩ = some (.slice (some ⟨g, 0, none⟩) n cap) := Joins.cell_of_block b5 8
        have e2 : j = σ.pending.length := by omega
        have FIN : Hid _ := settle_end (r := r) (by rw [e2] at hrep; exact hrep) hm g5 (by rw [← e2]; exact HR.out) (by rw [e2] at s5; exact s5)
        clear ok DU hrep ST hpl hl HN ntk e hcap nc hj hlt hrj e2 s5 b5
        go_wp2_with (fail)
        go_end0
        exact ⟨rfl, FIN.out⟩
end Go.Proofs.YtlhnjloimhcpfabGreatDoor
namespace Go.Proofs.YtlhnjloimhcpfabGreatDoor
open Go.RowKit Go.Maps

set_option maxHeartbeats 1000000 in
theorem settle1_some (B : Nat) (w : World) (b bf bh bd g cap n : Nat) (fs : Nat → Option Nat) (sl : Nat → Value) (σ : Vf.St) (S : Nat → Prop) (h : RepAt w b bf bh bd (.slice (some ⟨g, 0, none⟩) n cap) fs sl σ S) (hn : n = σ.pending.length) (hcap : n ≤ 1000000000)
    (due : Vf.Step → Bool) (DU : Hid (∀ wx s, Moved S w wx → Calls Tryz.prog 82 #[sv s, .pointer (some ⟨B, 0, none⟩)] wx fun e w' => e = .returned (.bool (due s)) ∧ w' = wx.alloc (.cells (sc s).toArray 102)))
    (ok : Hid (∀ i (hi : i < σ.pending.length), due σ.pending[i] = true → KeepOk (setTo due σ i) σ.pending[i])) :
    Calls Tryz.prog 81 #[.pointer (some ⟨b, 0, none⟩), .func (.func 82) #[] #[.pointer (some ⟨B, 0, none⟩)]] w fun e w' => e = .returned (.tuple #[]) ∧ (∃ pv' fs' sl', RepAt w' b bf bh bd pv' fs' sl' (Vf.settle due σ) S) ∧ Moved S w w' := by
  have c8 := h.cells.2.2.2.2.2.2.2.2
  have HN : Hid (n = σ.pending.length) := hn
  have nc : (0 : Int) ≤ (cap : Int) := by omega
  have H0 : Hid _ := h
  clear h hn
  go_enter Tryz.func81, Tryz.ntmps81
  go_wp2_with (fail)
  go_loopw [4, 17] (fun v i wr => ∃ j r : Nat, j ≤ n ∧ r ≤ j ∧ i = .int .i64 j ∧ v = .slice (some ⟨g, 0, none⟩) r cap ∧ Hid (r = (restTo due σ.pending j).length) ∧ (∃ fs' sl', RepAt wr b bf bh bd (.slice (some ⟨g, 0, none⟩) n cap) fs' sl' (setTo due σ j) S) ∧ Moved S w wr) (fun _ i _ => n - (intOf i).toNat)
  case atStart => exact ⟨0, 0, Nat.zero_le _, Nat.le_refl _, rfl, rfl, rfl, ⟨fs, sl, by rw [setTo_zero]; exact H0.out⟩, Moved.refl _ _⟩
  case round =>
    obtain ⟨j, r, hj, hrj, rfl, rfl, HR, ⟨fs', sl', hrep⟩, hm⟩ := hrel
    clear H0 c8
    by_cases hlt : j < n
    · have hl : j < σ.pending.length := by have := HN.out; omega
      have hpl : (setTo due σ j).pending.length = n := by rw [setTo_pend due σ j (by omega)]; exact HN.out.symm
      have ST := steps_of_row (by have := hrep.pend; rw [hpl] at this; exact this) hpl.symm
      obtain ⟨s, hs⟩ : ∃ s, s = σ.pending[j] := ⟨_, rfl⟩
      have hget : (setTo due σ j).pending[j]'(by omega) = s := by rw [setTo_get due σ j hl]; exact hs.symm
      have d0 : wr.cell? ⟨g, j * 5, none⟩ = some (.int .i64 (s.kind : Int)) := by have := ST.cell j 0 (by omega) (by omega); rw [hget] at this; exact this
      have d1 : wr.cell? ⟨g, j * 5 + 1, none⟩ = some (.int .i64 (s.file : Int)) := by have := ST.cell j 1 (by omega) (by omega); rw [hget] at this; exact this
      have d2 : wr.cell? ⟨g, j * 5 + 2, none⟩ = some (.int .i64 (s.size : Int)) := by have := ST.cell j 2 (by omega) (by omega); rw [hget] at this; exact this
      have d3 : wr.cell? ⟨g, j * 5 + 3, none⟩ = some (str s.name) := by have := ST.cell j 3 (by omega) (by omega); rw [hget] at this; exact this
      have d4 : wr.cell? ⟨g, j * 5 + 4, none⟩ = some (str s.to) := by have := ST.cell j 4 (by omega) (by omega); rw [hget] at this; exact this
      have R2 := (hrep.alloc (.cells #[.int .i64 (s.kind : Int), .int .i64 (s.file : Int), .int .i64 (s.size : Int), str s.name, str s.to] 102)).alloc (.cells #[.int .i64 (s.kind : Int), .int .i64 (s.file : Int), .int .i64 (s.size : Int), str s.name, str s.to] 102)
      have M2 := (hm.alloc (.cells #[.int .i64 (s.kind : Int), .int .i64 (s.file : Int), .int .i64 (s.size : Int), str s.name, str s.to] 102)).alloc (.cells #[.int .i64 (s.kind : Int), .int .i64 (s.file : Int), .int .i64 (s.size : Int), str s.name, str s.to] 102)
      have DS : Calls Tryz.prog 82 #[sv s, .pointer (some ⟨B, 0, none⟩)] (wr.alloc (.cells #[.int .i64 (s.kind : Int), .int .i64 (s.file : Int), .int .i64 (s.size : Int), str s.name, str s.to] 102)) fun e w' => e = .returned (.bool (due s)) ∧ w' = (wr.alloc (.cells #[.int .i64 (s.kind : Int), .int .i64 (s.file : Int), .int .i64 (s.size : Int), str s.name, str s.to] 102)).alloc (.cells #[.int .i64 (s.kind : Int), .int .i64 (s.file : Int), .int .i64 (s.size : Int), str s.name, str s.to] 102) := DU.out (wr.alloc (.cells #[.int .i64 (s.kind : Int), .int .i64 (s.file : Int), .int .i64 (s.size : Int), str s.name, str s.to] 102)) s (hm.alloc _)
      cases hd : due s with
      | true =>
        rw [hd] at DS
        have KA := keep_any _ b bf bh bd _ fs' sl' _ S R2 s (by rw [hs]; exact ok.out j hl (by rw [← hs]; exact hd))
        have E1 : Hid (setTo due σ (j + 1) = Vf.keep (setTo due σ j) s) := by show _ = _; rw [hs]; exact setTo_yes hl (by rw [← hs]; exact hd)
        have E2 : Hid (r = (restTo due σ.pending (j + 1)).length) := by show _ = _; rw [(dueTo_yes hl (by rw [← hs]; exact hd)).2]; exact HR.out
        clear ok DU hrep hm ST hget hs R2 HR hpl hd HN
        go_wp2_with (first
          | (go_at_call 82; refine still2 DS ?_)
          | (go_at_call 112; refine KA.mono ?_; rintro e w3 ⟨rfl, r3, m3⟩))
        exact ⟨⟨j + 1, r, by omega, by omega, rfl, rfl, E2, by rw [E1.out]; exact r3, M2.trans m3 (fun i _ h => h)⟩, by simp [intOf]; omega⟩
      | false =>
        rw [hd] at DS
        have E1 : Hid (setTo due σ (j + 1) = { setTo due σ j with pending := (setTo due σ j).pending.take r ++ [s] ++ (setTo due σ j).pending.drop (r + 1) }) := by show _ = _; rw [hs, HR.out]; exact setTo_no hl (by rw [← hs]; exact hd)
        have E2 : Hid (r + 1 = (restTo due σ.pending (j + 1)).length) := by show _ = _; rw [(dueTo_no hl (by rw [← hs]; exact hd)).2, List.length_append, ← HR.out]; rfl
        have R3 := R2.alloc (.cells #[.int .i64 (s.kind : Int), .int .i64 (s.file : Int), .int .i64 (s.size : Int), str s.name, str s.to] 102)
        have M3 := M2.alloc (.cells #[.int .i64 (s.kind : Int), .int .i64 (s.file : Int), .int .i64 (s.size : Int), str s.name, str s.to] 102)
        obtain ⟨P, hP⟩ : ∃ P, P = (setTo due σ j).pending := ⟨_, rfl⟩
        have HP : Hid (P = (setTo due σ j).pending) := hP
        have S3 : StepsAt (((wr.alloc (.cells #[.int .i64 (s.kind : Int), .int .i64 (s.file : Int), .int .i64 (s.size : Int), str s.name, str s.to] 102)).alloc (.cells #[.int .i64 (s.kind : Int), .int .i64 (s.file : Int), .int .i64 (s.size : Int), str s.name, str s.to] 102)).alloc (.cells #[.int .i64 (s.kind : Int), .int .i64 (s.file : Int), .int .i64 (s.size : Int), str s.name, str s.to] 102)) g cap P := by rw [hP]; exact steps_of_row (by have := R3.pend; rw [hpl] at this; exact this) hpl.symm
        have pl : P.length = n := by rw [hP]; exact hpl
        have NB : (((wr.alloc (.cells #[.int .i64 (s.kind : Int), .int .i64 (s.file : Int), .int .i64 (s.size : Int), str s.name, str s.to] 102)).alloc (.cells #[.int .i64 (s.kind : Int), .int .i64 (s.file : Int), .int .i64 (s.size : Int), str s.name, str s.to] 102)).alloc (.cells #[.int .i64 (s.kind : Int), .int .i64 (s.file : Int), .int .i64 (s.size : Int), str s.name, str s.to] 102)).heap[wr.heap.size + 1 + 1]? = some (.cells (sc s).toArray 102 (0, 0)) := by
          have := new_block ((wr.alloc (.cells #[.int .i64 (s.kind : Int), .int .i64 (s.file : Int), .int .i64 (s.size : Int), str s.name, str s.to] 102)).alloc (.cells #[.int .i64 (s.kind : Int), .int .i64 (s.file : Int), .int .i64 (s.size : Int), str s.name, str s.to] 102)) (.cells #[.int .i64 (s.kind : Int), .int .i64 (s.file : Int), .int .i64 (s.size : Int), str s.name, str s.to] 102)
          rw [World.size_alloc, World.size_alloc] at this
          exact this
        have hrl : r < P.length := by omega
        have PL : Hid _ := pl
        clear ok DU hrep hm ST hget hs R2 HR hpl hd HN hP pl
        go_wp2_with (first
          | (go_at_call 82; refine still2 DS ?_)
          | (at_builtin; refine wpList_over _ rfl _ _ rfl g cap P s r hrl rfl (wr.heap.size + 1 + 1) 1 rfl S3 NB ?_; intro w4 s4 g4 z4; have Z4 : Hid _ := z4; clear z4))
        have ln : (P.take r ++ [s] ++ P.drop (r + 1)).length = n := by rw [← PL.out]; simp; omega
        refine ⟨⟨j + 1, r + 1, by omega, by omega, rfl, rfl, E2, ⟨fs', sl', ?_⟩, M3.grown g4 (fun k e _ => by cases e; exact R3.sp g rfl)⟩, by simp [intOf]; omega⟩
        rw [E1.out, ← HP.out]
        exact R3.turnP rfl (only_grown g4) _ (by rw [ln]; exact row_of_steps s4 ln.symm)
    · have e : j = n := by omega
      have hl : n = σ.pending.length := HN.out
      have hpl : (setTo due σ j).pending.length = n := by rw [setTo_pend due σ j (by omega)]; exact hl.symm
      have ST := steps_of_row (by have := hrep.pend; rw [hpl] at this; exact this) hpl.symm
      have c8 := hrep.cells.2.2.2.2.2.2.2.2
      have nc : n ≤ cap := by obtain ⟨_, _, _, q, _⟩ := ST; rw [hpl] at q; exact q
      have ntk : (setTo due σ j).pending.take r = restTo due σ.pending j := by
        show (restTo due σ.pending j ++ _).take r = _
        rw [HR.out]; exact List.take_left' rfl
      have i1 : (r : Int) ≤ (n : Int) := by omega
      have i2 : (n : Int) ≤ (cap : Int) := by omega
      have i3 : ¬ (j : Int) < (n : Int) := by omega
      by_cases hrn : cap = r
      · have q5 : ∀ ty a c, (Builtin.clear_ #[57] ty #[.slice a 0 c]).run Tryz.prog wr = .ok (.tuple #[]) wr := fun ty a c => by
          cases a <;> simp [Builtin.clear_, run_underlying Tryz.underlying57]
        have f8 := hrep.unfrozen 8
        have hr2 : r = n := by omega
        have nz : n - r = 0 := by omega
        have s5 := ST.take r
        rw [ntk] at s5
        have e2 : j = σ.pending.length := by omega
        have FIN : Hid _ := settle_end (r := r) (by rw [e2] at hrep; exact hrep) hm (World.grownBy.refl wr (some g)) (by rw [← e2]; exact HR.out) (by rw [e2] at s5; exact s5)
        clear ok DU hrep ST hpl hl HN ntk e hcap nc hj hlt hrj s5 hr2 e2
        subst hrn
        go_wp2_with (fail)
        go_end0
        exact ⟨rfl, FIN.out⟩
      · obtain ⟨w5, q5, s5, g5, z5⟩ := run_clear_steps wr g cap _ r (by omega) ST (cap - r)
        rw [hpl] at q5
        rw [ntk] at s5
        have b5 : w5.heap[b]? = some (.cells (fsCells (setTo due σ j) bf bh bd (.slice (some ⟨g, 0, none⟩) n cap)) 59 (0, 0)) := (g5.block b (World.block_lt_of_cell? wr _ c8) (by simp; exact ne_kind hrep.kb (hrep.kp rfl) (by decide))).trans hrep.blk
        have f8 := Joins.unfrozen_of_block b5 8
        have e8 : w5.cell? ⟨b, 8, none⟩ = some (.slice (some ⟨g, 0, none⟩) n cap) := Joins.cell_of_block b5 8
        have e2 : j = σ.pending.length := by omega
        have FIN : Hid _ := settle_end (r := r) (by rw [e2] at hrep; exact hrep) hm g5 (by rw [← e2]; exact HR.out) (by rw [e2] at s5; exact s5)
        clear ok DU hrep ST hpl hl HN ntk e hcap nc hj hlt hrj e2 s5 b5
        go_wp2_with (fail)
        go_end0
        exact ⟨rfl, FIN.out⟩

/-- Where nothing is pending. -/
theorem settle_nil (w : World) (b bf bh bd : Nat) (fs : Nat → Option Nat) (sl : Nat → Value) (σ : Vf.St) (S : Nat → Prop) (h : RepAt w b bf bh bd (.slice none 0 0) fs sl σ S) (hn : σ.pending = []) (v : Value) (due : Vf.Step → Bool) :
    Calls Tryz.prog 81 #[.pointer (some ⟨b, 0, none⟩), v] w fun e w' => e = .returned (.tuple #[]) ∧ (∃ pv' fs' sl', RepAt w' b bf bh bd pv' fs' sl' (Vf.settle due σ) S) ∧ Moved S w w' := by
  have c8 := h.cells.2.2.2.2.2.2.2.2
  have f8 := h.unfrozen 8
  have e1 : Vf.settle due σ = σ := by
    unfold Vf.settle
    rw [hn]
    obtain ⟨_, _, _, _, _, _, _, _, p⟩ := σ
    simp at hn
    subst hn
    rfl
  have q5 : ∀ ty wx, (Builtin.clear_ #[57] ty #[.slice none 0 0]).run Tryz.prog wx = .ok (.tuple #[]) wx := fun ty wx => by simp [Builtin.clear_, run_underlying Tryz.underlying57]
  have FIN : Hid ((∃ pv' fs' sl', RepAt (w.setCell ⟨b, 8, none⟩ (.slice none 0 0)) b bf bh bd pv' fs' sl' (Vf.settle due σ) S) ∧ Moved S w (w.setCell ⟨b, 8, none⟩ (.slice none 0 0))) := by
    refine ⟨⟨.slice none 0 0, fs, sl, ?_⟩, (Moved.refl S w).setCell (fun _ => h.sb) _⟩
    rw [e1]
    exact h.field 8 (.slice none 0 0) σ rfl rfl rfl rfl rfl (Nat.le_refl _)
  clear h hn e1
  go_enter Tryz.func81, Tryz.ntmps81
  go_wp2_with (fail)
  refine wp_loop_rounds 1 ?_
  rw [rounds_succ]
  go_wp2_with (fail)
  go_end0
  exact ⟨rfl, FIN.out⟩
end Go.Proofs.YtlhnjloimhcpfabGreatDoor
namespace Go.Proofs.YtlhnjloimhcpfabGreatDoor
open Go.RowKit Go.Maps

/-- The box of a step. -/
abbrev bx (s : Vf.Step) : Obj := .cells #[.int .i64 (s.kind : Int), .int .i64 (s.file : Int), .int .i64 (s.size : Int), str s.name, str s.to] 102

theorem do_off (w : World) (b bf bh bd : Nat) (pv : Value) (fs : Nat → Option Nat) (sl : Nat → Value) (σ : Vf.St) (S : Nat → Prop) (h : RepAt w b bf bh bd pv fs sl σ S) (s : Vf.Step) (v : Value) (h0 : σ.fuse = 0) :
    Calls Tryz.prog 51 #[.pointer (some ⟨b, 0, none⟩), sv s, v] w fun e w' => e = .returned (.int .i64 7) ∧ Rep w' b { σ with on := false } (grow S w w') ∧ Moved S w w' := by
  have h1 := h.alloc (bx s)
  have c3 := h1.cells.2.2.2.1
  rw [h0] at c3
  have c2 := h1.cells.2.2.1
  have f2 := h1.unfrozen 2
  have FIN : Hid (RepAt ((w.alloc (bx s)).setCell ⟨b, 2, none⟩ (.bool false)) b bf bh bd pv fs sl { σ with on := false } S) := h1.field 2 (.bool false) _ rfl rfl rfl rfl rfl (Nat.le_refl _)
  have MV : Hid (Moved S w ((w.alloc (bx s)).setCell ⟨b, 2, none⟩ (.bool false))) := ((Moved.refl S w).alloc _).setCell (fun _ => h.sb) _
  clear h h0 h1
  go_enter Tryz.func51, Tryz.ntmps51
  go_wp2_with (fail)
  go_ret
  exact ⟨rfl, Rep.grow1 ⟨bf, bh, bd, pv, fs, sl, FIN.out⟩, MV.out⟩

/-- What a settling asks of the steps. -/
def SettleOk (due : Vf.Step → Bool) (σ : Vf.St) : Prop := ∀ i (hi : i < σ.pending.length), due σ.pending[i] = true → KeepOk (setTo due σ i) σ.pending[i]

theorem settle2_any (w : World) (b bf bh bd : Nat) (pv : Value) (fs : Nat → Option Nat) (sl : Nat → Value) (σ : Vf.St) (S : Nat → Prop) (h : RepAt w b bf bh bd pv fs sl σ S) (hp : σ.pending.length ≤ 1000000000) (ok : SettleOk (fun p => !decide (p.kind = 0)) σ) :
    Calls Tryz.prog 81 #[.pointer (some ⟨b, 0, none⟩), .func (.func 83) #[] #[]] w fun e w' => e = .returned (.tuple #[]) ∧ (∃ pv' fs' sl', RepAt w' b bf bh bd pv' fs' sl' (Vf.settle (fun p => !decide (p.kind = 0)) σ) S) ∧ Moved S w w' := by
  rcases h.pend.2 with ⟨rfl, h0⟩ | ⟨g, cap, cur, rfl, _⟩
  · exact settle_nil w b bf bh bd fs sl σ S h (List.eq_nil_of_length_eq_zero h0) _ _
  · exact settle2_some w b bf bh bd g cap _ fs sl σ S h rfl hp _ (fun wx s _ => due2_any wx s) ok
theorem settle1_any (w : World) (b bf bh bd : Nat) (pv : Value) (fs : Nat → Option Nat) (sl : Nat → Value) (σ : Vf.St) (S : Nat → Prop) (h : RepAt w b bf bh bd pv fs sl σ S) (hp : σ.pending.length ≤ 1000000000) (B F : Nat) (hB : w.cell? ⟨B, 1, none⟩ = some (.int .i64 (F : Int))) (hS : ¬ S B) (ok : SettleOk (fun p => decide (p.kind = 0) && decide (p.file = F)) σ) :
    Calls Tryz.prog 81 #[.pointer (some ⟨b, 0, none⟩), .func (.func 82) #[] #[.pointer (some ⟨B, 0, none⟩)]] w fun e w' => e = .returned (.tuple #[]) ∧ (∃ pv' fs' sl', RepAt w' b bf bh bd pv' fs' sl' (Vf.settle (fun p => decide (p.kind = 0) && decide (p.file = F)) σ) S) ∧ Moved S w w' := by
  rcases h.pend.2 with ⟨rfl, h0⟩ | ⟨g, cap, cur, rfl, _⟩
  · exact settle_nil w b bf bh bd fs sl σ S h (List.eq_nil_of_length_eq_zero h0) _ _
  · refine settle1_some B w b bf bh bd g cap _ fs sl σ S h rfl hp _ (fun wx s hm => due1_any wx s B F ?_) ok
    rw [← hB]
    exact World.cell?_of_block (w := w) (hm.block B (World.block_lt_of_cell? w ⟨B, 1, none⟩ hB) hS)

theorem tick_one (σ : Vf.St) (h : σ.fuse = -1) : Vf.tick σ = { σ with steps := σ.steps + 1 } := by
  obtain ⟨r, u, o, f, st, fi, he, du, pe⟩ := σ
  simp at h
  subst h
  rfl
theorem tick_two (σ : Vf.St) (h : σ.fuse ≠ -1) : Vf.tick σ = { σ with fuse := σ.fuse - 1, steps := σ.steps + 1 } := by unfold Vf.tick; rw [if_neg h]

/-- The world behind a tick. -/
def tickW (w : World) (b : Nat) (σ : Vf.St) : World := if σ.fuse = -1 then w.setCell ⟨b, 4, none⟩ (.int .i64 ((σ.steps : Int) + 1)) else (w.setCell ⟨b, 3, none⟩ (.int .i64 (σ.fuse - 1))).setCell ⟨b, 4, none⟩ (.int .i64 ((σ.steps : Int) + 1))

theorem RepAt.tick {w : World} {b bf bh bd : Nat} {pv : Value} {fs : Nat → Option Nat} {sl : Nat → Value} {σ : Vf.St} {S : Nat → Prop} (h : RepAt w b bf bh bd pv fs sl σ S) : RepAt (tickW w b σ) b bf bh bd pv fs sl (Vf.tick σ) S := by
  unfold tickW
  split
  · rename_i e
    rw [tick_one σ e]
    exact h.field 4 _ _ rfl rfl rfl rfl rfl (Nat.le_succ _)
  · rename_i e
    rw [tick_two σ e]
    exact (h.field 3 _ { σ with fuse := σ.fuse - 1 } rfl rfl rfl rfl rfl (Nat.le_refl _)).field 4 _ _ rfl rfl rfl rfl rfl (Nat.le_succ _)
theorem tick_moved {w : World} {b bf bh bd : Nat} {pv : Value} {fs : Nat → Option Nat} {sl : Nat → Value} {σ : Vf.St} {S : Nat → Prop} (h : RepAt w b bf bh bd pv fs sl σ S) : Moved S w (tickW w b σ) := by
  unfold tickW
  split
  · exact (Moved.refl S w).setCell (fun _ => h.sb) _
  · exact ((Moved.refl S w).setCell (fun _ => h.sb) _).setCell (fun _ => h.sb) _

structure DoOk (σ : Vf.St) : Prop where
  fuse : -1 ≤ σ.fuse ∧ σ.fuse ≤ 9223372036854775807
  steps : σ.steps ≤ 100000000

set_option maxHeartbeats 1000000 in
theorem do_names (w : World) (b bf bh bd : Nat) (pv : Value) (fs : Nat → Option Nat) (sl : Nat → Value) (σ : Vf.St) (S : Nat → Prop) (h : RepAt w b bf bh bd pv fs sl σ S) (s : Vf.Step) (hk : s.kind = 5) (v : Value) (h0 : σ.fuse ≠ 0) (ok : DoOk σ) (hp : σ.pending.length ≤ 1000000000) (ko : SettleOk (fun p => !decide (p.kind = 0)) (Vf.tick σ)) :
    Calls Tryz.prog 51 #[.pointer (some ⟨b, 0, none⟩), sv s, v] w fun e w' => e = .returned (.int .i64 0) ∧ Rep w' b (Vf.settle (fun p => !decide (p.kind = 0)) (Vf.tick σ)) (grow S w w') ∧ Moved S w w' := by
  have h1 := h.alloc (bx s)
  have c3 := h1.cells.2.2.2.1
  have c4 := h1.cells.2.2.2.2.1
  have f3 := h1.unfrozen 3
  have f4 := h1.unfrozen 4
  have q0 : (σ.fuse == 0) = false := by simpa using h0
  have ST := settle2_any _ b bf bh bd pv fs sl (Vf.tick σ) S h1.tick (by show σ.pending.length ≤ _; exact hp) ko
  have M0 := ((Moved.refl S w).alloc (bx s)).trans (tick_moved h1) (fun i _ hi => hi)
  obtain ⟨⟨fl, fu⟩, hst⟩ := ok
  unfold tickW at ST M0
  obtain ⟨K, hK⟩ : ∃ K : Int, K = (s.kind : Int) := ⟨_, rfl⟩
  have k0 : (K == 0) = false := by rw [hK, hk]; rfl
  have k1 : (K == 1) = false := by rw [hK, hk]; rfl
  have k2 : (K == 2) = false := by rw [hK, hk]; rfl
  have k3 : (K == 3) = false := by rw [hK, hk]; rfl
  have k4 : (K == 4) = false := by rw [hK, hk]; rfl
  have k5 : (K == 5) = true := by rw [hK, hk]; rfl
  unfold bx at ST M0 c3 c4 f3 f4
  unfold sv
  rw [← hK] at ST M0 c3 c4 f3 f4 ⊢
  clear h h1 ko hp h0 hk hK
  obtain ⟨fz, hfz⟩ : ∃ z, z = σ.fuse := ⟨_, rfl⟩
  obtain ⟨sz, hsz⟩ : ∃ z, z = σ.steps := ⟨_, rfl⟩
  have T : Hid (Vf.tick σ = Vf.tick σ) := rfl
  rw [← hfz] at ST M0 c3 q0 fl fu
  rw [← hsz] at ST M0 c4 hst
  clear hfz hsz
  by_cases e : fz = -1
  · have q1 : (fz != -1) = false := by simp [e]
    rw [if_pos e] at ST M0
    have M1 : Hid _ := M0
    clear e M0
    go_enter Tryz.func51, Tryz.ntmps51
    go_wp2_with (go_at_call 81; refine ST.mono ?_; rintro e w3 ⟨rfl, ⟨pv', fs', sl', r3⟩, m3⟩)
    go_ret
    exact ⟨rfl, Rep.grow1 ⟨bf, bh, bd, pv', fs', sl', r3⟩, M1.out.trans m3 (fun i _ hi => hi)⟩
  · have q1 : (fz != -1) = true := by simp [e]
    rw [if_neg e] at ST M0
    have M1 : Hid _ := M0
    clear M0
    go_enter Tryz.func51, Tryz.ntmps51
    go_wp2_with (go_at_call 81; refine ST.mono ?_; rintro e w3 ⟨rfl, ⟨pv', fs', sl', r3⟩, m3⟩)
    go_ret
    exact ⟨rfl, Rep.grow1 ⟨bf, bh, bd, pv', fs', sl', r3⟩, M1.out.trans m3 (fun i _ hi => hi)⟩
end Go.Proofs.YtlhnjloimhcpfabGreatDoor
namespace Go.Proofs.YtlhnjloimhcpfabGreatDoor
open Go.RowKit Go.Maps

set_option maxHeartbeats 1000000 in
theorem do_file (w : World) (b bf bh bd : Nat) (pv : Value) (fs : Nat → Option Nat) (sl : Nat → Value) (σ : Vf.St) (S : Nat → Prop) (h : RepAt w b bf bh bd pv fs sl σ S) (s : Vf.Step) (hk : s.kind = 4) (v : Value) (h0 : σ.fuse ≠ 0) (ok : DoOk σ) (hp : σ.pending.length ≤ 1000000000) (ko : SettleOk (fun p => decide (p.kind = 0) && decide (p.file = s.file)) (Vf.tick σ)) :
    Calls Tryz.prog 51 #[.pointer (some ⟨b, 0, none⟩), sv s, v] w fun e w' => e = .returned (.int .i64 0) ∧ Rep w' b (Vf.settle (fun p => decide (p.kind = 0) && decide (p.file = s.file)) (Vf.tick σ)) (grow S w w') ∧ Moved S w w' := by
  have h1 := h.alloc (bx s)
  have c3 := h1.cells.2.2.2.1
  have c4 := h1.cells.2.2.2.2.1
  have f3 := h1.unfrozen 3
  have f4 := h1.unfrozen 4
  have q0 : (σ.fuse == 0) = false := by simpa using h0
  have hnS : ¬ S w.heap.size := fun hi => by have := h.low _ hi; omega
  have hcB : (tickW (w.alloc (bx s)) b σ).cell? ⟨w.heap.size, 1, none⟩ = some (.int .i64 (s.file : Int)) := by
    have e0 : (w.alloc (bx s)).cell? ⟨w.heap.size, 1, none⟩ = some (.int .i64 (s.file : Int)) := Joins.cell_of_block (new_block w (bx s)) 1
    rw [← e0]
    exact World.cell?_of_block (w := w.alloc (bx s)) ((tick_moved h1).block w.heap.size (by simp) hnS)
  have ST := settle1_any _ b bf bh bd pv fs sl (Vf.tick σ) S h1.tick (by show σ.pending.length ≤ _; exact hp) w.heap.size s.file hcB hnS ko
  have M0 := ((Moved.refl S w).alloc (bx s)).trans (tick_moved h1) (fun i _ hi => hi)
  obtain ⟨⟨fl, fu⟩, hst⟩ := ok
  unfold tickW at ST M0
  obtain ⟨K, hK⟩ : ∃ K : Int, K = (s.kind : Int) := ⟨_, rfl⟩
  have k0 : (K == 0) = false := by rw [hK, hk]; rfl
  have k1 : (K == 1) = false := by rw [hK, hk]; rfl
  have k2 : (K == 2) = false := by rw [hK, hk]; rfl
  have k3 : (K == 3) = false := by rw [hK, hk]; rfl
  have k4 : (K == 4) = true := by rw [hK, hk]; rfl
  unfold bx at ST M0 c3 c4 f3 f4
  unfold sv
  rw [← hK] at ST M0 c3 c4 f3 f4 ⊢
  clear h h1 ko hp h0 hk hK hcB hnS
  obtain ⟨fz, hfz⟩ : ∃ z, z = σ.fuse := ⟨_, rfl⟩
  obtain ⟨sz, hsz⟩ : ∃ z, z = σ.steps := ⟨_, rfl⟩
  have T : Hid (Vf.tick σ = Vf.tick σ) := rfl
  rw [← hfz] at ST M0 c3 q0 fl fu
  rw [← hsz] at ST M0 c4 hst
  clear hfz hsz
  by_cases e : fz = -1
  · have q1 : (fz != -1) = false := by simp [e]
    rw [if_pos e] at ST M0
    have M1 : Hid _ := M0
    clear e M0
    go_enter Tryz.func51, Tryz.ntmps51
    go_wp2_with (go_at_call 81; refine ST.mono ?_; rintro e w3 ⟨rfl, ⟨pv', fs', sl', r3⟩, m3⟩)
    go_ret
    exact ⟨rfl, Rep.grow1 ⟨bf, bh, bd, pv', fs', sl', r3⟩, M1.out.trans m3 (fun i _ hi => hi)⟩
  · have q1 : (fz != -1) = true := by simp [e]
    rw [if_neg e] at ST M0
    have M1 : Hid _ := M0
    clear M0
    go_enter Tryz.func51, Tryz.ntmps51
    go_wp2_with (go_at_call 81; refine ST.mono ?_; rintro e w3 ⟨rfl, ⟨pv', fs', sl', r3⟩, m3⟩)
    go_ret
    exact ⟨rfl, Rep.grow1 ⟨bf, bh, bd, pv', fs', sl', r3⟩, M1.out.trans m3 (fun i _ hi => hi)⟩
end Go.Proofs.YtlhnjloimhcpfabGreatDoor
namespace Go.Proofs.YtlhnjloimhcpfabGreatDoor
open Go.RowKit Go.Maps

theorem step_pend (w : World) {ops : Array Oper} {o : Oper} {a : Act} {K : Act → World → Prop} {Q : Exit → Act → World → Prop} {E : Prop} (hgd : o.guard = none) (x y : Operand)
    (hop : o.op = .call { callee := .builtin .append, args := #[x, y], argTypes := #[57, 57] })
    (v : Value) (l : List Vf.Step) (s : Vf.Step) (hx : a.eval x = v) (hown : w.ownsRow 0 102 5 v l.length (scs l)) (B c : Nat) (hy : a.eval y = .slice (some ⟨B, 0, none⟩) 1 c) (hB : w.heap[B]? = some (.cells (sc s).toArray 102 (0, 0))) (hroom : l.length ≤ 1000000000)
    (h : ∀ g cap n w', Hid (n = l.length + 1) → w'.ownsRow 0 102 5 (.slice (some ⟨g, 0, none⟩) n cap) n (scs (l ++ [s])) → w.grownBy w' v.ownBlock → Hid (v.ownBlock = some g ∨ g = w.heap.size) → g < w'.heap.size → K (a.put o.dst (.slice (some ⟨g, 0, none⟩) n cap)) w') :
    if Region.wanted o (yielded ops a.tmps) = true then Oper.wp Tryz.prog o a w K Q else E := by
  obtain ⟨i0, hi, hz0, hz1, hz2⟩ := info_parts infoS
  refine step_append_lies w hgd x y 57 hop 0 102 i0 _ 5 56 Tryz.underlying57 hi hz0 hz1 hz2 rfl (by decide) v l.length (scs l) hx hown ⟨B, 0, none⟩ 1 c (scs [s]) hy rfl (step_cells hB) (scs_one _) (by decide) (by unfold maxLen; omega) (by omega) (Nat.zero_le _) _ rfl ?_
  intro g cap w' h1 h2 h3 h4
  exact h g cap (l.length + 1) w' rfl (by rw [scs_append]; exact h1) h2 h3 h4

/-- A turn of the file system's own block and of the pending steps, wherever they lie. -/
theorem RepAt.turnQ {w : World} {b bf bh bd : Nat} {pv : Value} {fs : Nat → Option Nat} {sl : Nat → Value} {σ : Vf.St} {S : Nat → Prop} (h : RepAt w b bf bh bd pv fs sl σ S) {w' : World} (_ : w.heap.size ≤ w'.heap.size) (ho : ∀ i, i < w.heap.size → i ≠ b → some i ≠ pv.ownBlock → w'.heap[i]? = w.heap[i]?) (σ' : Vf.St) (pv' : Value)
    (hb : w'.heap[b]? = some (.cells (fsCells σ' bf bh bd pv') 59 (0, 0))) (e1 : σ'.files = σ.files) (e2 : σ'.held = σ.held) (e3 : σ'.durable = σ.durable) (e5 : σ.steps ≤ σ'.steps)
    (hp : w'.ownsRow 0 102 5 pv' σ'.pending.length (scs σ'.pending)) (T : Nat → Prop) (hT : ∀ i, S i → T i) (hl : ∀ i, T i → i < w'.heap.size) (hs : ∀ g, pv'.ownBlock = some g → T g) : RepAt w' b bf bh bd pv' fs sl σ' T := by
  have hne : ∀ i x, kindAt w i = x → x ≠ some (some 102) → some i ≠ pv.ownBlock := fun i x hi hx e => hx (by rw [← hi]; exact h.kp e.symm)
  exact ⟨hb, (h.files.same (ho _ h.files.lt (ne_kind h.files.kind h.kb (by simp)) (hne _ _ h.files.kind (by simp)))).mono e5, by rw [e2]; exact h.held.same (ho _ h.held.lt (ne_kind h.held.kind h.kb (by simp)) (hne _ _ h.held.kind (by simp))), by rw [e3]; exact h.dur.same (ho _ h.dur.lt (ne_kind h.dur.kind h.kb (by simp)) (hne _ _ h.dur.kind (by simp))), hp,
    fun n => by rw [e1]; exact h.dom n,
    fun n r x hn hx => by
      rw [e1] at hx
      refine ⟨(ho r (h.low _ (h.sg n r hn)) (ne_kind (h.kg hn) h.kb (by decide)) (hne _ _ (h.kg hn) (by decide))).trans (h.file n r x hn hx).1, ownsRow_same (h.file n r x hn hx).2 fun q hq => ?_⟩
      have hn0 : fs n ≠ none := by rw [hn]; simp
      exact ho q (h.low _ (h.sr n q hn0 hq)) (ne_kind (h.kr hn0 hq) h.kb (by decide)) (hne _ _ (h.kr hn0 hq) (by decide)),
    h.inj, h.rows, h.fh, h.fd, h.hd, hT _ h.sb, hT _ h.sf, hT _ h.sh, hT _ h.sd, hs, fun n g hn => hT _ (h.sg n g hn), fun n g h1 h2 => hT _ (h.sr n g h1 h2), hl⟩

/-- The end of a raw step that stays pending. -/
theorem put_end {w W w4 : World} {b bf bh bd g cap n : Nat} {pv : Value} {fs : Nat → Option Nat} {sl : Nat → Value} {σ : Vf.St} {S : Nat → Prop} {s : Vf.Step} {o : Obj} (h : RepAt W b bf bh bd pv fs sl σ (grow S w W)) (hm : Moved S w W) (hw : w.heap.size ≤ W.heap.size) (g4 : (W.alloc o).grownBy w4 pv.ownBlock) (hn : n = σ.pending.length + 1)
    (r4 : w4.ownsRow 0 102 5 (.slice (some ⟨g, 0, none⟩) n cap) n (scs (σ.pending ++ [s]))) (hg : pv.ownBlock = some g ∨ g = (W.alloc o).heap.size) (hl : g < w4.heap.size) :
    Rep (w4.setCell ⟨b, 8, none⟩ (.slice (some ⟨g, 0, none⟩) n cap)) b (Vf.pend σ s) (grow S w (w4.setCell ⟨b, 8, none⟩ (.slice (some ⟨g, 0, none⟩) n cap))) ∧ Moved S w (w4.setCell ⟨b, 8, none⟩ (.slice (some ⟨g, 0, none⟩) n cap)) := by
  have nb : some b ≠ pv.ownBlock := fun e => ne_kind h.kb (h.kp e.symm) (by decide) rfl
  have hz4 := g4.size
  rw [World.size_alloc] at hz4 hg
  have b5 : w4.heap[b]? = some (.cells (fsCells σ bf bh bd pv) 59 (0, 0)) := ((g4.block b (by have := h.low _ h.sb; simp; omega) nb).trans (Below.heap_alloc W o b (h.low _ h.sb))).trans h.blk
  have hzs : (w4.setCell ⟨b, 8, none⟩ (.slice (some ⟨g, 0, none⟩) n cap)).heap.size = w4.heap.size := by simp [World.setCell]
  have hz : W.heap.size ≤ (w4.setCell ⟨b, 8, none⟩ (.slice (some ⟨g, 0, none⟩) n cap)).heap.size := by rw [hzs]; omega
  refine ⟨⟨bf, bh, bd, .slice (some ⟨g, 0, none⟩) n cap, fs, sl, ?_⟩, ?_⟩
  · refine h.turnQ hz (fun i hi h1 h2 => ?_) (Vf.pend σ s) _ ?_ rfl rfl rfl (Nat.le_refl _) ?_ _ (fun i hi => ?_) (fun i hi => ?_) (fun q hq => ?_)
    · exact ((Below.heap_setCell w4 ⟨b, 8, none⟩ _ i h1).trans (g4.block i (by simp; omega) h2)).trans (Below.heap_alloc W o i hi)
    · rw [Joins.block_setCell b5]; rfl
    · show World.ownsRow _ 0 _ 5 _ (σ.pending ++ [s]).length (scs (σ.pending ++ [s]))
      rw [show (σ.pending ++ [s]).length = n from by rw [hn]; simp]
      refine ownsRow_same r4 fun q hq => Below.heap_setCell w4 ⟨b, 8, none⟩ _ q ?_
      have : q = g := by simp [Value.ownBlock] at hq; exact hq.symm
      subst this
      intro e
      have e' : q = b := e
      subst e'
      rcases hg with hg | hg
      · exact nb hg.symm
      · have := h.low _ h.sb; omega
    · rcases hi with hi | hi
      · exact .inl hi
      · exact .inr ⟨hi.1, by omega⟩
    · rcases hi with hi | hi
      · exact Nat.lt_of_lt_of_le (h.low _ (.inl hi)) hz
      · exact hi.2
    · have : q = g := by simp [Value.ownBlock] at hq; exact hq.symm
      subst this
      rcases hg with hg | hg
      · rcases h.sp q hg with hs | hs
        · exact .inl hs
        · exact .inr ⟨hs.1, by omega⟩
      · exact .inr ⟨by omega, by rw [hzs]; exact hl⟩
  · refine (((hm.alloc o).grown g4 ?_).setCell (fun hlt => ?_) _)
    · intro k e hk
      rcases h.sp k e with hs | hs
      · exact hs
      · omega
    · rcases h.sb with hs | hs
      · exact hs
      · have : b < w.heap.size := hlt
        omega
end Go.Proofs.YtlhnjloimhcpfabGreatDoor
