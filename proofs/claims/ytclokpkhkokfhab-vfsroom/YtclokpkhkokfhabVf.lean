/-
  A file system as the program keeps it, in plain words: files by number, held and durable names, the steps that are pending; what each call does to it and answers.
-/
import Derived.Below
namespace Go.Proofs.Ytclokpkhkokfhab
namespace Vf

abbrev Bs := List UInt8
abbrev Nm := List (Bs × Nat)

structure File where
  bytes : Bs
  synced : Nat

structure Step where
  kind : Nat
  file : Nat
  size : Nat
  name : Bs
  to : Bs

structure St where
  room : Nat
  used : Int
  on : Bool
  fuse : Int
  steps : Nat
  files : Nat → Option File
  held : Nm
  durable : Nm
  pending : List Step

/-- The number that a name has. -/
def look : Nm → Bs → Option Nat
  | [], _ => none
  | (a, n) :: r, k => if a = k then some n else look r k
def del (m : Nm) (k : Bs) : Nm := m.filter fun p => !decide (p.1 = k)
def put (m : Nm) (k : Bs) (n : Nat) : Nm := (k, n) :: del m k
/-- The number, 0 where there is none. -/
def num (m : Nm) (k : Bs) : Nat := (look m k).getD 0

def fine (k : Bs) : Bool := k.all (fun c => decide (33 ≤ c.toNat) && decide (c.toNat ≤ 126)) && decide (0 < k.length) && decide (k.length ≤ 32)

/-- What a naming, a move, an unnaming does to names. -/
def ren (s : Step) (m : Nm) : Nm :=
  if s.kind = 1 then put m s.name s.file
  else if s.kind = 2 then put (del m s.name) s.to (num m s.name)
  else if s.kind = 3 then del m s.name
  else m
/-- Which file has no name any more. -/
def lost (s : Step) (m : Nm) : Nat :=
  if s.kind = 2 then num (del m s.name) s.to
  else if s.kind = 3 then num m s.name
  else 0

def setF (f : Nat → Option File) (n : Nat) (x : Option File) : Nat → Option File := fun k => if k = n then x else f k

/-- A step becomes durable. -/
def keep (σ : St) (s : Step) : St :=
  if s.kind = 0 then
    match σ.files s.file with
    | none => σ
    | some x => { σ with files := setF σ.files s.file (some { x with synced := x.synced + s.size }) }
  else if s.kind ≤ 3 then { σ with durable := ren s σ.durable, files := setF σ.files (lost s σ.durable) none }
  else σ

def keepAll (σ : St) (l : List Step) : St := l.foldl keep σ

/-- The steps that are due become durable. -/
def settle (due : Step → Bool) (σ : St) : St := { keepAll σ (σ.pending.filter due) with pending := σ.pending.filter fun s => !due s }

def tick (σ : St) : St := { σ with fuse := if σ.fuse = -1 then -1 else σ.fuse - 1, steps := σ.steps + 1 }

def pend (σ : St) (s : Step) : St := { σ with pending := σ.pending ++ [s] }

def write (σ : St) (n : Nat) (b : Bs) : St :=
  match σ.files n with
  | none => σ
  | some x => { σ with files := setF σ.files n (some { x with bytes := x.bytes ++ b }), used := σ.used + b.length }

/-- A raw step, behind the fuse. -/
def act (σ : St) (s : Step) (b : Bs) : St :=
  if s.kind = 0 then pend (write σ s.file b) s
  else if s.kind = 1 then pend { σ with files := setF σ.files σ.steps (some ⟨[], 0⟩), held := put σ.held s.name σ.steps } { s with file := σ.steps }
  else if s.kind ≤ 3 then
    pend { σ with held := ren s σ.held, used := match σ.files (lost s σ.held) with | none => σ.used | some x => σ.used - x.bytes.length } s
  else if s.kind = 4 then settle (fun p => decide (p.kind = 0) && decide (p.file = s.file)) σ
  else settle (fun p => !decide (p.kind = 0)) σ

def doSt (σ : St) (s : Step) (b : Bs) : St := if σ.fuse = 0 then { σ with on := false } else act (tick σ) s b
def doE (σ : St) : Int := if σ.fuse = 0 then 7 else 0

/-- Why a call is refused, of the names that it bears. -/
def refuse (σ : St) (l : List Bs) : Int := if σ.on then if l.all fine then 0 else 2 else 7
def findE (σ : St) (k : Bs) : Int := if refuse σ [k] = 0 then if (look σ.held k).isSome then 0 else 4 else refuse σ [k]

def newE (room : Int) : Int := if room < 0 ∨ room > 1073741824 then 2 else 0
def new (room : Nat) : St := ⟨room, 0, true, -1, 0, fun _ => none, [], [], []⟩

def createE (σ : St) (k : Bs) : Int := if findE σ k = 0 then 9 else if findE σ k = 4 then doE σ else findE σ k
def create (σ : St) (k : Bs) : St := if findE σ k = 4 then doSt σ ⟨1, 0, 0, k, []⟩ [] else σ

def left (σ : St) : Int := if σ.on then (σ.room : Int) - σ.used else 0

/-- Writes, piece by piece. -/
def pour (σ : St) (n : Nat) : List Bs → St
  | [] => σ
  | p :: r => if σ.fuse = 0 then { σ with on := false } else pour (doSt σ ⟨0, n, p.length, [], []⟩ p) n r
def pourE (σ : St) (n : Nat) : List Bs → Int
  | [] => 0
  | p :: r => if σ.fuse = 0 then 7 else pourE (doSt σ ⟨0, n, p.length, [], []⟩ p) n r

/-- A list cut into pieces of 64. -/
def cut (b : Bs) : Nat → List Bs
  | 0 => []
  | k + 1 => b.take 64 :: cut (b.drop 64) k
def pieces (b : Bs) : List Bs := cut b ((b.length + 63) / 64)

def appendE (σ : St) (k : Bs) (b : Bs) : Int := if findE σ k = 0 then if (b.length : Int) > left σ then 8 else pourE σ (num σ.held k) (pieces b) else findE σ k
def append (σ : St) (k : Bs) (b : Bs) : St := if findE σ k = 0 then if (b.length : Int) > left σ then σ else pour σ (num σ.held k) (pieces b) else σ

def renameE (σ : St) (k t : Bs) : Int := if refuse σ [k, t] = 0 then if findE σ k = 0 then doE σ else findE σ k else refuse σ [k, t]
def rename (σ : St) (k t : Bs) : St := if renameE σ k t = 0 ∨ (refuse σ [k, t] = 0 ∧ findE σ k = 0) then doSt σ ⟨2, 0, 0, k, t⟩ [] else σ

def removeE (σ : St) (k : Bs) : Int := if findE σ k = 0 then doE σ else findE σ k
def remove (σ : St) (k : Bs) : St := if findE σ k = 0 then doSt σ ⟨3, 0, 0, k, []⟩ [] else σ

def syncE (σ : St) (k : Bs) : Int := if findE σ k = 0 then doE σ else findE σ k
def sync (σ : St) (k : Bs) : St := if findE σ k = 0 then doSt σ ⟨4, num σ.held k, 0, [], []⟩ [] else σ

def syncNamesE (σ : St) : Int := if refuse σ [] = 0 then doE σ else refuse σ []
def syncNames (σ : St) : St := if refuse σ [] = 0 then doSt σ ⟨5, 0, 0, [], []⟩ [] else σ

def bytesOf (σ : St) (n : Nat) : Bs := match σ.files n with | none => [] | some x => x.bytes
def read (σ : St) (k : Bs) : Bs := if findE σ k = 0 then bytesOf σ (num σ.held k) else []

def fuseE (σ : St) (n : Int) : Int := if refuse σ [] = 0 then if n < 0 then 2 else 0 else refuse σ []
def setFuse (σ : St) (n : Int) : St := if fuseE σ n = 0 then { σ with fuse := n } else σ
def safe (σ : St) : St := if refuse σ [] = 0 then { σ with fuse := -1 } else σ

/-- The steps that a crash keeps. -/
def kept (l : List Step) (k t : Nat) : List Step :=
  l.take k ++ match l.drop k with
    | [] => []
    | s :: _ => if s.kind = 0 then [{ s with size := min t (s.size - 1) }] else []

def sum (f : Nat → Option File) (m : Nm) : Nat := (m.map fun p => match f p.2 with | none => 0 | some x => x.synced).sum

/-- Nothing is left but what is durable. -/
def forget (σ : St) : St :=
  { σ with held := σ.durable, used := sum σ.files σ.durable, files := fun n => if n ∈ σ.durable.map (·.2) then (σ.files n).map (fun x => { x with bytes := x.bytes.take x.synced }) else none }

def crashE (k t : Int) : Int := if k < 0 ∨ t < 0 then 2 else 0
def crash (σ : St) (k t : Nat) : St := { forget (keepAll σ (kept σ.pending k t)) with pending := [], on := true, fuse := -1 }

def durableOf (σ : St) (k : Bs) : Option Bs := match σ.files (num σ.durable k) with | none => none | some x => some (x.bytes.take x.synced)

def alterE (σ : St) (k : Bs) (at_ : Int) : Int :=
  if fine k then match σ.files (num σ.durable k) with
    | none => 4
    | some x => if at_ < 0 ∨ at_ ≥ x.synced then 2 else 0
  else 2

def alter (σ : St) (k : Bs) (at_ : Int) (bits : UInt8) : St :=
  if alterE σ k at_ = 0 then match σ.files (num σ.durable k) with
    | none => σ
    | some x => { σ with files := setF σ.files (num σ.durable k) (some { x with bytes := x.bytes.set at_.toNat ((x.bytes[at_.toNat]?.getD 0) ^^^ bits) }) }
  else σ
end Vf
end Go.Proofs.Ytclokpkhkokfhab
