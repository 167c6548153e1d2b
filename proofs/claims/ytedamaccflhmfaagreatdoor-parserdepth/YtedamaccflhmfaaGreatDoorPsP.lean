/-
  Plain: what the parser makes of tokens: expressions, statements, or the first fault; and how it tells them.
-/
import Derived.Test.YtedamaccflhmfaaGreatDoorXA
import Derived.Test.YtedamaccflhmfaaGreatDoorXB
import Derived.Test.YtedamaccflhmfaaGreatDoorUBase
namespace Go.Proofs.YtedamaccflhmfaaGreatDoor.Ps
open Lx (Tk)

/-- An expression. -/
inductive Ex where
  | mk (op : Int) (v : Val) (tb nm : List UInt8) (slot kd : Int) (args : List Ex)
/-- What reading answers: what is read, and the tokens that are left; or the fault and the tokens from its place on. -/
inductive R (α : Type) where
  | ok (a : α) (ts : List Tk)
  | no (e : Int) (ts : List Tk)
def R.bind {α β : Type} (r : R α) (f : α → List Tk → R β) : R β := match r with
  | .ok a ts => f a ts
  | .no e ts => .no e ts
def R.map {α β : Type} (r : R α) (f : α → β) : R β := r.bind fun a ts => .ok (f a) ts

def zeroV : Val := ⟨0, 0, ⟨#[]⟩⟩
def lit (v : Val) : Ex := .mk 1 v [] [] 0 0 []
def one (op : Int) (x : Ex) : Ex := .mk op zeroV [] [] 0 0 [x]
def two (op : Int) (a b : Ex) : Ex := .mk op zeroV [] [] 0 0 [a, b]
def col (tb nm : List UInt8) : Ex := .mk 2 zeroV tb nm 0 0 []
def none' : Ex := .mk 0 zeroV [] [] 0 0 []

/-- The next token is that word or sign. -/
def has (s : List UInt8) : List Tk → Bool
  | [] => false
  | x :: _ => x.t == s && (x.k == 1 || x.k == 4)
def want (s : List UInt8) (ts : List Tk) : R Unit := if has s ts then .ok () ts.tail else .no 240 ts
def wants : List (List UInt8) → List Tk → R Unit
  | [], ts => .ok () ts
  | s :: r, ts => (want s ts).bind fun _ ts => wants r ts
def name : List Tk → R (List UInt8)
  | [] => .no 240 []
  | x :: r => if x.k == 1 && !resL.contains x.t then .ok x.t r else .no 240 (x :: r)
def number (most : Nat) : List Tk → R Nat
  | [] => .no 240 []
  | x :: r => if x.k == 2 then (if x.n ≤ most then .ok x.n r else .no 233 (x :: r)) else .no 240 (x :: r)
/-- One more may be read behind so many. -/
def room (n most : Nat) (ts : List Tk) : Bool := decide (n < most) || ts.isEmpty
/-- More of a list behind what is there, each behind a comma; f: at least as many as there are tokens. -/
def more {α : Type} (most : Nat) (r1 : List Tk → R α) : Nat → List α → List Tk → R (List α)
  | 0, l, ts => .ok l ts
  | f + 1, l, ts => if has [44] ts then (if room l.length most ts.tail then (r1 ts.tail).bind fun a ts => more most r1 f (l ++ [a]) ts else .no 3 ts.tail) else .ok l ts
def list {α : Type} (most : Nat) (r1 : List Tk → R α) (ts : List Tk) : R (List α) := (r1 ts).bind fun a ts => more most r1 ts.length [a] ts
def closed {α : Type} (most : Nat) (r1 : List Tk → R α) (ts : List Tk) : R (List α) := (want [40] ts).bind fun _ ts => (list most r1 ts).bind fun l ts => (want [41] ts).bind fun _ ts => .ok l ts

/-! ### Expressions -/
/-- Operations of two: number, sign or word, rank. -/
def ops : List (Int × List UInt8 × Nat) := [(16, [111, 114], 0), (15, [97, 110, 100], 1), (9, [61], 3), (10, [60, 62], 3), (11, [60], 3), (12, [60, 61], 3), (13, [62], 3), (14, [62, 61], 3), (3, [43], 4), (4, [45], 4), (8, [124, 124], 4), (5, [42], 5), (6, [47], 5), (7, [37], 5)]
def aggs : List (Int × List UInt8) := [(22, [99, 111, 117, 110, 116]), (23, [115, 117, 109]), (24, [109, 105, 110]), (25, [109, 97, 120])]
/-- The operation of that rank that is next. -/
def opAt (rank : Nat) (ts : List Tk) : Option Int := (ops.find? fun o => o.2.2 == rank && has o.2.1 ts).map (·.1)
/-- More operands of a chain; f: at least as many as there are tokens. -/
def chainG (rank : Nat) (r1 : List Tk → R Ex) : Nat → Ex → List Tk → R Ex
  | 0, x, ts => .ok x ts
  | f + 1, x, ts => match opAt rank ts with
    | none => .ok x ts
    | some op => (r1 ts.tail).bind fun y ts => chainG rank r1 f (two op x y) ts
def chain (rank : Nat) (r1 : List Tk → R Ex) (ts : List Tk) : R Ex := (r1 ts).bind fun x ts => chainG rank r1 ts.length x ts

/-- What stands one deeper. -/
inductive Lv where
  | not | unary | enclosed | argument | count
def column (ts : List Tk) : R Ex := (name ts).bind fun n ts => if has [46] ts then (name ts.tail).bind fun m ts => .ok (col n m) ts else .ok (col [] n) ts
def nullness (ts : List Tk) : R Int := if has [110, 111, 116] ts then (want [110, 117, 108, 108] ts.tail).map fun _ => 20 else (want [110, 117, 108, 108] ts).map fun _ => 19
def isNum : List Tk → Bool
  | _ :: x :: _ => x.k == 2
  | _ => false
variable (sub : Lv → List Tk → R Ex)
def primary (ts : List Tk) : R Ex := match ts with
  | [] => column []
  | x :: r =>
    if x.k == 2 then (number 9223372036854775807 (x :: r)).map fun n => lit ⟨2, n, ⟨#[]⟩⟩
    else if x.k == 3 then .ok (lit ⟨3, 0, ⟨x.t.toArray⟩⟩) r
    else if has [116, 114, 117, 101] (x :: r) then .ok (lit ⟨1, 1, ⟨#[]⟩⟩) r
    else if has [102, 97, 108, 115, 101] (x :: r) then .ok (lit ⟨1, 0, ⟨#[]⟩⟩) r
    else if has [110, 117, 108, 108] (x :: r) then .ok (lit zeroV) r
    else if has [40] (x :: r) then sub .enclosed (x :: r)
    else if has [99, 111, 117, 110, 116] (x :: r) then sub .count (x :: r)
    else match aggs.find? fun a => has a.2 (x :: r) with
      | some a => (sub .argument (x :: r)).map (one a.1)
      | none => column (x :: r)
def unary (ts : List Tk) : R Ex :=
  if has [45] ts then (if isNum ts then (number 9223372036854775808 ts.tail).map fun n => lit ⟨2, -(n : Int), ⟨#[]⟩⟩ else (sub .unary ts).map (one 18)) else primary sub ts
def product (ts : List Tk) : R Ex := chain 5 (unary sub) ts
def sum (ts : List Tk) : R Ex := chain 4 (product sub) ts
def compare (ts : List Tk) : R Ex := (sum sub ts).bind fun x ts =>
  if has [105, 115] ts then (nullness ts.tail).map fun op => one op x
  else match opAt 3 ts with
    | some op => (sum sub ts.tail).map (two op x)
    | none => .ok x ts
def not (ts : List Tk) : R Ex := if has [110, 111, 116] ts then (sub .not ts).map (one 17) else compare sub ts
def and (ts : List Tk) : R Ex := chain 1 (not sub) ts
def expr (ts : List Tk) : R Ex := chain 0 (and sub) ts
def enclosed (ts : List Tk) : R Ex := (expr sub ts).bind fun x ts => (want [41] ts).map fun _ => x
def argument (ts : List Tk) : R Ex := (want [40] ts).bind fun _ ts => enclosed sub ts
def count (ts : List Tk) : R Ex := (want [40] ts).bind fun _ ts =>
  if has [42] ts then (want [41] ts.tail).map fun _ => .mk 21 zeroV [] [] 0 0 [] else (enclosed sub ts).map (one 22)
def lev : Lv → List Tk → R Ex
  | .not => not sub
  | .unary => unary sub
  | .enclosed => enclosed sub
  | .argument => argument sub
  | .count => count sub
/-- What the next token makes one deeper; k: how many times that may still be done. -/
def deeper : Nat → Lv → List Tk → R Ex
  | 0, _, ts => .no 241 ts
  | k + 1, l, ts => lev (deeper k) l ts.tail
/-- An expression at the start of a statement, 0 deep. -/
def exprT (ts : List Tk) : R Ex := expr (deeper 40) ts
def oneExpr (ts : List Tk) : R Ex := (exprT ts).bind fun x ts => if ts.isEmpty then .ok x [] else .no 240 ts

/-! ### Statements -/
structure Item where
  all : Bool
  x : Ex
  as' : List UInt8
structure Src where
  tb : List UInt8
  as' : List UInt8
  on' : Ex
structure Ord where
  x : Ex
  desc : Bool
structure Col where
  nm : List UInt8
  kd : Int
  nn : Bool
structure Asg where
  nm : List UInt8
  x : Ex
  slot : Int
structure St where
  kind : Int
  nm : List UInt8 := []
  tb : List UInt8 := []
  cols : List Col := []
  key : List (List UInt8) := []
  uniq : Bool := false
  names : List (List UInt8) := []
  rows : List (List Ex) := []
  items : List Item := []
  src : List Src := []
  wh : Ex := none'
  group : List Ex := []
  order : List Ord := []
  limit : Int := 0
  sets : List Asg := []
def asN (ts : List Tk) : R (List UInt8) := if has [97, 115] ts then name ts.tail else .ok [] ts
def item (ts : List Tk) : R Item := if has [42] ts then .ok ⟨true, none', []⟩ ts.tail else (exprT ts).bind fun x ts => (asN ts).map fun a => ⟨false, x, a⟩
def source (ts : List Tk) : R Src := (name ts).bind fun n ts => (asN ts).map fun a => ⟨n, a, none'⟩
def joins : Nat → List Src → List Tk → R (List Src)
  | 0, l, ts => .ok l ts
  | f + 1, l, ts => if has [106, 111, 105, 110] ts then (if room l.length 4 ts.tail then (source ts.tail).bind fun s ts => (want [111, 110] ts).bind fun _ ts => (exprT ts).bind fun x ts => joins f (l ++ [{ s with on' := x }]) ts else .no 3 ts.tail) else .ok l ts
def sources (ts : List Tk) : R (List Src) := (source ts).bind fun s ts => joins ts.length [s] ts
def whereX (ts : List Tk) : R Ex := if has [119, 104, 101, 114, 101] ts then exprT ts.tail else .ok none' ts
def order (ts : List Tk) : R Ord := (exprT ts).bind fun x ts => if has [100, 101, 115, 99] ts then .ok ⟨x, true⟩ ts.tail else if has [97, 115, 99] ts then .ok ⟨x, false⟩ ts.tail else .ok ⟨x, false⟩ ts
def opt {α : Type} (s : List UInt8) (d : α) (r1 : List Tk → R α) (ts : List Tk) : R α := if has s ts then r1 ts.tail else .ok d ts
def select (ts : List Tk) : R St := (list 32 item ts).bind fun i ts => (want [102, 114, 111, 109] ts).bind fun _ ts => (sources ts).bind fun f ts => (whereX ts).bind fun w ts =>
  (opt [103, 114, 111, 117, 112] [] (fun ts => (want [98, 121] ts).bind fun _ ts => list 32 column ts) ts).bind fun g ts =>
  (opt [111, 114, 100, 101, 114] [] (fun ts => (want [98, 121] ts).bind fun _ ts => list 32 order ts) ts).bind fun o ts =>
  (opt [108, 105, 109, 105, 116] (-1) (fun ts => (number 1073741824 ts).map fun n => (n : Int)) ts).map fun n => { kind := 1, items := i, src := f, wh := w, group := g, order := o, limit := n }
def row (ts : List Tk) : R (List Ex) := closed 12 exprT ts
def insert (ts : List Tk) : R St := (want [105, 110, 116, 111] ts).bind fun _ ts => (name ts).bind fun n ts => (if has [40] ts then closed 12 name ts else .ok [] ts).bind fun l ts => (want [118, 97, 108, 117, 101, 115] ts).bind fun _ ts => (list 64 row ts).map fun r => { kind := 2, nm := n, names := l, rows := r }
def assign (ts : List Tk) : R Asg := (name ts).bind fun n ts => (want [61] ts).bind fun _ ts => (exprT ts).map fun x => ⟨n, x, 0⟩
def update (ts : List Tk) : R St := (name ts).bind fun n ts => (want [115, 101, 116] ts).bind fun _ ts => (list 12 assign ts).bind fun l ts => (whereX ts).map fun w => { kind := 3, nm := n, sets := l, wh := w }
def deletion (ts : List Tk) : R St := (want [102, 114, 111, 109] ts).bind fun _ ts => (name ts).bind fun n ts => (whereX ts).map fun w => { kind := 4, nm := n, wh := w }
def kindK (ts : List Tk) : R Int := if has [105, 110, 116] ts then .ok 2 ts.tail else if has [116, 101, 120, 116] ts then .ok 3 ts.tail else if has [98, 111, 111, 108] ts then .ok 1 ts.tail else .no 240 ts
def define (ts : List Tk) : R Col := (name ts).bind fun n ts => (kindK ts).bind fun k ts => if has [110, 111, 116] ts then (want [110, 117, 108, 108] ts.tail).map fun _ => ⟨n, k, true⟩ else .ok ⟨n, k, false⟩ ts
def defines : Nat → List Col → List Tk → R (List Col)
  | 0, l, ts => .ok l ts
  | f + 1, l, ts => (want [44] ts).bind fun _ ts => if has [112, 114, 105, 109, 97, 114, 121] ts then .ok l ts.tail else if room l.length 12 ts then (define ts).bind fun c ts => defines f (l ++ [c]) ts else .no 3 ts
def table (ts : List Tk) : R St := (name ts).bind fun n ts => (want [40] ts).bind fun _ ts => (define ts).bind fun c ts => (defines (ts.length + 1) [c] ts).bind fun l ts => (want [107, 101, 121] ts).bind fun _ ts => (closed 4 name ts).bind fun k ts => (want [41] ts).map fun _ => { kind := 5, nm := n, cols := l, key := k }
def index (ts : List Tk) : R St := (if has [117, 110, 105, 113, 117, 101] ts then R.ok true ts.tail else .ok false ts).bind fun u ts => (want [105, 110, 100, 101, 120] ts).bind fun _ ts => (name ts).bind fun n ts => (want [111, 110] ts).bind fun _ ts => (name ts).bind fun t ts => (closed 4 name ts).map fun l => { kind := 6, nm := n, tb := t, uniq := u, names := l }
def create (ts : List Tk) : R St := if has [116, 97, 98, 108, 101] ts then table ts.tail else index ts
def statement (ts : List Tk) : R St :=
  if has [115, 101, 108, 101, 99, 116] ts then select ts.tail else if has [105, 110, 115, 101, 114, 116] ts then insert ts.tail else if has [117, 112, 100, 97, 116, 101] ts then update ts.tail else if has [100, 101, 108, 101, 116, 101] ts then deletion ts.tail else if has [99, 114, 101, 97, 116, 101] ts then create ts.tail
  else if has [98, 101, 103, 105, 110] ts then .ok { kind := 7 } ts.tail else if has [99, 111, 109, 109, 105, 116] ts then .ok { kind := 8 } ts.tail
  else if has [114, 111, 108, 108, 98, 97, 99, 107] ts then (if has [116, 111] ts.tail then (name ts.tail.tail).map fun n => { kind := 11, nm := n } else .ok { kind := 9 } ts.tail)
  else (want [115, 97, 118, 101, 112, 111, 105, 110, 116] ts).bind fun _ ts => (name ts).map fun n => { kind := 10, nm := n }
def oneStmt (ts : List Tk) : R St := (statement ts).bind fun s ts => (if has [59] ts then R.ok () ts.tail else .ok () ts).bind fun _ ts => if ts.isEmpty then .ok s [] else .no 240 ts
def semis : Nat → List Tk → List Tk
  | 0, ts => ts
  | f + 1, ts => if has [59] ts then semis f ts.tail else ts
def stmts : Nat → List St → List Tk → R (List St)
  | 0, l, ts => .ok l ts
  | f + 1, l, ts => let ts := semis ts.length ts
    if ts.isEmpty then .ok l [] else if room l.length 64 ts then (statement ts).bind fun s ts => if ts.isEmpty then .ok (l ++ [s]) [] else (want [59] ts).bind fun _ ts => stmts f (l ++ [s]) ts else .no 3 ts
def allStmts (ts : List Tk) : R (List St) := stmts (ts.length + 1) [] ts
/-- Where a fault is told. -/
def faultAt (len : Nat) : List Tk → Int
  | [] => len
  | x :: _ => x.at'
end Go.Proofs.YtedamaccflhmfaaGreatDoor.Ps
