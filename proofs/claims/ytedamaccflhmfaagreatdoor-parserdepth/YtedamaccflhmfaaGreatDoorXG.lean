/-
  Plain: the parser asks no token for its place, but to tell a fault. .. and what follows from it.
-/
import Derived.Test.YtedamaccflhmfaaGreatDoorPsP
namespace Go.Proofs.YtedamaccflhmfaaGreatDoor.Ps
open Lx (Tk)

def strip {α : Type} : R α → R α
  | .ok a ts => .ok a (ts.map Lx.unp)
  | .no e ts => .no e (ts.map Lx.unp)
abbrev Eqv {α : Type} (f : List Tk → R α) : Prop := ∀ l, f (l.map Lx.unp) = strip (f l)
theorem has_map (s : List UInt8) (l : List Tk) : has s (l.map Lx.unp) = has s l := by cases l <;> rfl
theorem tail_map (l : List Tk) : (l.map Lx.unp).tail = l.tail.map Lx.unp := by cases l <;> rfl
theorem empty_map (l : List Tk) : (l.map Lx.unp).isEmpty = l.isEmpty := by cases l <;> rfl
theorem isNum_map (l : List Tk) : isNum (l.map Lx.unp) = isNum l := by
  rcases l with _ | ⟨x, _ | ⟨y, r⟩⟩ <;> rfl
theorem strip_bind {α β : Type} (r : R α) {g : α → List Tk → R β} (h : ∀ a, Eqv (g a)) : (strip r).bind g = strip (r.bind g) := by
  cases r with
  | ok a ts => exact h a ts
  | no e ts => rfl
theorem strip_map {α β : Type} (r : R α) (g : α → β) : (strip r).map g = strip (r.map g) := by cases r <;> rfl
theorem Eqv.bind {α β : Type} {f : List Tk → R α} {g : α → List Tk → R β} (hf : Eqv f) (hg : ∀ a, Eqv (g a)) : Eqv fun l => (f l).bind g := fun l => by
  show (f (l.map Lx.unp)).bind g = _
  rw [hf l]; exact strip_bind _ hg
theorem Eqv.map {α β : Type} {f : List Tk → R α} (hf : Eqv f) (g : α → β) : Eqv fun l => (f l).map g := fun l => by
  show (f (l.map Lx.unp)).map g = _
  rw [hf l]; exact strip_map _ g
theorem Eqv.ite {α : Type} {f g : List Tk → R α} (s : List UInt8) (hf : Eqv f) (hg : Eqv g) : Eqv fun l => if has s l then f l else g l := fun l => by
  show (if has s (l.map Lx.unp) then _ else _) = strip (if has s l then f l else g l)
  rw [has_map]
  split
  · exact hf l
  · exact hg l
theorem Eqv.tail {α : Type} {f : List Tk → R α} (hf : Eqv f) : Eqv fun l => f l.tail := fun l => by
  show f (l.map Lx.unp).tail = _
  rw [tail_map]; exact hf _
theorem Eqv.ok {α : Type} (a : α) : Eqv fun l => .ok a l := fun _ => rfl
theorem Eqv.okt {α : Type} (a : α) : Eqv fun l => .ok a l.tail := (Eqv.ok a).tail
theorem Eqv.no {α : Type} (e : Int) : Eqv fun l => (.no e l : R α) := fun _ => rfl
theorem Eqv.empty {α : Type} {f g : List Tk → R α} (hf : Eqv f) (hg : Eqv g) : Eqv fun l => if l.isEmpty then f l else g l := fun l => by
  show (if (l.map Lx.unp).isEmpty then _ else _) = strip (if l.isEmpty then f l else g l)
  rw [empty_map]
  split
  · exact hf l
  · exact hg l
theorem Eqv.room {α : Type} {f g : List Tk → R α} (n most : Nat) (hf : Eqv f) (hg : Eqv g) : Eqv fun l => if room n most l then f l else g l := fun l => by
  show (if Ps.room n most (l.map Lx.unp) then _ else _) = strip (if Ps.room n most l then f l else g l)
  have e : Ps.room n most (l.map Lx.unp) = Ps.room n most l := by unfold Ps.room; rw [empty_map]
  rw [e]
  split
  · exact hf l
  · exact hg l
theorem want_eqv (s : List UInt8) : Eqv (want s) := Eqv.ite s (Eqv.okt ()) (Eqv.no 240)
theorem name_eqv : Eqv name := fun l => by
  rcases l with _ | ⟨x, r⟩
  · rfl
  · show (if (x.k == 1 && !resL.contains x.t) = true then R.ok x.t (r.map Lx.unp) else .no 240 ((x :: r).map Lx.unp)) = _
    rw [name]
    split <;> rfl
theorem number_eqv (most : Nat) : Eqv (number most) := fun l => by
  rcases l with _ | ⟨x, r⟩
  · rfl
  · show (if (x.k == 2) = true then (if x.n ≤ most then R.ok x.n (r.map Lx.unp) else .no 233 ((x :: r).map Lx.unp)) else .no 240 ((x :: r).map Lx.unp)) = _
    rw [number]
    split
    · split <;> rfl
    · rfl
theorem more_eqv {α : Type} (most : Nat) {r1 : List Tk → R α} (h : Eqv r1) : ∀ (f : Nat) (xs : List α), Eqv (more most r1 f xs)
  | 0, _ => fun _ => rfl
  | f + 1, xs => (Eqv.ite [44] (f := fun l => if Ps.room xs.length most l.tail then (r1 l.tail).bind fun a ts => more most r1 f (xs ++ [a]) ts else .no 3 l.tail) (g := fun l => .ok xs l) (Eqv.tail (f := fun l => if Ps.room xs.length most l then (r1 l).bind fun a ts => more most r1 f (xs ++ [a]) ts else .no 3 l) (Eqv.room _ _ (h.bind fun _ => more_eqv most h f _) (Eqv.no 3))) (Eqv.ok xs))
theorem list_eqv {α : Type} (most : Nat) {r1 : List Tk → R α} (h : Eqv r1) : Eqv (list most r1) := fun l => by
  show (r1 (l.map Lx.unp)).bind (fun a ts => more most r1 ts.length [a] ts) = _
  rw [h l]
  refine strip_bind _ fun a ts => ?_
  show more most r1 (ts.map Lx.unp).length [a] (ts.map Lx.unp) = _
  rw [List.length_map]
  exact more_eqv most h _ _ ts
theorem closed_eqv {α : Type} (most : Nat) {r1 : List Tk → R α} (h : Eqv r1) : Eqv (closed most r1) :=
  (want_eqv [40]).bind fun _ => (list_eqv most h).bind fun l => (want_eqv [41]).bind fun _ => Eqv.ok l
theorem opAt_map (r : Nat) (l : List Tk) : opAt r (l.map Lx.unp) = opAt r l := by
  unfold opAt
  simp only [has_map]
theorem chainG_eqv (rank : Nat) {r1 : List Tk → R Ex} (h : Eqv r1) : ∀ (f : Nat) (x : Ex), Eqv (chainG rank r1 f x)
  | 0, _ => fun _ => rfl
  | f + 1, x => fun l => by
    rw [chainG, chainG, opAt_map]
    rcases opAt rank l with _ | op
    · rfl
    · show (r1 (l.map Lx.unp).tail).bind _ = _
      rw [tail_map, h l.tail]
      exact strip_bind _ fun y => chainG_eqv rank h f _
theorem chain_eqv (rank : Nat) {r1 : List Tk → R Ex} (h : Eqv r1) : Eqv (chain rank r1) := fun l => by
  show (r1 (l.map Lx.unp)).bind (fun x ts => chainG rank r1 ts.length x ts) = _
  rw [h l]
  refine strip_bind _ fun x ts => ?_
  show chainG rank r1 (ts.map Lx.unp).length x (ts.map Lx.unp) = _
  rw [List.length_map]
  exact chainG_eqv rank h _ _ ts
theorem column_eqv : Eqv column := name_eqv.bind fun n => Eqv.ite [46] (f := fun ts => (name ts.tail).bind fun m ts => .ok (col n m) ts) (Eqv.tail (f := fun ts => (name ts).bind fun m ts => .ok (col n m) ts) (name_eqv.bind fun _ => Eqv.ok _)) (Eqv.ok _)
theorem nullness_eqv : Eqv nullness := Eqv.ite [110, 111, 116] (Eqv.tail (f := fun ts => (want [110, 117, 108, 108] ts).map fun _ => 20) ((want_eqv _).map _)) ((want_eqv _).map _)
section
variable {sub : Lv → List Tk → R Ex} (hs : ∀ v, Eqv (sub v))
include hs
theorem primary_eqv : Eqv (primary sub) := fun l => by
  rcases l with _ | ⟨x, r⟩
  · rfl
  · have e1 : ∀ s, has s ((x :: r).map Lx.unp) = has s (x :: r) := fun s => has_map s _
    have e2 : (x :: r).map Lx.unp = Lx.unp x :: r.map Lx.unp := rfl
    have hcol := column_eqv (x :: r)
    have hnum := number_eqv 9223372036854775807 (x :: r)
    have hen := hs .enclosed (x :: r)
    have hco := hs .count (x :: r)
    have har := hs .argument (x :: r)
    rw [e2] at e1 hcol hnum hen hco har ⊢
    rw [primary, primary]
    simp only [e1]
    show (if (x.k == 2) = true then _ else if (x.k == 3) = true then _ else _) = _
    split
    · rw [hnum]; exact strip_map _ _
    · split
      · rfl
      · split
        · rfl
        · split
          · rfl
          · split
            · rfl
            · split
              · exact hen
              · split
                · exact hco
                · split
                  · rw [har]; exact strip_map _ _
                  · exact hcol
theorem unary_eqv : Eqv (unary sub) := fun l => by
  rw [unary, unary, has_map, isNum_map]
  split
  · split
    · rw [tail_map, number_eqv]; exact strip_map _ _
    · rw [hs .unary l]; exact strip_map _ _
  · exact primary_eqv hs l
theorem product_eqv : Eqv (product sub) := chain_eqv 5 (unary_eqv hs)
theorem sum_eqv : Eqv (sum sub) := chain_eqv 4 (product_eqv hs)
theorem compare_eqv : Eqv (compare sub) := (sum_eqv hs).bind fun x l => by
  simp only [has_map, opAt_map, tail_map]
  split
  · rw [nullness_eqv]; exact strip_map _ _
  · split
    · rw [sum_eqv hs]; exact strip_map _ _
    · rfl
theorem not_eqv : Eqv (not sub) := Eqv.ite [110, 111, 116] ((hs .not).map _) (compare_eqv hs)
theorem and_eqv : Eqv (and sub) := chain_eqv 1 (not_eqv hs)
theorem expr_eqv : Eqv (expr sub) := chain_eqv 0 (and_eqv hs)
theorem enclosed_eqv : Eqv (enclosed sub) := (expr_eqv hs).bind fun _ => (want_eqv [41]).map _
theorem argument_eqv : Eqv (argument sub) := (want_eqv [40]).bind fun _ => enclosed_eqv hs
theorem count_eqv : Eqv (count sub) := (want_eqv [40]).bind fun _ => Eqv.ite [42] (Eqv.tail (f := fun ts => (want [41] ts).map fun _ => Ex.mk 21 zeroV [] [] 0 0 []) ((want_eqv _).map _)) ((enclosed_eqv hs).map _)
theorem lev_eqv : ∀ v, Eqv (lev sub v)
  | .not => not_eqv hs
  | .unary => unary_eqv hs
  | .enclosed => enclosed_eqv hs
  | .argument => argument_eqv hs
  | .count => count_eqv hs
end
theorem deeper_eqv : ∀ (k : Nat) (v : Lv), Eqv (deeper k v)
  | 0, _ => Eqv.no 241
  | k + 1, v => Eqv.tail (lev_eqv (deeper_eqv k) v)
theorem exprT_eqv : Eqv exprT := expr_eqv (deeper_eqv 40)
theorem oneExpr_eqv : Eqv oneExpr := exprT_eqv.bind fun x => Eqv.empty (f := fun _ => .ok x []) (fun _ => rfl) (Eqv.no 240)
theorem asN_eqv : Eqv asN := Eqv.ite [97, 115] name_eqv.tail (Eqv.ok _)
theorem item_eqv : Eqv item := Eqv.ite [42] (Eqv.okt _) (exprT_eqv.bind fun _ => asN_eqv.map _)
theorem source_eqv : Eqv source := name_eqv.bind fun _ => asN_eqv.map _
theorem joins_eqv : ∀ (f : Nat) (xs : List Src), Eqv (joins f xs)
  | 0, _ => fun _ => rfl
  | f + 1, xs => Eqv.ite [106, 111, 105, 110] (Eqv.tail (f := fun ts => if Ps.room xs.length 4 ts then (source ts).bind fun s ts => (want [111, 110] ts).bind fun _ ts => (exprT ts).bind fun x ts => joins f (xs ++ [{ s with on' := x }]) ts else .no 3 ts) (Eqv.room _ _ (source_eqv.bind fun _ => (want_eqv _).bind fun _ => exprT_eqv.bind fun _ => joins_eqv f _) (Eqv.no 3))) (Eqv.ok _)
theorem sources_eqv : Eqv sources := source_eqv.bind fun s ts => by
  show joins (ts.map Lx.unp).length [s] (ts.map Lx.unp) = _
  rw [List.length_map]
  exact joins_eqv _ _ ts
theorem whereX_eqv : Eqv whereX := Eqv.ite [119, 104, 101, 114, 101] exprT_eqv.tail (Eqv.ok _)
theorem order_eqv : Eqv order := exprT_eqv.bind fun _ => Eqv.ite [100, 101, 115, 99] (Eqv.okt _) (Eqv.ite [97, 115, 99] (Eqv.okt _) (Eqv.ok _))
theorem opt_eqv {α : Type} (s : List UInt8) (d : α) {r1 : List Tk → R α} (h : Eqv r1) : Eqv (opt s d r1) := Eqv.ite s h.tail (Eqv.ok _)
theorem select_eqv : Eqv select := (list_eqv 32 item_eqv).bind fun _ => (want_eqv _).bind fun _ => sources_eqv.bind fun _ => whereX_eqv.bind fun _ => (opt_eqv _ _ ((want_eqv _).bind fun _ => list_eqv 32 column_eqv)).bind fun _ => (opt_eqv _ _ ((want_eqv _).bind fun _ => list_eqv 32 order_eqv)).bind fun _ => (opt_eqv _ _ ((number_eqv _).map _)).map _
theorem row_eqv : Eqv row := closed_eqv 12 exprT_eqv
theorem insert_eqv : Eqv insert := (want_eqv _).bind fun _ => name_eqv.bind fun _ => (Eqv.ite [40] (closed_eqv 12 name_eqv) (Eqv.ok _)).bind fun _ => (want_eqv _).bind fun _ => (list_eqv 64 row_eqv).map _
theorem assign_eqv : Eqv assign := name_eqv.bind fun _ => (want_eqv _).bind fun _ => exprT_eqv.map _
theorem update_eqv : Eqv update := name_eqv.bind fun _ => (want_eqv _).bind fun _ => (list_eqv 12 assign_eqv).bind fun _ => whereX_eqv.map _
theorem deletion_eqv : Eqv deletion := (want_eqv _).bind fun _ => name_eqv.bind fun _ => whereX_eqv.map _
theorem kindK_eqv : Eqv kindK := Eqv.ite _ (Eqv.okt _) (Eqv.ite _ (Eqv.okt _) (Eqv.ite _ (Eqv.okt _) (Eqv.no 240)))
theorem define_eqv : Eqv define := name_eqv.bind fun n => kindK_eqv.bind fun k => Eqv.ite [110, 111, 116] (Eqv.tail (f := fun ts => (want [110, 117, 108, 108] ts).map fun _ => (⟨n, k, true⟩ : Col)) ((want_eqv _).map _)) (Eqv.ok _)
theorem defines_eqv : ∀ (f : Nat) (xs : List Col), Eqv (defines f xs)
  | 0, _ => fun _ => rfl
  | f + 1, _ => (want_eqv _).bind fun _ => Eqv.ite [112, 114, 105, 109, 97, 114, 121] (Eqv.okt _) (Eqv.room _ _ (define_eqv.bind fun _ => defines_eqv f _) (Eqv.no 3))
theorem table_eqv : Eqv table := name_eqv.bind fun n => (want_eqv _).bind fun _ => define_eqv.bind fun c ts => by
  show (defines ((ts.map Lx.unp).length + 1) [c] (ts.map Lx.unp)).bind _ = _
  rw [List.length_map, defines_eqv]
  exact strip_bind _ fun _ => (want_eqv _).bind fun _ => (closed_eqv 4 name_eqv).bind fun _ => (want_eqv _).map _
theorem index_eqv : Eqv index := (Eqv.ite _ (Eqv.okt _) (Eqv.ok _)).bind fun _ => (want_eqv _).bind fun _ => name_eqv.bind fun _ => (want_eqv _).bind fun _ => name_eqv.bind fun _ => (closed_eqv 4 name_eqv).map _
theorem create_eqv : Eqv create := Eqv.ite _ table_eqv.tail index_eqv
theorem statement_eqv : Eqv statement :=
  Eqv.ite _ select_eqv.tail <| Eqv.ite _ insert_eqv.tail <| Eqv.ite _ update_eqv.tail <| Eqv.ite _ deletion_eqv.tail <| Eqv.ite _ create_eqv.tail <|
  Eqv.ite _ (Eqv.okt _) <| Eqv.ite _ (Eqv.okt _) <|
  Eqv.ite _ (Eqv.tail (f := fun ts => if has [116, 111] ts then (name ts.tail).map fun n => ({ kind := 11, nm := n } : St) else .ok { kind := 9 } ts) (Eqv.ite _ (name_eqv.tail.map _) (Eqv.ok _))) <|
  (want_eqv _).bind fun _ => name_eqv.map _
theorem oneStmt_eqv : Eqv oneStmt := statement_eqv.bind fun s => (Eqv.ite [59] (Eqv.okt ()) (Eqv.ok ())).bind fun _ => Eqv.empty (f := fun _ => .ok s []) (fun _ => rfl) (Eqv.no 240)
/-- Of two lists of the same tokens, at whatever places, the same is read, or the error is the same. -/
theorem oneStmt_same {p q : List Tk} (h : p.map Lx.unp = q.map Lx.unp) : (∃ s a b, oneStmt p = .ok s a ∧ oneStmt q = .ok s b) ∨ (∃ e a b, oneStmt p = .no e a ∧ oneStmt q = .no e b) := by
  have e := (oneStmt_eqv p).symm.trans ((congrArg oneStmt h).trans (oneStmt_eqv q))
  rcases h1 : oneStmt p with ⟨s, a⟩ | ⟨c, a⟩ <;> rcases h2 : oneStmt q with ⟨t, b⟩ | ⟨d, b⟩ <;> rw [h1, h2] at e <;> simp only [strip] at e
  · injection e with e1 e2
    exact .inl ⟨s, a, b, rfl, by rw [e1]⟩
  · cases e
  · cases e
  · injection e with e1 e2
    exact .inr ⟨c, a, b, rfl, by rw [e1]⟩
end Go.Proofs.YtedamaccflhmfaaGreatDoor.Ps
namespace Go.Proofs.YtedamaccflhmfaaGreatDoor.Ps
open Lx (Tk)

/-- A word or a sign of the language. -/
def kw (s : List UInt8) : Tk := ⟨match s with | c :: _ => if 97 ≤ c.toNat ∧ c.toNat ≤ 122 then 1 else 4 | [] => 4, s, 0, 0⟩
def wd (s : List UInt8) : Tk := ⟨1, s, 0, 0⟩
def nu (n : Nat) : Tk := ⟨2, [], n, 0⟩
def opOf (op : Int) : Option (List UInt8 × Nat) := (ops.find? fun o => o.1 == op).map (·.2)
def rank (op : Int) : Nat := if op = 17 then 2 else if op = 19 ∨ op = 20 then 3 else match opOf op with
  | some o => o.2
  | none => 6
/-- A number's magnitude, as the program reckons it: the least Int's too. -/
def litT (v : Val) : List Tk :=
  if v.k = 0 then [kw [110, 117, 108, 108]] else if v.k = 1 then [kw (if v.n = 0 then [102, 97, 108, 115, 101] else [116, 114, 117, 101])]
  else if v.k = 2 then (if v.n < 0 then [kw [45], nu (-v.n).toNat] else [nu v.n.toNat])
  else if v.k = 3 then [⟨3, v.t.data.toList, 0, 0⟩] else []
def noneT (op : Int) (v : Val) (tb nm : List UInt8) : List Tk :=
  if op = 1 then litT v else if op = 2 then (if tb = [] then [wd nm] else [wd tb, kw [46], wd nm]) else if op = 21 then [kw [99, 111, 117, 110, 116], kw [40], kw [42], kw [41]] else []
def opX : Ex → Int
  | .mk op _ _ _ _ _ _ => op
def posLit : Ex → Bool
  | .mk op v _ _ _ _ _ => op == 1 && v.k == 2 && decide (0 ≤ v.n)
def par (b : Bool) (l : List Tk) : List Tk := if b then [kw [40]] ++ l ++ [kw [41]] else l
/-- An expression's tokens; c: how many expressions were told ahead of it; the count behind it. -/
def tellE : Ex → Nat → List Tk × Nat
  | .mk op v tb nm _ _ [], c => if 65536 ≤ c then ([], c + 1) else (noneT op v tb nm, c + 1)
  | .mk op _ _ _ _ _ [x], c => if 65536 ≤ c then ([], c + 1) else
    let r := tellE x (c + 1)
    if op = 17 then (kw [110, 111, 116] :: par (decide (rank (opX x) < 2)) r.1, r.2)
    else if op = 18 then (kw [45] :: par (posLit x || decide (rank (opX x) < 6)) r.1, r.2)
    else if op = 19 then (par (decide (rank (opX x) < 4)) r.1 ++ [kw [105, 115], kw [110, 117, 108, 108]], r.2)
    else if op = 20 then (par (decide (rank (opX x) < 4)) r.1 ++ [kw [105, 115], kw [110, 111, 116], kw [110, 117, 108, 108]], r.2)
    else match aggs.find? fun a => a.1 == op with
      | some a => (kw a.2 :: par true r.1, r.2)
      | none => ([], c + 1)
  | .mk op _ _ _ _ _ [x, y], c => if 65536 ≤ c then ([], c + 1) else match opOf op with
    | none => ([], c + 1)
    | some o =>
      let a := tellE x (c + 1)
      let b := tellE y a.2
      (par (decide (rank (opX x) < (if o.2 = 3 then 4 else o.2))) a.1 ++ [kw o.1] ++ par (decide (rank (opX y) < o.2 + 1)) b.1, b.2)
  | .mk _ _ _ _ _ _ (_ :: _ :: _ :: _), c => ([], c + 1)
/-- A list with commas between. -/
def tellL {α : Type} (f : α → Nat → List Tk × Nat) : Bool → List α → Nat → List Tk × Nat
  | _, [], c => ([], c)
  | first, x :: r, c =>
    let a := f x c
    let b := tellL f false r a.2
    ((if first then [] else [kw [44]]) ++ a.1 ++ b.1, b.2)
def pure1 {α : Type} (f : α → List Tk) : α → Nat → List Tk × Nat := fun x c => (f x, c)
def asT (a : List UInt8) : List Tk := if a = [] then [] else [kw [97, 115], wd a]
def itemT (i : Item) (c : Nat) : List Tk × Nat := if i.all then ([kw [42]], c) else let r := tellE i.x c; (r.1 ++ asT i.as', r.2)
def srcT : Bool → List Src → Nat → List Tk × Nat
  | _, [], c => ([], c)
  | first, s :: r, c =>
    let o : List Tk × Nat := if first then ([], c) else let e := tellE s.on' c; (kw [111, 110] :: e.1, e.2)
    let b := srcT false r o.2
    ((if first then [] else [kw [106, 111, 105, 110]]) ++ wd s.tb :: asT s.as' ++ o.1 ++ b.1, b.2)
def whereT (x : Ex) (c : Nat) : List Tk × Nat := if opX x = 0 then ([], c) else let r := tellE x c; (kw [119, 104, 101, 114, 101] :: r.1, r.2)
def orderT (o : Ord) (c : Nat) : List Tk × Nat := let r := tellE o.x c; (r.1 ++ (if o.desc then [kw [100, 101, 115, 99]] else []), r.2)
def assignT (a : Asg) (c : Nat) : List Tk × Nat := let r := tellE a.x c; (wd a.nm :: kw [61] :: r.1, r.2)
def namesT (l : List (List UInt8)) : List Tk := par true (tellL (pure1 fun n => [wd n]) true l 0).1
def rowT (l : List Ex) (c : Nat) : List Tk × Nat := let r := tellL tellE true l c; (par true r.1, r.2)
def kindT (k : Int) : List Tk := if k = 2 then [kw [105, 110, 116]] else if k = 3 then [kw [116, 101, 120, 116]] else if k = 1 then [kw [98, 111, 111, 108]] else []
def colT (c : Col) : List Tk := wd c.nm :: kindT c.kd ++ (if c.nn then [kw [110, 111, 116], kw [110, 117, 108, 108]] else [])
def selectT (s : St) : List Tk :=
  let i := tellL itemT true s.items 0
  let f := srcT true s.src i.2
  let w := whereT s.wh f.2
  let g : List Tk × Nat := if s.group.isEmpty then ([], w.2) else let r := tellL tellE true s.group w.2; (kw [103, 114, 111, 117, 112] :: kw [98, 121] :: r.1, r.2)
  let o : List Tk × Nat := if s.order.isEmpty then ([], g.2) else let r := tellL orderT true s.order g.2; (kw [111, 114, 100, 101, 114] :: kw [98, 121] :: r.1, r.2)
  kw [115, 101, 108, 101, 99, 116] :: i.1 ++ kw [102, 114, 111, 109] :: f.1 ++ w.1 ++ g.1 ++ o.1 ++ (if 0 ≤ s.limit then [kw [108, 105, 109, 105, 116], nu s.limit.toNat] else [])
def tellS (s : St) : List Tk :=
  if s.kind = 1 then selectT s
  else if s.kind = 2 then kw [105, 110, 115, 101, 114, 116] :: kw [105, 110, 116, 111] :: wd s.nm :: (if s.names = [] then [] else namesT s.names) ++ kw [118, 97, 108, 117, 101, 115] :: (tellL rowT true s.rows 0).1
  else if s.kind = 3 then (let a := tellL assignT true s.sets 0; kw [117, 112, 100, 97, 116, 101] :: wd s.nm :: kw [115, 101, 116] :: a.1 ++ (whereT s.wh a.2).1)
  else if s.kind = 4 then kw [100, 101, 108, 101, 116, 101] :: kw [102, 114, 111, 109] :: wd s.nm :: (whereT s.wh 0).1
  else if s.kind = 5 then kw [99, 114, 101, 97, 116, 101] :: kw [116, 97, 98, 108, 101] :: wd s.nm :: kw [40] :: (tellL (pure1 colT) true s.cols 0).1 ++ [kw [44], kw [112, 114, 105, 109, 97, 114, 121], kw [107, 101, 121]] ++ namesT s.key ++ [kw [41]]
  else if s.kind = 6 then kw [99, 114, 101, 97, 116, 101] :: (if s.uniq then [kw [117, 110, 105, 113, 117, 101]] else []) ++ kw [105, 110, 100, 101, 120] :: wd s.nm :: kw [111, 110] :: wd s.tb :: namesT s.names
  else if s.kind = 7 then [kw [98, 101, 103, 105, 110]] else if s.kind = 8 then [kw [99, 111, 109, 109, 105, 116]] else if s.kind = 9 then [kw [114, 111, 108, 108, 98, 97, 99, 107]]
  else if s.kind = 10 then [kw [115, 97, 118, 101, 112, 111, 105, 110, 116], wd s.nm] else if s.kind = 11 then [kw [114, 111, 108, 108, 98, 97, 99, 107], kw [116, 111], wd s.nm] else []
end Go.Proofs.YtedamaccflhmfaaGreatDoor.Ps
namespace Go.Proofs.YtedamaccflhmfaaGreatDoor.Ps
open Lx (Tk)

/-- What a mark opens: 0 a parenthesis, 1 and -1 a NOT within one, else MAX. -/
def opens (m : Int) : List Tk := if m = 0 then [kw [40]] else if m = 1 ∨ m = -1 then [kw [40], kw [110, 111, 116]] else [kw [109, 97, 120], kw [40]]
def nestX : List Int → Ex
  | [] => lit ⟨1, 1, ⟨#[]⟩⟩
  | m :: r => if m = 0 then nestX r else if m = 1 ∨ m = -1 then one 17 (nestX r) else one 25 (nestX r)
def nestT : List Int → List Tk → List Tk
  | [], rest => kw [116, 114, 117, 101] :: rest
  | m :: r, rest => opens m ++ nestT r (kw [41] :: rest)
/-- As it is told again. -/
def nestU : List Int → List Tk → List Tk
  | [], rest => kw [116, 114, 117, 101] :: rest
  | m :: r, rest => if m = 0 then nestU r rest else if m = 1 ∨ m = -1 then kw [110, 111, 116] :: nestU r rest else kw [109, 97, 120] :: kw [40] :: nestU r (kw [41] :: rest)
def cost (m : Int) : Nat := if m = 1 ∨ m = -1 then 2 else 1
def deep : List Int → Nat
  | [] => 0
  | m :: r => cost m + deep r

/-- Nothing of an expression goes on there. -/
structure Stop (ts : List Tk) : Prop where
  op : ∀ r, opAt r ts = none
  is : has [105, 115] ts = false
theorem stop_nil : Stop [] := ⟨fun r => by simp [opAt, ops, has], rfl⟩
theorem stop_close (r : List Tk) (x : Tk) (hx : x.t = [41]) : Stop (x :: r) := by
  have h : ∀ s, s ≠ [41] → has s (x :: r) = false := fun s hs => by
    show (x.t == s && _) = false
    rw [hx, show (([41] : List UInt8) == s) = false from by simpa using fun e => hs e.symm]
    rfl
  refine ⟨fun rk => ?_, h _ (by decide)⟩
  unfold opAt
  rw [Option.map_eq_none_iff, List.find?_eq_none]
  intro o ho
  have hne : o.2.1 ≠ [41] := by
    have hall : ∀ x ∈ ops, x.2.1 ≠ [41] := by decide
    exact hall o ho
  rw [h _ hne]
  simp
theorem chain_ok {rank : Nat} {r1 : List Tk → R Ex} {l ts : List Tk} {x : Ex} (h : r1 l = .ok x ts) (hs : opAt rank ts = none) : chain rank r1 l = .ok x ts := by
  rw [chain, h]
  show chainG rank r1 ts.length x ts = _
  rcases ts with _ | ⟨t, r⟩
  · rfl
  · rw [List.length_cons, chainG, hs]
theorem chain_no {rank : Nat} {r1 : List Tk → R Ex} {l ts : List Tk} {e : Int} (h : r1 l = .no e ts) : chain rank r1 l = .no e ts := by
  rw [chain, h]; rfl
variable {sub : Lv → List Tk → R Ex}
theorem up_not {l ts : List Tk} {x : Ex} (hn : has [110, 111, 116] l = false) (hm : has [45] l = false) (h : primary sub l = .ok x ts) (hs : Stop ts) : not sub l = .ok x ts := by
  rw [not, if_neg (by rw [hn]; decide)]
  have h6 : unary sub l = .ok x ts := by rw [unary, if_neg (by rw [hm]; decide)]; exact h
  have h5 : product sub l = .ok x ts := chain_ok h6 (hs.op 5)
  have h4 : sum sub l = .ok x ts := chain_ok h5 (hs.op 4)
  rw [compare, h4]
  show (if has [105, 115] ts then _ else _) = _
  rw [if_neg (by rw [hs.is]; decide), hs.op 3]
theorem up_expr {l ts : List Tk} {x : Ex} (h : not sub l = .ok x ts) (hs : Stop ts) : expr sub l = .ok x ts := chain_ok (chain_ok h (hs.op 1)) (hs.op 0)
theorem no_not {l ts : List Tk} {e : Int} (hn : has [110, 111, 116] l = false) (hm : has [45] l = false) (h : primary sub l = .no e ts) : not sub l = .no e ts := by
  rw [not, if_neg (by rw [hn]; decide)]
  have h6 : unary sub l = .no e ts := by rw [unary, if_neg (by rw [hm]; decide)]; exact h
  have h4 : sum sub l = .no e ts := chain_no (chain_no h6)
  rw [compare, h4]; rfl
theorem no_expr {l ts : List Tk} {e : Int} (h : not sub l = .no e ts) : expr sub l = .no e ts := chain_no (chain_no h)
theorem has_eq {s : List UInt8} {x : Tk} {r : List Tk} (h : x.t = s) (hk : x.k = 1 ∨ x.k = 4) : has s (x :: r) = true := by
  show (x.t == s && (x.k == 1 || x.k == 4)) = true
  rw [h]
  rcases hk with e | e <;> rw [e] <;> simp
theorem has_kwn (r : List Tk) : has [110, 111, 116] (kw [110, 111, 116] :: r) = true := rfl
theorem has_kwp (r : List Tk) : has [40] (kw [40] :: r) = true := rfl
theorem has_ne {s : List UInt8} {x : Tk} {r : List Tk} (h : x.t ≠ s) : has s (x :: r) = false := by
  show (x.t == s && _) = false
  rw [show (x.t == s) = false from by simpa using h]; rfl
theorem prim_true (r : List Tk) (x : Tk) (ht : x.t = [116, 114, 117, 101]) (hk : x.k = 1) : primary sub (x :: r) = .ok (lit ⟨1, 1, ⟨#[]⟩⟩) r := by
  rw [primary, if_neg (by rw [hk]; decide), if_neg (by rw [hk]; decide), if_pos (has_eq ht (.inl hk))]
theorem prim_par (r : List Tk) (x : Tk) (ht : x.t = [40]) (hk : x.k = 4) : primary sub (x :: r) = sub .enclosed (x :: r) := by
  have n : ∀ s, s ≠ [40] → has s (x :: r) = false := fun s hs => has_ne (by rw [ht]; exact fun e => hs e.symm)
  rw [primary, if_neg (by rw [hk]; decide), if_neg (by rw [hk]; decide), if_neg (by rw [n _ (by decide)]; decide), if_neg (by rw [n _ (by decide)]; decide), if_neg (by rw [n _ (by decide)]; decide), if_pos (has_eq ht (.inr hk))]
theorem prim_max (r : List Tk) (x : Tk) (ht : x.t = [109, 97, 120]) (hk : x.k = 1) : primary sub (x :: r) = (sub .argument (x :: r)).map (one 25) := by
  have n : ∀ s, s ≠ [109, 97, 120] → has s (x :: r) = false := fun s hs => has_ne (by rw [ht]; exact fun e => hs e.symm)
  rw [primary, if_neg (by rw [hk]; decide), if_neg (by rw [hk]; decide), if_neg (by rw [n _ (by decide)]; decide), if_neg (by rw [n _ (by decide)]; decide), if_neg (by rw [n _ (by decide)]; decide), if_neg (by rw [n _ (by decide)]; decide), if_neg (by rw [n _ (by decide)]; decide)]
  have hf : (aggs.find? fun a => has a.2 (x :: r)) = some (25, [109, 97, 120]) := by
    simp only [aggs, List.find?_cons, n _ (show ([99, 111, 117, 110, 116] : List UInt8) ≠ [109, 97, 120] by decide), n _ (show ([115, 117, 109] : List UInt8) ≠ [109, 97, 120] by decide), n _ (show ([109, 105, 110] : List UInt8) ≠ [109, 97, 120] by decide), has_eq (r := r) ht (.inl hk)]
  rw [hf]
theorem enclosed_ok {l ts : List Tk} {x : Ex} {y : Tk} (h : expr sub l = .ok x (y :: ts)) (ht : y.t = [41]) (hk : y.k = 4) : enclosed sub l = .ok x ts := by
  rw [enclosed, h]
  show (want [41] (y :: ts)).map _ = _
  rw [want, if_pos (has_eq ht (.inr hk))]; rfl
theorem enclosed_no {l ts : List Tk} {e : Int} (h : expr sub l = .no e ts) : enclosed sub l = .no e ts := by rw [enclosed, h]; rfl

/-! ### What is read -/
theorem nest_head (ms : List Int) (rest : List Tk) : has [110, 111, 116] (nestT ms rest) = false ∧ has [45] (nestT ms rest) = false := by
  rcases ms with _ | ⟨m, r⟩
  · exact ⟨rfl, rfl⟩
  · rw [nestT, opens]
    by_cases h0 : m = 0
    · rw [if_pos h0]; exact ⟨rfl, rfl⟩
    · rw [if_neg h0]
      by_cases h1 : m = 1 ∨ m = -1
      · rw [if_pos h1]; exact ⟨rfl, rfl⟩
      · rw [if_neg h1]; exact ⟨rfl, rfl⟩
theorem nest_ok : ∀ (ms : List Int) (b : Nat) (rest : List Tk), deep ms ≤ b → primary (deeper b) (nestT ms rest) = .ok (nestX ms) rest
  | [], b, rest, _ => prim_true rest _ rfl rfl
  | m :: r, b, rest, hd => by
    rw [deep, cost] at hd
    have hh := nest_head r (kw [41] :: rest)
    have hst := stop_close rest (kw [41]) rfl
    rw [nestT, nestX, opens]
    by_cases h0 : m = 0
    · rw [if_neg (by omega)] at hd
      obtain ⟨b', rfl⟩ : ∃ b', b = b' + 1 := ⟨b - 1, by omega⟩
      rw [if_pos h0, if_pos h0]
      show primary (deeper (b' + 1)) (kw [40] :: nestT r (kw [41] :: rest)) = _
      rw [prim_par _ _ rfl rfl]
      show enclosed (deeper b') (nestT r (kw [41] :: rest)) = _
      exact enclosed_ok (up_expr (up_not hh.1 hh.2 (nest_ok r b' _ (by omega)) hst) hst) rfl rfl
    · rw [if_neg h0, if_neg h0]
      by_cases h1 : m = 1 ∨ m = -1
      · rw [if_pos h1] at hd
        obtain ⟨b', rfl⟩ : ∃ b', b = b' + 1 + 1 := ⟨b - 2, by omega⟩
        rw [if_pos h1, if_pos h1]
        show primary (deeper (b' + 1 + 1)) (kw [40] :: kw [110, 111, 116] :: nestT r (kw [41] :: rest)) = _
        rw [prim_par _ _ rfl rfl]
        show enclosed (deeper (b' + 1)) (kw [110, 111, 116] :: nestT r (kw [41] :: rest)) = _
        have h2 : not (deeper (b' + 1)) (kw [110, 111, 116] :: nestT r (kw [41] :: rest)) = .ok (one 17 (nestX r)) (kw [41] :: rest) := by
          rw [not, if_pos (has_kwn _)]
          show (not (deeper b') (nestT r (kw [41] :: rest))).map (one 17) = _
          rw [up_not hh.1 hh.2 (nest_ok r b' _ (by omega)) hst]; rfl
        exact enclosed_ok (up_expr h2 hst) rfl rfl
      · rw [if_neg h1] at hd
        obtain ⟨b', rfl⟩ : ∃ b', b = b' + 1 := ⟨b - 1, by omega⟩
        rw [if_neg h1, if_neg h1]
        show primary (deeper (b' + 1)) (kw [109, 97, 120] :: kw [40] :: nestT r (kw [41] :: rest)) = _
        rw [prim_max _ _ rfl rfl]
        show (argument (deeper b') (kw [40] :: nestT r (kw [41] :: rest))).map (one 25) = _
        have h2 : argument (deeper b') (kw [40] :: nestT r (kw [41] :: rest)) = .ok (nestX r) rest := by
          rw [argument, want, if_pos (has_kwp _)]
          show enclosed (deeper b') (nestT r (kw [41] :: rest)) = _
          exact enclosed_ok (up_expr (up_not hh.1 hh.2 (nest_ok r b' _ (by omega)) hst) hst) rfl rfl
        rw [h2]; rfl
/-- Told again it is read as the same. -/
theorem nestU_ok : ∀ (ms : List Int) (b : Nat) (rest : List Tk), deep ms ≤ b → Stop rest → not (deeper b) (nestU ms rest) = .ok (nestX ms) rest
  | [], b, rest, _, hs => up_not rfl rfl (prim_true rest _ rfl rfl) hs
  | m :: r, b, rest, hd, hs => by
    rw [deep, cost] at hd
    have hst := stop_close rest (kw [41]) rfl
    rw [nestU, nestX]
    by_cases h0 : m = 0
    · rw [if_neg (by omega)] at hd
      rw [if_pos h0, if_pos h0]
      exact nestU_ok r b rest (by omega) hs
    · rw [if_neg h0, if_neg h0]
      by_cases h1 : m = 1 ∨ m = -1
      · rw [if_pos h1] at hd
        obtain ⟨b', rfl⟩ : ∃ b', b = b' + 1 := ⟨b - 1, by omega⟩
        rw [if_pos h1, if_pos h1, not, if_pos (has_kwn _)]
        show (not (deeper b') (nestU r rest)).map (one 17) = _
        rw [nestU_ok r b' rest (by omega) hs]; rfl
      · rw [if_neg h1] at hd
        obtain ⟨b', rfl⟩ : ∃ b', b = b' + 1 := ⟨b - 1, by omega⟩
        rw [if_neg h1, if_neg h1]
        refine up_not rfl rfl ?_ hs
        rw [prim_max _ _ rfl rfl]
        show (argument (deeper b') (kw [40] :: nestU r (kw [41] :: rest))).map (one 25) = _
        have h2 : argument (deeper b') (kw [40] :: nestU r (kw [41] :: rest)) = .ok (nestX r) rest := by
          rw [argument, want, if_pos (has_kwp _)]
          show enclosed (deeper b') (nestU r (kw [41] :: rest)) = _
          exact enclosed_ok (up_expr (nestU_ok r b' _ (by omega) hst) hst) rfl rfl
        rw [h2]; rfl
/-! ### Too deep -/
/-- Tokens up to the mark number b. -/
def upTo (b : Nat) (ms : List Int) : List Tk := (ms.take b).flatMap opens
theorem unp_kw {x : Tk} {s : List UInt8} (h : Lx.unp x = kw s) : x.t = s ∧ x.k = (kw s).k := by
  have h1 := congrArg Tk.t h
  have h2 := congrArg Tk.k h
  refine ⟨?_, h2⟩
  have : (kw s).t = s := by rcases s with _ | ⟨c, r⟩ <;> rfl
  rw [← this]; exact h1
theorem deep_ge : ∀ ms : List Int, ms.length ≤ deep ms
  | [] => Nat.le_refl _
  | m :: r => by
    have := deep_ge r
    rw [deep, cost, List.length_cons]
    split <;> omega
theorem nest_no : ∀ (ms : List Int) (b : Nat) (rest q : List Tk), q.map Lx.unp = nestT ms rest → b < deep ms → ∃ ts, primary (deeper b) q = .no 241 ts ∧ (deep ms = ms.length → ∃ A, q = A ++ ts ∧ A.map Lx.unp = upTo b ms ∧ ts ≠ [])
  | [], b, rest, q, _, hd => absurd hd (Nat.not_lt_zero _)
  | m :: r, b, rest, q, hq, hd => by
    have hge := deep_ge r
    rw [nestT, opens] at hq
    rw [deep, cost] at hd
    by_cases h0 : m = 0
    · rw [if_pos h0] at hq
      rw [if_neg (by omega)] at hd
      obtain ⟨x, q', rfl, hx, hq'⟩ := List.map_eq_cons_iff.1 hq
      replace hq' : q'.map Lx.unp = nestT r (kw [41] :: rest) := hq'
      obtain ⟨ht, hk⟩ := unp_kw hx
      rw [prim_par q' x ht hk]
      rcases b with _ | b
      · refine ⟨x :: q', rfl, fun _ => ⟨[], rfl, rfl, by simp⟩⟩
      · show ∃ ts, enclosed (deeper b) q' = .no 241 ts ∧ _
        obtain ⟨ts, hp, hA⟩ := nest_no r b _ q' hq' (by omega)
        have hh := nest_head r (kw [41] :: rest)
        rw [← hq', has_map, has_map] at hh
        refine ⟨ts, enclosed_no (no_expr (no_not hh.1 hh.2 hp)), fun hl => ?_⟩
        rw [deep, cost, if_neg (by omega), List.length_cons] at hl
        obtain ⟨A, rfl, hAu, hne⟩ := hA (by omega)
        refine ⟨x :: A, rfl, ?_, hne⟩
        rw [List.map_cons, hx, hAu]
        show _ = ((m :: r).take (b + 1)).flatMap opens
        rw [List.take_succ_cons, List.flatMap_cons, opens, if_pos h0]
        rfl
    · rw [if_neg h0] at hq
      by_cases h1 : m = 1 ∨ m = -1
      · rw [if_pos h1] at hq
        rw [if_pos h1] at hd
        obtain ⟨x, q', rfl, hx, hq'⟩ := List.map_eq_cons_iff.1 hq
        obtain ⟨y, q2, rfl, hy, hq2⟩ := List.map_eq_cons_iff.1 hq'
        replace hq2 : q2.map Lx.unp = nestT r (kw [41] :: rest) := hq2
        obtain ⟨ht, hk⟩ := unp_kw hx
        obtain ⟨ht2, hk2⟩ := unp_kw hy
        have hl : ¬ deep (m :: r) = (m :: r).length := by rw [deep, cost, if_pos h1, List.length_cons]; omega
        rw [prim_par _ x ht hk]
        rcases b with _ | b
        · exact ⟨_, rfl, fun h => absurd h hl⟩
        · show ∃ ts, enclosed (deeper b) (y :: q2) = .no 241 ts ∧ _
          have hnot : ∃ ts, not (deeper b) (y :: q2) = .no 241 ts := by
            rw [not, if_pos (has_eq ht2 (.inl hk2))]
            rcases b with _ | b
            · exact ⟨_, rfl⟩
            · obtain ⟨ts, hp, _⟩ := nest_no r b _ q2 hq2 (by omega)
              have hh := nest_head r (kw [41] :: rest)
              rw [← hq2, has_map, has_map] at hh
              refine ⟨ts, ?_⟩
              show (not (deeper b) q2).map (one 17) = _
              rw [no_not hh.1 hh.2 hp]; rfl
          obtain ⟨ts, hn⟩ := hnot
          exact ⟨ts, enclosed_no (no_expr hn), fun h => absurd h hl⟩
      · rw [if_neg h1] at hq
        rw [if_neg h1] at hd
        obtain ⟨x, q', rfl, hx, hq'⟩ := List.map_eq_cons_iff.1 hq
        obtain ⟨y, q2, rfl, hy, hq2⟩ := List.map_eq_cons_iff.1 hq'
        replace hq2 : q2.map Lx.unp = nestT r (kw [41] :: rest) := hq2
        obtain ⟨ht, hk⟩ := unp_kw hx
        obtain ⟨ht2, hk2⟩ := unp_kw hy
        rw [prim_max _ x ht hk]
        rcases b with _ | b
        · refine ⟨x :: y :: q2, rfl, fun _ => ⟨[], rfl, rfl, by simp⟩⟩
        · show ∃ ts, (argument (deeper b) (y :: q2)).map (one 25) = .no 241 ts ∧ _
          obtain ⟨ts, hp, hA⟩ := nest_no r b _ q2 hq2 (by omega)
          have hh := nest_head r (kw [41] :: rest)
          rw [← hq2, has_map, has_map] at hh
          have h2 : argument (deeper b) (y :: q2) = .no 241 ts := by
            rw [argument, want, if_pos (has_eq ht2 (.inr hk2))]
            show enclosed (deeper b) q2 = _
            exact enclosed_no (no_expr (no_not hh.1 hh.2 hp))
          refine ⟨ts, by rw [h2]; rfl, fun hl => ?_⟩
          rw [deep, cost, if_neg h1, List.length_cons] at hl
          obtain ⟨A, rfl, hAu, hne⟩ := hA (by omega)
          refine ⟨x :: y :: A, rfl, ?_, hne⟩
          rw [List.map_cons, List.map_cons, hx, hy, hAu]
          show _ = ((m :: r).take (b + 1)).flatMap opens
          rw [List.take_succ_cons, List.flatMap_cons, opens, if_neg h0, if_neg h1]
          rfl
end Go.Proofs.YtedamaccflhmfaaGreatDoor.Ps
