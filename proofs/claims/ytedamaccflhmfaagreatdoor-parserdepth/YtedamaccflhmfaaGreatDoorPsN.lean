/-
  Package parser: lists of whatever is read: how they lie, and one more behind.
-/
import Derived.Test.YtedamaccflhmfaaGreatDoorXPe
import Derived.Test.YtedamaccflhmfaaGreatDoorXM
namespace Go.Proofs.YtedamaccflhmfaaGreatDoor
open Go.RowKit

/-- How a thing lies in cells; S: the one slice in it. -/
structure Cod (α : Type) where
  cells : α → Value → List Value
  at' : (Nat → Prop) → World → α → Value → Prop
  keep : ∀ {P Q : Nat → Prop} {w w' : World} {a : α} {S : Value}, Kept P w w' → (∀ k, P k → k < w.heap.size → Q k) → at' P w a S → at' Q w' a S
def Cod.lies {α : Type} (C : Cod α) (P : Nat → Prop) (w : World) : List α → List Value → Prop
  | [], c => c = []
  | a :: r, c => ∃ S c', c = C.cells a S ++ c' ∧ C.at' P w a S ∧ C.lies P w r c'
theorem Cod.lies_snoc {α : Type} {C : Cod α} {P : Nat → Prop} {w : World} {a : α} {S : Value} (ha : C.at' P w a S) : ∀ {xs : List α} {c : List Value}, C.lies P w xs c → C.lies P w (xs ++ [a]) (c ++ C.cells a S)
  | [], c, h => by
    have e : c = [] := h
    subst e
    exact ⟨S, [], by simp, ha, rfl⟩
  | x :: r, c, h => by
    obtain ⟨S0, c0, e, h1, h2⟩ := h
    exact ⟨S0, c0 ++ C.cells a S, by rw [e, List.append_assoc], h1, C.lies_snoc ha h2⟩
theorem Cod.lies_keep {α : Type} {C : Cod α} {P Q : Nat → Prop} {w w' : World} (hk : Kept P w w') (hq : ∀ k, P k → k < w.heap.size → Q k) : ∀ {xs : List α} {c : List Value}, C.lies P w xs c → C.lies Q w' xs c
  | [], _, h => h
  | x :: r, c, h => by
    obtain ⟨S0, c0, e, h1, h2⟩ := h
    exact ⟨S0, c0, e, C.keep hk hq h1, C.lies_keep hk hq h2⟩
/-- A slice of them. -/
def listIs {α : Type} (C : Cod α) (lo : Nat) (w : World) (xs : List α) (V : Value) : Prop := ∃ a cap c, V = .slice a xs.length cap ∧ C.lies (Fr lo) w xs c ∧ (xs ≠ [] → ∃ g off, a = some ⟨g, off, none⟩ ∧ lo ≤ g ∧ ∀ i, i < c.length → w.cell? ⟨g, off + i, none⟩ = c[i]?)
/-- A list that the call owns and lengthens. -/
structure Own {α : Type} (C : Cod α) (T : TypeId) (size base : Nat) (w : World) (xs : List α) (g cap n : Nat) : Prop where
  own : ∃ c, w.ownsRow base T size (.slice (some ⟨g, 0, none⟩) n cap) n c ∧ C.lies (fun b => base ≤ b ∧ b ≠ g) w xs c
  len : n = xs.length
  ge : base ≤ g
theorem Steps.grown {B : Nat} {w w' : World} (h : Steps B w w') : w.grownBy w' (some B) := ⟨h.os, h.tape, h.output, h.size, fun k hk hn => h.block k hk (fun e => hn (e ▸ rfl))⟩
theorem Steps.by {B g : Nat} {a w w' : World} (h : Steps B a w) (k : w.grownBy w' (some g)) (hg : a.heap.size ≤ g) : Steps B a w' :=
  ⟨k.os.trans h.os, k.tape.trans h.tape, k.output.trans h.output, Nat.le_trans h.size k.size, fun i hi hn => (k.block i (Nat.lt_of_lt_of_le hi h.size) (fun e => by injection e with e; omega)).trans (h.block i hi hn)⟩
theorem Own.steps {α : Type} {C : Cod α} {T : TypeId} {size base : Nat} {w w' : World} {xs : List α} {g cap n B : Nat} (h : Own C T size base w xs g cap n) (hs : Steps B w w') (hB : B < base) : Own C T size base w' xs g cap n := by
  obtain ⟨⟨c, ho, hl⟩, hn, hg⟩ := h
  exact ⟨⟨c, ho.kept hs.grown (.inr (fun e => by injection e with e; have e2 : g = B := e; omega)), C.lies_keep (Kept.steps hs (fun h => by have := h.1; omega)) (fun _ h _ => h) hl⟩, hn, hg⟩
theorem Own.list {α : Type} {C : Cod α} {T : TypeId} {size base : Nat} {w : World} {xs : List α} {g cap n : Nat} (h : Own C T size base w xs g cap n) : listIs C base w xs (.slice (some ⟨g, 0, none⟩) n cap) := by
  obtain ⟨⟨c, ho, hl⟩, hn, hg⟩ := h
  refine ⟨_, cap, c, by rw [hn], C.lies_keep (Kept.refl _ _) (fun k hk _ => hk.1) hl, fun _ => ⟨g, 0, rfl, hg, fun i hi => ?_⟩⟩
  rw [Nat.zero_add]
  exact ho.cellAt i (by have := ho.1; omega)
/-- A list of one in a new block. -/
theorem Own.one {α : Type} {C : Cod α} {T : TypeId} {size base : Nat} {w : World} {a : α} {S : Value} {cs : Array Value} (hc : cs = (C.cells a S).toArray) (hs : cs.size = size) (hb : base ≤ w.heap.size) (ha : C.at' (Fr base) w a S) : Own C T size base (w.alloc (.cells cs T)) [a] w.heap.size 1 1 := by
  refine ⟨⟨cs.toList, World.ownsRow_lit w cs 1 hb (by decide) (by omega), S, [], by rw [hc]; simp, ?_, rfl⟩, rfl, hb⟩
  exact C.keep (Kept.of ((Below.refl _ _).alloc (Nat.le_refl _) _)) (fun k hk hl => ⟨hk, by omega⟩) ha
theorem wpList_el {α : Type} {C : Cod α} (T LT : TypeId) (size bytes : Nat) (z : Value) (hT : Tryz.prog.underlying LT = some (.slice T)) (hinfo : (Tryz.prog.info? T).map (fun i => (i.zero, i.size, i.bytes)) = some (some z, size, bytes)) (hzs : z.cells.size = size) (hsz : 0 < size) (hby : bytes ≤ 1000)
    {ops : Array Oper} {rest : List Oper} {o : Oper} {a : Act} {w : World} {Q : Exit → Act → World → Prop} (hg : o.guard = none) (s x : Operand) (hop : o.op = .call { callee := .builtin .append, args := #[s, x], argTypes := #[LT, LT] })
    (base : Nat) (xs : List α) (g cap n : Nat) (hs : a.eval s = .slice (some ⟨g, 0, none⟩) n cap) (hown : Own C T size base w xs g cap n)
    (b c : Nat) (el : α) (S : Value) (cs : Array Value) (hx : a.eval x = .slice (some ⟨b, 0, none⟩) 1 c) (hb : w.heap[b]? = some (.cells cs T (0, 0))) (hc : cs = (C.cells el S).toArray) (hcs : cs.size = size) (h1 : ∀ u ∈ cs, u.oneCell' = true) (ha : C.at' (fun b => base ≤ b ∧ b ≠ g) w el S) (hn : n ≤ 70000) (hbase : base ≤ w.heap.size)
    (h : ∀ g' cap' w', Own C T size base w' (xs ++ [el]) g' cap' (n + 1) → w.grownBy w' (some g) → wpList Tryz.prog ops Q rest (a.put o.dst (.slice (some ⟨g', 0, none⟩) (n + 1) cap')) w') : wpList Tryz.prog ops Q (o :: rest) a w := by
  obtain ⟨i0, hi, hz0, hz1, hz2⟩ := info_parts hinfo
  obtain ⟨⟨c0, ho, hl⟩, hl0, hg0⟩ := hown
  refine wpList_append_lies w hg s x LT hop base T i0 z size bytes hT hi hz0 hz1 hz2 hzs hsz _ _ c0 hs ho ⟨b, 0, none⟩ 1 c cs.toList hx (by simp; omega) (fun j u hj => ?_) (fun u hu => h1 u (by simpa using hu)) (by omega) (by unfold maxLen; omega) (by have : (n + 1) * bytes ≤ 70001 * 1000 := Nat.mul_le_mul (by omega) hby; omega) hbase _ rfl ?_
  · rw [show (⟨b, 0, none⟩ : Addr).add j = ⟨b, j, none⟩ from by unfold Addr.add; split <;> simp_all, Joins.cell_of_block hb j]
    simpa using hj
  · intro g' cap' w' h2 h3 h4 h5
    have hge : base ≤ g' := by
      rcases h4 with h4 | h4
      · injection h4 with h4; have e2 : g = g' := h4; omega
      · omega
    have hgg : g' = g ∨ w.heap.size ≤ g' := by
      rcases h4 with h4 | h4
      · injection h4 with h4; exact .inl (show g = g' from h4).symm
      · exact .inr (by omega)
    have hkk : Kept (fun b => base ≤ b ∧ b ≠ g) w w' := fun k hk hlt => h3.block k hlt (fun e => hk.2 (by injection e))
    have hqq : ∀ k, (base ≤ k ∧ k ≠ g) → k < w.heap.size → (base ≤ k ∧ k ≠ g') := fun k hk hlt => ⟨hk.1, by rcases hgg with e | e <;> omega⟩
    refine h g' cap' w' ⟨⟨c0 ++ cs.toList, h2, ?_⟩, by rw [List.length_append, hl0]; rfl, hge⟩ h3
    have := C.lies_snoc (C.keep hkk hqq ha) (C.lies_keep hkk hqq hl)
    rw [hc]
    simpa using this

theorem Own.lt {α : Type} {C : Cod α} {T : TypeId} {size base : Nat} {w : World} {xs : List α} {g cap n : Nat} (h : Own C T size base w xs g cap n) : g < w.heap.size := by
  obtain ⟨⟨c, ho, _⟩, _⟩ := h
  rcases ho.2 with ⟨e, _⟩ | ⟨g1, cap1, cur, e, _, hh, _⟩
  · cases e
  · simp only [Value.slice.injEq, Option.some.injEq, Addr.mk.injEq] at e
    rw [e.1.1]
    exact (Array.getElem?_eq_some_iff.1 hh).1
theorem Rd.by {w w' : World} {B : Nat} {l : List Lx.Tk} {p len d g : Nat} (h : Rd w B l p len d) (hG : w.grownBy w' (some g)) (hg : B < g) : Rd w' B l p len d :=
  h.keep ⟨hG.os, hG.tape, hG.output, hG.size, fun k hk => hG.block k (by have := h.lt; omega) (fun e => by injection e with e; omega)⟩
theorem room_ok {l : List Lx.Tk} {q q' n most : Nat} {u : Unit} (h : (if Ps.room n most (l.drop q) then Ps.R.ok () (l.drop q) else .no 3 (l.drop q)) = .ok u (l.drop q')) : Ps.room n most (l.drop q) = true ∧ l.drop q' = l.drop q := by
  split at h
  · rename_i hr
    injection h with _ h2
    exact ⟨hr, h2.symm⟩
  · cases h
theorem room_no {l : List Lx.Tk} {q n most : Nat} {c : Int} {ts : List Lx.Tk} (h : (if Ps.room n most (l.drop q) then Ps.R.ok () (l.drop q) else .no 3 (l.drop q)) = .no c ts) : Ps.room n most (l.drop q) = false ∧ c = 3 ∧ ts = l.drop q := by
  split at h
  · cases h
  · rename_i hr
    injection h with h1 h2
    exact ⟨by simpa using hr, h1.symm, h2.symm⟩
theorem more_stop {α : Type} {most : Nat} {r1 : List Lx.Tk → Ps.R α} {ts : List Lx.Tk} (h : Ps.has [44] ts = false) (xs : List α) : ∀ f, Ps.more most r1 f xs ts = .ok xs ts
  | 0 => rfl
  | f + 1 => by rw [Ps.more, if_neg (by rw [h]; decide)]
theorem more_go {α : Type} {most : Nat} {r1 : List Lx.Tk → Ps.R α} {l : List Lx.Tk} {q : Nat} {xs : List α} {res : Ps.R (List α)} (h : Ps.has [44] (l.drop q) = true) : (∃ f, l.length - q ≤ f ∧ Ps.more most r1 f xs (l.drop q) = res) → ∃ f, l.length - (q + 1) ≤ f ∧ (if Ps.room xs.length most (l.drop (q + 1)) then (r1 (l.drop (q + 1))).bind (fun a ts => Ps.more most r1 f (xs ++ [a]) ts) else .no 3 (l.drop (q + 1))) = res := by
  rintro ⟨f, hf, e⟩
  have hlt := has_lt h
  match f, hf with
  | 0, hf => omega
  | f + 1, hf =>
    rw [Ps.more, if_pos h] at e
    simp only [List.tail_drop] at e
    exact ⟨f, by omega, e⟩

/-! ### What is listed -/
def exCod : Cod Ps.Ex := ⟨exC, ExAt, fun hk hq h => ExAt.keep hk hq _ _ h⟩
def strCod : Cod (List UInt8) := ⟨fun s _ => [.string ⟨s.toArray⟩], fun _ _ _ _ => True, fun _ _ _ => trivial⟩
def rowCod : Cod (List Ps.Ex) := ⟨fun _ S => [S], fun P w l S => ExsIn P w l S, fun hk hq h => ExsIn.keep h hk hq⟩
def itemCod : Cod Ps.Item := ⟨fun i S => .bool i.all :: (exC i.x S ++ [.string ⟨i.as'.toArray⟩]), fun P w i S => ExAt P w i.x S, fun hk hq h => ExAt.keep hk hq _ _ h⟩
def srcCod : Cod Ps.Src := ⟨fun s S => .string ⟨s.tb.toArray⟩ :: .string ⟨s.as'.toArray⟩ :: exC s.on' S, fun P w s S => ExAt P w s.on' S, fun hk hq h => ExAt.keep hk hq _ _ h⟩
def ordCod : Cod Ps.Ord := ⟨fun o S => exC o.x S ++ [.bool o.desc], fun P w o S => ExAt P w o.x S, fun hk hq h => ExAt.keep hk hq _ _ h⟩
def colCod : Cod Ps.Col := ⟨fun c _ => [.string ⟨c.nm.toArray⟩, .int .u8 c.kd, .bool c.nn], fun _ _ _ _ => True, fun _ _ _ => trivial⟩
def asgCod : Cod Ps.Asg := ⟨fun a S => .string ⟨a.nm.toArray⟩ :: (exC a.x S ++ [.int .i64 a.slot]), fun P w a S => ExAt P w a.x S, fun hk hq h => ExAt.keep hk hq _ _ h⟩
end Go.Proofs.YtedamaccflhmfaaGreatDoor
