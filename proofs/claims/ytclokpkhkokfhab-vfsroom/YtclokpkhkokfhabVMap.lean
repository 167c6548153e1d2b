/-
  The two kinds of maps that a file system has, as the walks meet them: names with numbers, and numbers with pointers to files.
-/
import Derived.Test.YtclokpkhkokfhabVf
import Derived.Test.YtclokpkhkokfhabKBytes
import Derived.Maps.OwnSet
import Derived.Maps.OwnOps
namespace Go.Proofs.Ytclokpkhkokfhab
open Go.RowKit Go.Maps Go.MapKept Go.ChangeMaps

theorem lawS : Keyed Try.prog 9 := string_keyed Try.underlying9
theorem lawI : Keyed Try.prog 3 := int_keyed Try.underlying3
theorem zeroI (w : World) : (zeroValue 3).run Try.prog w = .ok (.int .i64 0) w := by kernel_rfl
theorem zeroP (w : World) : (zeroValue 68).run Try.prog w = .ok (.pointer none) w := by kernel_rfl

/-- A text's value. -/
abbrev str (k : Vf.Bs) : Value := .string ⟨k.toArray⟩
theorem str_of (s : ByteArray) : Value.string s = str s.data.toList := by simp
theorem keyS (k : Vf.Bs) (h : k.length ≤ 1000000) : keyOf Try.prog 9 (str k) = some (.string k) := by
  have := WideMaps.keyOf_string_mk (P := Try.prog) (k := 9) Try.underlying9 (s := ⟨k.toArray⟩) (by show k.toArray.size ≤ maxLen; simp [maxLen]; omega)
  simpa using this
theorem wf64 {n : Nat} (h : n ≤ 1000000000000) : (Lit.int .i64 (n : Int)).wf = true := WalkArith.wf_i64 (by omega)
theorem keyI (n : Nat) (h : n ≤ 1000000000000) : keyOf Try.prog 3 (.int .i64 (n : Int)) = some (.int .i64 (n : Int)) := keyOf_int_mk Try.underlying3 (wf64 h)

theorem keyLitS (k : Vf.Bs) : WideAt.IsKeyLit (.string k) := by trivial
theorem keyLitI (n : Int) : WideAt.IsKeyLit (.int .i64 n) := by trivial

namespace Vf
theorem look_del (m : Nm) (k j : Bs) : look (del m k) j = if j = k then none else look m j := by
  induction m with
  | nil => simp [del, look]
  | cons p r ih =>
    obtain ⟨a, n⟩ := p
    by_cases ha : a = k
    · subst ha
      have : del ((a, n) :: r) a = del r a := by simp [del]
      rw [this, ih]
      by_cases hj : j = a
      · simp [hj]
      · have hj' : ¬ a = j := fun e => hj e.symm
        simp [hj, look, hj']
    · have : del ((a, n) :: r) k = (a, n) :: del r k := by simp [del, ha]
      rw [this]
      show (if a = j then some n else look (del r k) j) = _
      rw [ih]
      by_cases hj : a = j
      · subst hj
        simp [ha, look]
      · simp [look, hj]
theorem look_put (m : Nm) (k : Bs) (n : Nat) (j : Bs) : look (put m k n) j = if j = k then some n else look m j := by
  show (if k = j then some n else look (del m k) j) = _
  rw [look_del]
  by_cases h : j = k
  · simp [h]
  · have h' : ¬ k = j := fun e => h e.symm
    simp [h, h']
theorem look_none (m : Nm) (k : Bs) : look m k = none ↔ k ∉ m.map (·.1) := by
  induction m with
  | nil => simp [look]
  | cons p r ih =>
    obtain ⟨a, n⟩ := p
    by_cases h : a = k
    · simp [look, h]
    · have h' : ¬ k = a := fun e => h e.symm
      simp [look, h, h'] at ih ⊢
      exact ih
theorem look_mem {m : Nm} {k : Bs} {n : Nat} (h : look m k = some n) : (k, n) ∈ m := by
  induction m with
  | nil => simp [look] at h
  | cons p r ih =>
    obtain ⟨a, x⟩ := p
    by_cases ha : a = k
    · subst ha
      simp [look] at h
      subst h
      simp
    · simp [look, ha] at h
      exact List.mem_cons_of_mem _ (ih h)
theorem mem_look {m : Nm} (hd : (m.map (·.1)).Nodup) {k : Bs} {n : Nat} (h : (k, n) ∈ m) : look m k = some n := by
  induction m with
  | nil => simp at h
  | cons p r ih =>
    obtain ⟨a, x⟩ := p
    simp only [List.map_cons, List.nodup_cons] at hd
    rcases List.mem_cons.1 h with e | h'
    · cases e; simp [look]
    · have : a ≠ k := fun e => hd.1 (by subst e; exact List.mem_map_of_mem (f := (·.1)) h')
      simp [look, this]
      exact ih hd.2 h'
theorem del_sub (m : Nm) (k : Bs) : (del m k).Sublist m := List.filter_sublist
theorem del_nodup {m : Nm} (h : (m.map (·.1)).Nodup) (k : Bs) : ((del m k).map (·.1)).Nodup := h.sublist ((del_sub m k).map _)
theorem put_nodup {m : Nm} (h : (m.map (·.1)).Nodup) (k : Bs) (n : Nat) : ((put m k n).map (·.1)).Nodup := by
  refine List.nodup_cons.2 ⟨?_, del_nodup h k⟩
  have := (look_none (del m k) k).1 (by rw [look_del]; simp)
  exact this
theorem del_length {m : Nm} (h : (m.map (·.1)).Nodup) (k : Bs) : (del m k).length + (if (look m k).isSome then 1 else 0) = m.length := by
  induction m with
  | nil => simp [del, look]
  | cons p r ih =>
    obtain ⟨a, x⟩ := p
    simp only [List.map_cons, List.nodup_cons] at h
    by_cases ha : a = k
    · subst ha
      have e1 : del ((a, x) :: r) a = del r a := by simp [del]
      have e2 := ih h.2
      have e3 : look r a = none := (look_none r a).2 h.1
      rw [e3] at e2
      rw [e1]
      simp [look] at e2 ⊢
      exact e2
    · have e1 : del ((a, x) :: r) k = (a, x) :: del r k := by simp [del, ha]
      have e2 := ih h.2
      rw [e1]
      simp [look, ha]
      omega
end Vf

/-- A datum that tells the names and their numbers. -/
structure NmOf (D : DataW Unit) (m : Vf.Nm) : Prop where
  hs : ∀ k, Maps.has D (.string k) = (Vf.look m k).isSome
  at' : ∀ k n, Vf.look m k = some n → ∀ z, D.atKey (.string k) z = .lit (.int .i64 (n : Int))
  size : Maps.size D = m.length
  nodup : (m.map (·.1)).Nodup

theorem NmOf.num {D : DataW Unit} {m : Vf.Nm} (h : NmOf D m) (k : Vf.Bs) : D.atKey (.string k) (.lit (.int .i64 0)) = .lit (.int .i64 (Vf.num m k : Int)) := by
  unfold Vf.num
  cases e : Vf.look m k with
  | none =>
    have := h.hs k
    rw [e] at this
    exact Maps.atKey_of_not_has this _
  | some n => exact h.at' k n e _

theorem lit_ne {k j : Vf.Bs} (h : j ≠ k) : (Lit.string j) ≠ .string k := fun e => h (by cases e; rfl)

theorem NmOf.put {D : DataW Unit} {m : Vf.Nm} (h : NmOf D m) (hm : IsMap D) (ht : Tidy D) (k : Vf.Bs) (n : Nat) : NmOf (D.put (.string k) (.lit (.int .i64 (n : Int)))) (Vf.put m k n) := by
  refine ⟨fun j => ?_, fun j c hj z => ?_, ?_, Vf.put_nodup h.nodup k n⟩
  · rw [Vf.look_put]
    by_cases e : j = k
    · subst e; simp [Maps.has_put_same hm (keyLitS j)]
    · simp [e, Maps.has_put_other (lit_ne e), h.hs j]
  · rw [Vf.look_put] at hj
    by_cases e : j = k
    · subst e
      simp at hj
      subst hj
      exact Maps.atKey_put_same hm (keyLitS j) _ _
    · simp [e] at hj
      rw [Maps.atKey_put_other (lit_ne e)]
      exact h.at' j c hj z
  · rw [Maps.size_put ht, h.hs k, h.size]
    have := Vf.del_length h.nodup k
    show _ = (Vf.del m k).length + 1
    cases e : (Vf.look m k).isSome <;> simp [e] at this ⊢ <;> omega
theorem NmOf.del {D : DataW Unit} {m : Vf.Nm} (h : NmOf D m) (ht : Tidy D) (k : Vf.Bs) : NmOf (D.del (.string k)) (Vf.del m k) := by
  refine ⟨fun j => ?_, fun j c hj z => ?_, ?_, Vf.del_nodup h.nodup k⟩
  · rw [Vf.look_del]
    by_cases e : j = k
    · subst e; simp [Maps.has_del_same]
    · simp [e, Maps.has_del_other (lit_ne e), h.hs j]
  · rw [Vf.look_del] at hj
    by_cases e : j = k
    · simp [e] at hj
    · simp [e] at hj
      rw [Maps.atKey_del_other (lit_ne e)]
      exact h.at' j c hj z
  · have e1 := Maps.size_del (D := D) (k := .string k) ht
    have e2 := Vf.del_length h.nodup k
    rw [h.hs k, h.size] at e1
    omega

theorem ownsMap_tight {P : Program} {k : TypeId} {R : Value → Option (DataW Unit × List MemPlace)} {w : World} {b n : Nat} {D : DataW Unit} (h : w.ownsMap P k R b n D) : w.ownsMap P k R b (Maps.size D) D := by
  obtain ⟨es, clock, hb, F, hs, rfl⟩ := h
  exact ⟨es, clock, hb, F, by simp [Maps.size, length_sorted], rfl⟩

/-- Block b is a map of these names. -/
def NamesAt (w : World) (b : Nat) (m : Vf.Nm) : Prop := ∃ D : DataW Unit, w.ownsMap Try.prog 9 (plainElem Try.prog 3) b m.length D ∧ NmOf D m

theorem NamesAt.lt {w : World} {b : Nat} {m : Vf.Nm} (h : NamesAt w b m) : b < w.heap.size := by obtain ⟨D, h, _⟩ := h; exact h.lt
theorem NamesAt.same {w w' : World} {b : Nat} {m : Vf.Nm} (h : NamesAt w b m) (e : w'.heap[b]? = w.heap[b]?) : NamesAt w' b m := by
  obtain ⟨D, ⟨es, clock, hb, r⟩, hn⟩ := h
  exact ⟨D, ⟨es, clock, e.trans hb, r⟩, hn⟩
theorem NamesAt.nodup {w : World} {b : Nat} {m : Vf.Nm} (h : NamesAt w b m) : (m.map (·.1)).Nodup := by obtain ⟨D, _, h⟩ := h; exact h.nodup

/-- How a pointer to a file is told apart. -/
def fileElem : Value → Option (DataW Unit × List MemPlace)
  | .pointer none => some (.lit (.int .i64 (-1)), [])
  | .pointer (some ⟨g, 0, none⟩) => some (.lit (.int .i64 (g : Int)), [])
  | _ => none
theorem fileElem_inv {v : Value} {g : Nat} {ps : List MemPlace} (h : fileElem v = some (.lit (.int .i64 (g : Int)), ps)) : v = .pointer (some ⟨g, 0, none⟩) := by
  unfold fileElem at h
  split at h
  · simp at h
  · rename_i g'
    simp at h
    have e : g' = g := by omega
    rw [e]
  · cases h
theorem fileElem_none {v : Value} {ps : List MemPlace} (h : fileElem v = some (.lit (.int .i64 (-1)), ps)) : v = .pointer none := by
  unfold fileElem at h
  split at h
  · rfl
  · simp at h
  · cases h

/-- A datum that tells which block a file's number has. -/
structure FmOf (D : DataW Unit) (fs : Nat → Option Nat) : Prop where
  hs : ∀ n : Nat, Maps.has D (.int .i64 (n : Int)) = (fs n).isSome
  at' : ∀ n g, fs n = some g → ∀ z, D.atKey (.int .i64 (n : Int)) z = .lit (.int .i64 (g : Int))

def ptr (x : Option Nat) : Value := match x with | none => .pointer none | some g => .pointer (some ⟨g, 0, none⟩)
def setG (fs : Nat → Option Nat) (n : Nat) (x : Option Nat) : Nat → Option Nat := fun k => if k = n then x else fs k

theorem int_ne {k j : Nat} (h : j ≠ k) : (Lit.int .i64 (j : Int)) ≠ .int .i64 (k : Int) := fun e => h (by injection e; omega)
theorem FmOf.put {D : DataW Unit} {fs : Nat → Option Nat} (h : FmOf D fs) (hm : IsMap D) (n g : Nat) : FmOf (D.put (.int .i64 (n : Int)) (.lit (.int .i64 (g : Int)))) (setG fs n (some g)) := by
  refine ⟨fun j => ?_, fun j c hj z => ?_⟩
  · by_cases e : j = n
    · subst e; simp [setG, Maps.has_put_same hm (keyLitI _)]
    · simp [setG, e, Maps.has_put_other (int_ne e), h.hs j]
  · by_cases e : j = n
    · subst e
      simp [setG] at hj
      subst hj
      exact Maps.atKey_put_same hm (keyLitI _) _ _
    · simp [setG, e] at hj
      rw [Maps.atKey_put_other (int_ne e)]
      exact h.at' j c hj z
theorem FmOf.del {D : DataW Unit} {fs : Nat → Option Nat} (h : FmOf D fs) (n : Nat) : FmOf (D.del (.int .i64 (n : Int))) (setG fs n none) := by
  refine ⟨fun j => ?_, fun j c hj z => ?_⟩
  · by_cases e : j = n
    · subst e; simp [setG, Maps.has_del_same]
    · simp [setG, e, Maps.has_del_other (int_ne e), h.hs j]
  · by_cases e : j = n
    · simp [setG, e] at hj
    · simp [setG, e] at hj
      rw [Maps.atKey_del_other (int_ne e)]
      exact h.at' j c hj z

/-- Block b is a map of these files, of at most N. -/
def PtrsAt (w : World) (b N : Nat) (fs : Nat → Option Nat) : Prop := ∃ D : DataW Unit, w.ownsMap Try.prog 3 fileElem b N D ∧ FmOf D fs

theorem PtrsAt.lt {w : World} {b N : Nat} {fs : Nat → Option Nat} (h : PtrsAt w b N fs) : b < w.heap.size := by obtain ⟨D, h, _⟩ := h; exact h.lt
theorem PtrsAt.mono {w : World} {b N N' : Nat} {fs : Nat → Option Nat} (h : PtrsAt w b N fs) (hN : N ≤ N') : PtrsAt w b N' fs := by obtain ⟨D, h, h'⟩ := h; exact ⟨D, h.mono hN, h'⟩
theorem PtrsAt.same {w w' : World} {b N : Nat} {fs : Nat → Option Nat} (h : PtrsAt w b N fs) (e : w'.heap[b]? = w.heap[b]?) : PtrsAt w' b N fs := by
  obtain ⟨D, ⟨es, clock, hb, r⟩, hn⟩ := h
  exact ⟨D, ⟨es, clock, e.trans hb, r⟩, hn⟩

/-! ### what the operations do -/
theorem NamesAt.look {w : World} {b : Nat} {m : Vf.Nm} (h : NamesAt w b m) (k : Vf.Bs) (hk : k.length ≤ 1000000) : (Instr.lookup 45 (.map (some b)) (str k) false).run Try.prog w = .ok (.int .i64 (Vf.num m k : Int)) w := by
  obtain ⟨D, h, hn⟩ := h
  obtain ⟨c, hrun, hat, _⟩ := h.lookup_int lawS Try.underlying45 Try.underlying3 (zeroI _) (keyS k hk)
  rw [hn.num k] at hat
  simp only [DataW.lit.injEq, Lit.int.injEq, true_and] at hat
  rw [hrun, hat]
theorem NamesAt.look_ok {w : World} {b : Nat} {m : Vf.Nm} (h : NamesAt w b m) (k : Vf.Bs) (hk : k.length ≤ 1000000) : (Instr.lookup 45 (.map (some b)) (str k) true).run Try.prog w = .ok (.tuple #[.int .i64 (Vf.num m k : Int), .bool (Vf.look m k).isSome]) w := by
  obtain ⟨D, h, hn⟩ := h
  obtain ⟨v, ps, hrun, hv⟩ := h.look_ok lawS Try.underlying45 (zeroI _) (plainElem_int Try.underlying3 (by decide)) (keyS k hk)
  rw [hn.num k] at hv
  obtain ⟨c, rfl, hc, _⟩ := plainElem_int_inv Try.underlying3 hv
  simp only [Prod.mk.injEq, DataW.lit.injEq, Lit.int.injEq, true_and] at hc
  rw [hrun, hn.hs k, hc.1]
theorem NamesAt.put {w : World} {b : Nat} {m : Vf.Nm} (h : NamesAt w b m) (k : Vf.Bs) (hk : k.length ≤ 1000000) (n : Nat) (hn : n ≤ 1000000000000) (hm : m.length ≤ 1000000000000) :
    ∃ w', (Instr.mapUpdate 45 (.map (some b)) (str k) (.int .i64 (n : Int))).run Try.prog w = .ok () w' ∧ NamesAt w' b (Vf.put m k n) ∧ w.grownBy w' (some b) ∧ w'.heap.size = w.heap.size := by
  obtain ⟨D, h, hD⟩ := h
  obtain ⟨w', hrun, ho, ht⟩ := h.store lawS Try.underlying45 (by unfold maxLen; omega) (keyS k hk) (plainElem_int Try.underlying3 (wf64 hn))
  have hD' := hD.put h.isMap (h.tidy lawS) k n
  have ho' := ownsMap_tight ho
  rw [hD'.size] at ho'
  refine ⟨w', hrun, ⟨_, ho', hD'⟩, ht.grown, ?_⟩
  obtain ⟨es, clock, es', clock', _, rfl⟩ := ht
  simp [setBlock]
theorem NamesAt.del {w : World} {b : Nat} {m : Vf.Nm} (h : NamesAt w b m) (k : Vf.Bs) (hk : k.length ≤ 1000000) (ty : TypeId) :
    ∃ w', (Builtin.delete_ #[45, 9] ty #[.map (some b), str k]).run Try.prog w = .ok (.tuple #[]) w' ∧ NamesAt w' b (Vf.del m k) ∧ w.grownBy w' (some b) ∧ w'.heap.size = w.heap.size := by
  obtain ⟨D, h, hD⟩ := h
  obtain ⟨w', hrun, ho, ht⟩ := h.drop lawS Try.underlying45 (keyS k hk) ty
  have hD' := hD.del (h.tidy lawS) k
  have ho' := ownsMap_tight ho
  rw [hD'.size] at ho'
  refine ⟨w', hrun, ⟨_, ho', hD'⟩, ht.grown, ?_⟩
  obtain ⟨es, clock, es', clock', _, rfl⟩ := ht
  simp [setBlock]

theorem PtrsAt.look {w : World} {b N : Nat} {fs : Nat → Option Nat} (h : PtrsAt w b N fs) (n : Nat) (hn : n ≤ 1000000000000) : (Instr.lookup 44 (.map (some b)) (.int .i64 (n : Int)) false).run Try.prog w = .ok (ptr (fs n)) w := by
  obtain ⟨D, h, hD⟩ := h
  obtain ⟨v, ps, hrun, hv⟩ := h.lookup lawI Try.underlying44 (zeroP _) (zd := .lit (.int .i64 (-1))) (zp := []) rfl (keyI n hn)
  rw [hrun]
  cases e : fs n with
  | none =>
    have h0 : Maps.has D (.int .i64 (n : Int)) = false := by rw [hD.hs n, e]; rfl
    rw [Maps.atKey_of_not_has h0] at hv
    rw [fileElem_none hv]; rfl
  | some g =>
    rw [hD.at' n g e] at hv
    rw [fileElem_inv hv]; rfl
theorem PtrsAt.put {w : World} {b N : Nat} {fs : Nat → Option Nat} (h : PtrsAt w b N fs) (n : Nat) (hn : n ≤ 1000000000000) (g : Nat) (hN : N ≤ 1000000000000) :
    ∃ w', (Instr.mapUpdate 44 (.map (some b)) (.int .i64 (n : Int)) (.pointer (some ⟨g, 0, none⟩))).run Try.prog w = .ok () w' ∧ PtrsAt w' b (N + 1) (setG fs n (some g)) ∧ w.grownBy w' (some b) ∧ w'.heap.size = w.heap.size := by
  obtain ⟨D, h, hD⟩ := h
  obtain ⟨w', hrun, ho, ht⟩ := h.store lawI Try.underlying44 (by unfold maxLen; omega) (keyI n hn) (val := .pointer (some ⟨g, 0, none⟩)) (d := .lit (.int .i64 (g : Int))) (ps := []) rfl
  refine ⟨w', hrun, ⟨_, ho, hD.put h.isMap n g⟩, ht.grown, ?_⟩
  obtain ⟨es, clock, es', clock', _, rfl⟩ := ht
  simp [setBlock]
theorem PtrsAt.del {w : World} {b N : Nat} {fs : Nat → Option Nat} (h : PtrsAt w b N fs) (n : Nat) (hn : n ≤ 1000000000000) (ty : TypeId) :
    ∃ w', (Builtin.delete_ #[44, 3] ty #[.map (some b), .int .i64 (n : Int)]).run Try.prog w = .ok (.tuple #[]) w' ∧ PtrsAt w' b N (setG fs n none) ∧ w.grownBy w' (some b) ∧ w'.heap.size = w.heap.size := by
  obtain ⟨D, h, hD⟩ := h
  obtain ⟨w', hrun, ho, ht⟩ := h.drop lawI Try.underlying44 (keyI n hn) ty
  refine ⟨w', hrun, ⟨_, ho, hD.del n⟩, ht.grown, ?_⟩
  obtain ⟨es, clock, es', clock', _, rfl⟩ := ht
  simp [setBlock]

theorem NamesAt.made (w : World) : NamesAt (w.alloc (.map #[] 0)) w.heap.size [] :=
  ⟨_, World.ownsMap_made w _ _ _, ⟨fun k => by simp [Vf.look, Maps.has], fun k n h => by simp [Vf.look] at h, rfl, List.nodup_nil⟩⟩
theorem PtrsAt.made (w : World) : PtrsAt (w.alloc (.map #[] 0)) w.heap.size 0 (fun _ => none) :=
  ⟨_, World.ownsMap_made w _ _ _, ⟨fun k => by simp [Maps.has], fun k n h => by simp at h⟩⟩

/-! ### .. and as a walk meets them -/
section
variable (w : World) {ops : Array Oper} {rest : List Oper} {o : Oper} {a : Act} {Q : Exit → Act → World → Prop}
theorem wpList_names_look (hg : o.guard = none) (m x : Operand) (hop : o.op = Op.lookup 45 m x false) (b : Nat) (M : Vf.Nm) (k : Vf.Bs) (hm : a.eval m = .map (some b)) (hx : a.eval x = str k) (h : NamesAt w b M) (hk : k.length ≤ 1000000)
    (hK : wpList Try.prog ops Q rest (a.put o.dst (.int .i64 (Vf.num M k : Int))) w) : wpList Try.prog ops Q (o :: rest) a w := by
  refine wpList_plain hg fun K' hK' => ?_
  unfold Oper.wp
  simp [execOp, hop, hm, hx, h.look k hk, Result.andThen]
  exact hK' _ _ hK
theorem wpList_names_look_ok (hg : o.guard = none) (m x : Operand) (hop : o.op = Op.lookup 45 m x true) (b : Nat) (M : Vf.Nm) (k : Vf.Bs) (hm : a.eval m = .map (some b)) (hx : a.eval x = str k) (h : NamesAt w b M) (hk : k.length ≤ 1000000)
    (hK : wpList Try.prog ops Q rest (a.put o.dst (.tuple #[.int .i64 (Vf.num M k : Int), .bool (Vf.look M k).isSome])) w) : wpList Try.prog ops Q (o :: rest) a w := by
  refine wpList_plain hg fun K' hK' => ?_
  unfold Oper.wp
  simp [execOp, hop, hm, hx, h.look_ok k hk, Result.andThen]
  exact hK' _ _ hK
theorem wpList_names_put (hg : o.guard = none) (m x v : Operand) (hop : o.op = Op.mapUpdate 45 m x v) (b : Nat) (M : Vf.Nm) (k : Vf.Bs) (n : Nat) (hm : a.eval m = .map (some b)) (hx : a.eval x = str k) (hv : a.eval v = .int .i64 (n : Int)) (h : NamesAt w b M) (hk : k.length ≤ 1000000) (hn : n ≤ 1000000000000) (hM : M.length ≤ 1000000000000)
    (hK : ∀ w', NamesAt w' b (Vf.put M k n) → w.grownBy w' (some b) → w'.heap.size = w.heap.size → wpList Try.prog ops Q rest (a.put o.dst undef) w') : wpList Try.prog ops Q (o :: rest) a w := by
  refine wpList_plain hg fun K' hK' => ?_
  obtain ⟨w', hrun, r1, r2, r3⟩ := h.put k hk n hn hM
  unfold Oper.wp
  simp [execOp, hop, hm, hx, hv, hrun, Result.andThen]
  exact hK' _ _ (hK w' r1 r2 r3)
theorem wpList_names_del (hg : o.guard = none) (m x : Operand) (hop : o.op = Op.call { callee := Callee.builtin Builtin.delete, args := #[m, x], argTypes := #[45, 9] }) (b : Nat) (M : Vf.Nm) (k : Vf.Bs) (hm : a.eval m = .map (some b)) (hx : a.eval x = str k) (h : NamesAt w b M) (hk : k.length ≤ 1000000)
    (hK : ∀ w', NamesAt w' b (Vf.del M k) → w.grownBy w' (some b) → w'.heap.size = w.heap.size → wpList Try.prog ops Q rest (a.put o.dst (.tuple #[])) w') : wpList Try.prog ops Q (o :: rest) a w := by
  refine wpList_plain hg fun K' hK' => ?_
  obtain ⟨w', hrun, r1, r2, r3⟩ := h.del k hk o.type
  unfold Oper.wp
  simp [execOp, hop, resolve, invoke, builtin, hm, hx, hrun, Result.andThen]
  exact hK' _ _ (hK w' r1 r2 r3)
theorem wpList_ptrs_look (hg : o.guard = none) (m x : Operand) (hop : o.op = Op.lookup 44 m x false) (b N : Nat) (fs : Nat → Option Nat) (n : Nat) (hm : a.eval m = .map (some b)) (hx : a.eval x = .int .i64 (n : Int)) (h : PtrsAt w b N fs) (hn : n ≤ 1000000000000)
    (hK : wpList Try.prog ops Q rest (a.put o.dst (ptr (fs n))) w) : wpList Try.prog ops Q (o :: rest) a w := by
  refine wpList_plain hg fun K' hK' => ?_
  unfold Oper.wp
  simp [execOp, hop, hm, hx, h.look n hn, Result.andThen]
  exact hK' _ _ hK
theorem wpList_ptrs_put (hg : o.guard = none) (m x v : Operand) (hop : o.op = Op.mapUpdate 44 m x v) (b N : Nat) (fs : Nat → Option Nat) (n g : Nat) (hm : a.eval m = .map (some b)) (hx : a.eval x = .int .i64 (n : Int)) (hv : a.eval v = .pointer (some ⟨g, 0, none⟩)) (h : PtrsAt w b N fs) (hn : n ≤ 1000000000000) (hN : N ≤ 1000000000000)
    (hK : ∀ w', PtrsAt w' b (N + 1) (setG fs n (some g)) → w.grownBy w' (some b) → w'.heap.size = w.heap.size → wpList Try.prog ops Q rest (a.put o.dst undef) w') : wpList Try.prog ops Q (o :: rest) a w := by
  refine wpList_plain hg fun K' hK' => ?_
  obtain ⟨w', hrun, r1, r2, r3⟩ := h.put n hn g hN
  unfold Oper.wp
  simp [execOp, hop, hm, hx, hv, hrun, Result.andThen]
  exact hK' _ _ (hK w' r1 r2 r3)
theorem wpList_ptrs_del (hg : o.guard = none) (m x : Operand) (hop : o.op = Op.call { callee := Callee.builtin Builtin.delete, args := #[m, x], argTypes := #[44, 3] }) (b N : Nat) (fs : Nat → Option Nat) (n : Nat) (hm : a.eval m = .map (some b)) (hx : a.eval x = .int .i64 (n : Int)) (h : PtrsAt w b N fs) (hn : n ≤ 1000000000000)
    (hK : ∀ w', PtrsAt w' b N (setG fs n none) → w.grownBy w' (some b) → w'.heap.size = w.heap.size → wpList Try.prog ops Q rest (a.put o.dst (.tuple #[])) w') : wpList Try.prog ops Q (o :: rest) a w := by
  refine wpList_plain hg fun K' hK' => ?_
  obtain ⟨w', hrun, r1, r2, r3⟩ := h.del n hn o.type
  unfold Oper.wp
  simp [execOp, hop, resolve, invoke, builtin, hm, hx, hrun, Result.andThen]
  exact hK' _ _ (hK w' r1 r2 r3)
end
end Go.Proofs.Ytclokpkhkokfhab
