/-
  Bytes that a call owns and lengthens.
-/
import Derived.Test.YtjddhakaebkkeaaDoorUBase
import Derived.Lib.UnsafeStr
import Derived.Lib.BufferWrite
namespace Go.Proofs.YtjddhakaebkkeaaDoor
open Go.RowKit

theorem byteInfo : (Tryd.prog.info? 5).map (fun i => (i.zero, i.size, i.bytes)) = some (some (.int .u8 0), 1, 1) := by kernel_rfl
theorem byteCells_get (l : List UInt8) (j : Nat) (h : j < l.length) : (Lib.byteCells l)[j]? = some (.int .u8 ((l[j]).toNat : Int)) := by
  simp [Lib.byteCells, h]

/-- Bytes that a call owns: new memory above base, behind w0. -/
structure Bys (base : Nat) (w0 w : World) (v : Value) (l : List UInt8) : Prop where
  own : w.ownsRow base 5 1 v l.length (Lib.byteCells l)
  bel : Below base w0 w
  low : base ≤ w.heap.size

theorem Bys.nil {base : Nat} {w0 w : World} (b : Below base w0 w) (h : base ≤ w.heap.size) : Bys base w0 w (.slice none 0 0) [] := ⟨World.ownsRow_nil _ _ _ _, b, h⟩
theorem Bys.later {base : Nat} {w0 w w' : World} {v : Value} {l : List UInt8} (h : Bys base w0 w v l) (b : Below w.heap.size w w') : Bys base w0 w' v l :=
  ⟨h.own.kept (row := none) ⟨b.os, b.tape, b.output, b.size, fun k hk _ => b.block k hk⟩ (by cases v.ownBlock with | none => exact .inl rfl | some _ => exact .inr (by simp)), h.bel.trans (b.mono h.low), Nat.le_trans h.low b.size⟩
theorem Bys.alloc {base : Nat} {w0 w : World} {v : Value} {l : List UInt8} (h : Bys base w0 w v l) (o : Obj) : Bys base w0 (w.alloc o) v l := h.later ((Below.refl _ _).alloc (Nat.le_refl _) o)
theorem Bys.drew {base : Nat} {w0 w : World} {v : Value} {l : List UInt8} (h : Bys base w0 w v l) : Bys base w0 w.drew v l := h.later (Below.refl _ _).drew
theorem Bys.grown {base : Nat} {w0 w w' : World} {v v' : Value} {l m : List UInt8} {n : Nat} (h : Bys base w0 w v l) (hn : n = m.length) (o : w'.ownsRow base 5 1 v' n (Lib.byteCells m)) (g : w.grownBy w' v.ownBlock) : Bys base w0 w' v' m := by
  subst hn
  have b := h.bel.trans ((Below.refl base w).grown g h.low (fun k hk => (h.own.lt k hk).1))
  exact ⟨o, b, Nat.le_trans h.low ((Below.refl base w).grown g h.low (fun k hk => (h.own.lt k hk).1)).size⟩
theorem Bys.shape {base : Nat} {w0 w : World} {v : Value} {l : List UInt8} (h : Bys base w0 w v l) : ∃ ad cap, v = .slice ad l.length cap := by
  rcases h.own.2 with ⟨rfl, h0⟩ | ⟨g, cap, cur, rfl, _⟩
  · exact ⟨none, 0, by rw [h0]⟩
  · exact ⟨_, cap, rfl⟩
theorem Bys.lit {base : Nat} {w0 w : World} (b : Below base w0 w) (h : base ≤ w.heap.size) (cs : Array Value) (l : List UInt8) (n : Nat) (hcs : cs.toList = Lib.byteCells l) (hn : n = l.length) (hm : n ≤ maxLen) :
    Bys base w0 (w.alloc (.cells cs 5)) (.slice (some ⟨w.heap.size, 0, none⟩) n n) l := by
  subst hn
  have hz : cs.size = l.length * 1 := by rw [← Array.length_toList, hcs, Lib.byteCells_length]; omega
  have o := World.ownsRow_lit (size := 1) (e := 5) (base := base) w cs l.length h hm hz
  rw [hcs] at o
  exact ⟨o, b.alloc h _, Nat.le_trans h (by simp)⟩
/-- The text of them. -/
theorem Bys.str {base : Nat} {w0 b : World} {v : Value} {l : List UInt8} (h : Bys base w0 b v l) : (convert 44 9 v).run Tryd.prog b = .ok (.string ⟨l.toArray⟩) b := by
  have ho := h.own
  rcases ho.2 with ⟨rfl, h0⟩ | ⟨g, cap, cur, hv, _⟩
  · have : l = [] := List.eq_nil_of_length_eq_zero h0
    subst this
    exact run_convert_bytes_nil b 44 5 Tryd.underlying44 Tryd.underlying5 0 0 _ Tryd.underlying9
  · subst hv
    refine run_convert_bytes_back b 44 9 5 ⟨g, 0, none⟩ cap l Tryd.underlying44 Tryd.underlying5 Tryd.underlying9 ?_
    intro j hj
    have hadd : (⟨g, 0, none⟩ : Addr).add j = ⟨g, j, none⟩ := by unfold Addr.add; split <;> simp_all
    rw [hadd, ho.cellAt j (by omega), byteCells_get l j hj]

/-- One byte more, that lies in a block of its own. -/
theorem wpList_byte (w : World) {ops : Array Oper} {rest : List Oper} {o : Oper} {a : Act} {Q : Exit → Act → World → Prop} (hg : o.guard = none) (s x : Operand)
    (hop : o.op = .call { callee := .builtin .append, args := #[s, x], argTypes := #[44, 44] })
    (base : Nat) (w0 : World) (v : Value) (l : List UInt8) (hs : a.eval s = v) (hown : Bys base w0 w v l)
    (ad : Addr) (k c : Nat) (hx : a.eval x = .slice (some ad) k c) (hk : k = 1) (y : UInt8) (yv : Int) (hy : yv = (y.toNat : Int)) (hc : w.cell? ad = some (.int .u8 yv)) (hsp : ad.spot = none)
    (hroom : l.length + 1 ≤ 140737488355328)
    (h : ∀ v' w', Bys base w0 w' v' (l ++ [y]) → wpList Tryd.prog ops Q rest (a.put o.dst v') w') :
    wpList Tryd.prog ops Q (o :: rest) a w := by
  subst hk
  obtain ⟨i0, hi, hz0, hz1, hz2⟩ := info_parts byteInfo
  refine wpList_append_own w hg s x 44 hop base 5 i0 (.int .u8 0) 1 1 Tryd.underlying44 hi hz0 hz1 hz2 rfl (by decide) v l.length (Lib.byteCells l) hs hown.own ad 1 c (Lib.byteCells [y]) hx rfl ?_ (Lib.byteCells_one _) (by unfold maxLen; omega) (by omega) hown.low ?_
  · intro j u hj
    match j, hj with
    | 0, hj =>
      have e : ad.add 0 = ad := by obtain ⟨b, i, sp⟩ := ad; simp only at hsp; subst hsp; rfl
      simp only [Lib.byteCells, List.map_cons, List.map_nil, List.getElem?_cons_zero, Option.some.injEq] at hj
      rw [e, hc, ← hj, hy]
  · intro v' w' o1 g1 _
    exact h v' w' (hown.grown (n := l.length + 1) (by simp) (by rw [Lib.byteCells_append]; exact o1) g1)
end Go.Proofs.YtjddhakaebkkeaaDoor
