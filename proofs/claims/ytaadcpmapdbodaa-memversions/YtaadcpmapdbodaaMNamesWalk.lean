/-
  The walk of MemNames: the chapter's examples, one by one.
-/
import Derived.Test.YtaadcpmapdbodaaMLane
import Derived.Test.YtaadcpmapdbodaaMInts
namespace Go.Proofs.Ytaadcpmapdbodaa
open Go.RowKit

namespace Mm
def mk (x : It) : Nd := ⟨0, x.1, 0, x.2⟩
theorem mk_it (ns : List Nd) (f : Nd → Nd) (hf : ∀ x, f x = mk (it x)) : (ns.map it).map mk = ns.map f := by
  rw [List.map_map]
  exact List.map_congr_left fun x _ => (hf x).symm
theorem cnt_map (k : Nat) (q : List Nd) (f : Nd → Nd) (hf : ∀ x, (f x).h = x.h) : cnt k (q.map f) = cnt k q := by
  unfold cnt
  rw [List.filter_map, List.length_map]
  congr 1
  exact List.filter_congr fun x _ => by show on k (f x) = on k x; unfold on; rw [hf]
theorem any_map (k : Nat) (q : List Nd) (f : Nd → Nd) (hf : ∀ x, (f x).h = x.h) : (q.map f).any (on k) = q.any (on k) := by
  rw [List.any_map]
  congr 1
  funext x
  show on k (f x) = on k x
  unfold on; rw [hf]
theorem rest_map (k : Nat) (q : List Nd) (f : Nd → Nd) (hf : ∀ x, (f x).h = x.h) : rest k (q.map f) = (rest k q).map f := by
  induction q with
  | nil => rfl
  | cons y r ih =>
    rw [List.map_cons, rest, rest, any_map k r f hf, ih, show on k (f y) = on k y by unfold on; rw [hf]]
    split
    · rfl
    · split <;> rfl
theorem costs_map (b : List Nd) (f : Nd → Nd) (hf : ∀ x, (f x).h = x.h) : ∀ (k : Nat) (q : List Nd), costs (b.map f) k (q.map f) = costs b k q := by
  intro k
  induction k with
  | zero => intro q; rfl
  | succ k ih => intro q; rw [costs, costs, cnt_map k q f hf, rest_map k q f hf, ih]; unfold one; rw [any_map k b f hf]
def costL (l : List It) (k : Bs) (s : Int) : Nat := cost (l.map mk) k s
theorem cost_map (ns : List Nd) (k : Bs) (s : Int) : cost ns k s = costL (ns.map it) k s := by
  unfold costL cost
  rw [mk_it ns (fun x => mk (it x)) (fun _ => rfl)]
  have e1 : front ⟨k, [], s, false⟩ (ns.map fun x => mk (it x)) = (front ⟨k, [], s, false⟩ ns).map fun x => mk (it x) := by
    unfold front; rw [List.takeWhile_map]; rfl
  have e2 : back ⟨k, [], s, false⟩ (ns.map fun x => mk (it x)) = (back ⟨k, [], s, false⟩ ns).map fun x => mk (it x) := by
    unfold back; rw [List.dropWhile_map]; rfl
  rw [e1, e2]
  exact (costs_map _ (fun x => mk (it x)) (fun _ => rfl) 12 _).symm
end Mm

section
variable {S : Nat → Prop} {w : World} {b : Nat} {hs : List Nat} {l : List Mm.It}
theorem cost_s (h : TabS S w b hs l) (hl : l.length ≤ 100000) (k : Mm.Bs) (s : Int) : Calls Try.prog 64 #[.pointer (some ⟨b, 0, none⟩), str k, .int .i64 s] w fun r w' => r = .returned (.int .i64 (Mm.costL l k s : Int)) ∧ Below w.heap.size w w' := by
  obtain ⟨hvv, hd, ns, T, rfl, hSS⟩ := h
  have := cost_any w b hvv hs hd ns T (by rw [List.length_map] at hl; omega) k s
  rw [Mm.cost_map] at this
  exact this
theorem lane_s (h : TabS S w b hs l) (hl : l.length ≤ 100000) (n : Nat) (hn : n < 12) : Calls Try.prog 61 #[.pointer (some ⟨b, 0, none⟩), .int .i64 ((n : Int) + 1)] w fun r w' => ∃ a c, r = .returned (.slice a (Mm.places (n + 1) 0 l).length c) ∧ IntsAt w' (.slice a (Mm.places (n + 1) 0 l).length c) ((Mm.places (n + 1) 0 l).map fun (x : Nat) => (x : Int)) ∧ Below w.heap.size w w' := by
  obtain ⟨hvv, hd, ns, T, rfl, hSS⟩ := h
  refine (lane_any w b hvv hs hd ns T (by rw [List.length_map] at hl; omega) n hn).mono ?_
  rintro r w' ⟨v, rfl, o, bb⟩
  obtain ⟨a, c, rfl⟩ := row_shape o
  refine ⟨a, c, rfl, ?_, bb⟩
  have e : ncs (Mm.places (n + 1) 0 (ns.map Mm.it)) = ics ((Mm.places (n + 1) 0 (ns.map Mm.it)).map fun (x : Nat) => (x : Int)) := by simp [ncs, ics]
  rw [e, ← List.length_map (f := fun (x : Nat) => (x : Int))] at o
  have := IntsAt.own o
  rw [List.length_map] at this
  exact this
end

namespace Mm
theorem exG0 : gotL exL [98] 0 = none := by kernel_rfl
theorem exG3 : gotL exL [98] 3 = some b3 := by kernel_rfl
theorem exP1 : places 1 0 exL = [0, 1, 2] := by kernel_rfl
theorem exP2 : places 2 0 exL = [1, 2] := by kernel_rfl
theorem exP3 : places 3 0 exL = [1] := by kernel_rfl
theorem exP4 : places 4 0 exL = [] := by kernel_rfl
theorem exC1 : costL exL [98] 3 = 4 := by kernel_rfl
theorem exC2 : costL exL [97] 2 = 3 := by kernel_rfl
theorem exA1 : addE b3 exL = 9 ∧ addL [2, 1, 3] b3 exL = exL := ⟨by kernel_rfl, by kernel_rfl⟩
def e0 : Ent := ⟨[], [], 1, false⟩
theorem exA2 : addE e0 exL = 2 ∧ addL [2, 1, 3] e0 exL = exL := ⟨by kernel_rfl, by kernel_rfl⟩
theorem exS : bytesL exL = 3 := by kernel_rfl
end Mm

namespace memNames
abbrev Ex (w : World) (wx : World) (b : Nat) : Prop := TabS (fun i => w.heap.size ≤ i) wx b [2, 1, 3] Mm.exL

theorem lane_ex {w wx : World} {b : Nat} (h : Ex w wx b) (n : Nat) (hn : n < 12) (m : Int) (hm : (n : Int) + 1 = m) (P : List Nat) (hP : Mm.places (n + 1) 0 Mm.exL = P) (L : Nat) (hL : L = P.length) : Calls Try.prog 61 #[.pointer (some ⟨b, 0, none⟩), .int .i64 m] wx fun r w' => ∃ a c, r = .returned (.slice a L c) ∧ IntsAt w' (.slice a L c) (P.map fun (x : Nat) => (x : Int)) ∧ Below wx.heap.size wx w' := by
  have := lane_s h (by decide) n hn
  rw [hm, hP] at this
  subst hL
  exact this
theorem same_ex (wx : World) (a : Option Addr) (c n : Nat) (l : List Int) (cs : Array Value) (h : IntsAt wx (.slice a n c) l) (hcs : cs.toList = ics l) (hn : n = l.length) (hl : l.length ≤ 10) : Calls Try.prog 50 #[.slice a n c, .slice (some ⟨wx.heap.size, 0, none⟩) n n] (wx.alloc (.cells cs 3)) fun r w' => r = .returned (.bool true) ∧ Below wx.heap.size wx w' := by
  have b0 : Below wx.heap.size wx (wx.alloc (.cells cs 3)) := (Below.refl _ _).alloc (Nat.le_refl _) _
  subst hn
  refine (samei_any _ _ _ l (h.later b0) (ints_lit wx l cs hcs) (by omega)).mono ?_
  rintro r w' ⟨rfl, bb⟩
  exact ⟨rfl, b0.trans (bb.mono (by simp))⟩

end memNames
end Go.Proofs.Ytaadcpmapdbodaa
