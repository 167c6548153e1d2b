/-
  Cost and Lane of a table in the statements' words.
-/
import Derived.Test.YtbdgdigpnfpnhaaMLane
import Derived.Test.YtbdgdigpnfpnhaaMInts
namespace Go.Proofs.Ytbdgdigpnfpnhaa.Q.P
open Go.RowKit

end Go.Proofs.Ytbdgdigpnfpnhaa.Q.P
namespace Go.Proofs.Ytbdgdigpnfpnhaa.Q.Mm
def mk (x : It) : Nd := ⟨0, x.1, 0, x.2⟩
theorem mk_it (ns : List Nd) (f : Nd → Nd) (hf : ∀ x, f x = mk (it x)) : (ns.map it).map mk = ns.map f := by
  rw [List.map_map]
  exact List.map_congr_left fun x _ => (hf x).symm
theorem cnt_map (k : Nat) (q : List Nd) (f : Nd → Nd) (hf : ∀ x, (f x).h = x.h) : cnt k (q.map f) = cnt k q := by
  unfold cnt
  rw [List.filter_map, List.length_map]
  congr 1
  exact List.filter_congr fun x _ => by show on k (f x) = on k x; unfold on; rw [hf]
theorem any_map (k : Nat) (q : List Nd) (f : Nd → Nd) (hf : ∀ x, (f x).h = x.h) : (q.map f).any (on k) = q.any (on k) := by
  rw [List.any_map]
  congr 1
  funext x
  show on k (f x) = on k x
  unfold on; rw [hf]
theorem rest_map (k : Nat) (q : List Nd) (f : Nd → Nd) (hf : ∀ x, (f x).h = x.h) : rest k (q.map f) = (rest k q).map f := by
  induction q with
  | nil => rfl
  | cons y r ih =>
    rw [List.map_cons, rest, rest, any_map k r f hf, ih, show on k (f y) = on k y by unfold on; rw [hf]]
    split
    · rfl
    · split <;> rfl
theorem costs_map (b : List Nd) (f : Nd → Nd) (hf : ∀ x, (f x).h = x.h) : ∀ (k : Nat) (q : List Nd), costs (b.map f) k (q.map f) = costs b k q := by
  intro k
  induction k with
  | zero => intro q; rfl
  | succ k ih => intro q; rw [costs, costs, cnt_map k q f hf, rest_map k q f hf, ih]; unfold one; rw [any_map k b f hf]
def costL (l : List It) (k : Bs) (s : Int) : Nat := cost (l.map mk) k s
theorem cost_map (ns : List Nd) (k : Bs) (s : Int) : cost ns k s = costL (ns.map it) k s := by
  unfold costL cost
  rw [mk_it ns (fun x => mk (it x)) (fun _ => rfl)]
  have e1 : front ⟨k, [], s, false⟩ (ns.map fun x => mk (it x)) = (front ⟨k, [], s, false⟩ ns).map fun x => mk (it x) := by
    unfold front; rw [List.takeWhile_map]; rfl
  have e2 : back ⟨k, [], s, false⟩ (ns.map fun x => mk (it x)) = (back ⟨k, [], s, false⟩ ns).map fun x => mk (it x) := by
    unfold back; rw [List.dropWhile_map]; rfl
  rw [e1, e2]
  exact (costs_map _ (fun x => mk (it x)) (fun _ => rfl) 12 _).symm
end Go.Proofs.Ytbdgdigpnfpnhaa.Q.Mm
namespace Go.Proofs.Ytbdgdigpnfpnhaa.Q.P
open Go.RowKit

section
variable {S : Nat → Prop} {w : World} {b : Nat} {hs : List Nat} {l : List Mm.It}
theorem cost_s (h : TabS S w b hs l) (hl : l.length ≤ 100000) (k : Mm.Bs) (s : Int) : Calls Try.prog 50 #[.pointer (some ⟨b, 0, none⟩), str k, .int .i64 s] w fun r w' => r = .returned (.int .i64 (Mm.costL l k s : Int)) ∧ Below w.heap.size w w' := by
  obtain ⟨hvv, hd, ns, T, rfl, hSS⟩ := h
  have := cost_any w b hvv hs hd ns T (by rw [List.length_map] at hl; omega) k s
  rw [Mm.cost_map] at this
  exact this
theorem lane_s (h : TabS S w b hs l) (hl : l.length ≤ 100000) (n : Nat) (hn : n < 12) : Calls Try.prog 47 #[.pointer (some ⟨b, 0, none⟩), .int .i64 ((n : Int) + 1)] w fun r w' => ∃ a c, r = .returned (.slice a (Mm.places (n + 1) 0 l).length c) ∧ IntsAt w' (.slice a (Mm.places (n + 1) 0 l).length c) ((Mm.places (n + 1) 0 l).map fun (x : Nat) => (x : Int)) ∧ Below w.heap.size w w' := by
  obtain ⟨hvv, hd, ns, T, rfl, hSS⟩ := h
  refine (lane_any w b hvv hs hd ns T (by rw [List.length_map] at hl; omega) n hn).mono ?_
  rintro r w' ⟨v, rfl, o, bb⟩
  obtain ⟨a, c, rfl⟩ := row_shape o
  refine ⟨a, c, rfl, ?_, bb⟩
  have e : ncs (Mm.places (n + 1) 0 (ns.map Mm.it)) = ics ((Mm.places (n + 1) 0 (ns.map Mm.it)).map fun (x : Nat) => (x : Int)) := by simp [ncs, ics]
  rw [e, ← List.length_map (f := fun (x : Nat) => (x : Int))] at o
  have := IntsAt.own o
  rw [List.length_map] at this
  exact this
end

end Go.Proofs.Ytbdgdigpnfpnhaa.Q.P
