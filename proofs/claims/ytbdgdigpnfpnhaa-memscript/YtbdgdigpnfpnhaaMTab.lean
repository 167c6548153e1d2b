/-
  Tables in the statements' words: entries with their towers, in blocks of S; and what each call does to them.
-/
import Derived.Test.YtbdgdigpnfpnhaaMAll
namespace Go.Proofs.Ytbdgdigpnfpnhaa.Q.P
open Go.RowKit

end Go.Proofs.Ytbdgdigpnfpnhaa.Q.P
namespace Go.Proofs.Ytbdgdigpnfpnhaa.Q.Mm
abbrev It := Ent × Nat
def it (x : Nd) : It := (x.ent, x.h)
def frontL (e : Ent) (l : List It) : List It := l.takeWhile fun x => ahead x.1 e
def backL (e : Ent) (l : List It) : List It := l.dropWhile fun x => ahead x.1 e
/-- Is there an entry with that key and that number? -/
def thereL (e : Ent) (l : List It) : Bool :=
  match (backL e l).head? with
  | some y => !ahead e y.1
  | none => false
def addE (e : Ent) (l : List It) : Int := if may e then (if thereL e l then 9 else 0) else 2
def addL (hs : List Nat) (e : Ent) (l : List It) : List It := if may e && !thereL e l then frontL e l ++ (e, ht hs l.length) :: backL e l else l
theorem front_map (e : Ent) (ns : List Nd) : (front e ns).map it = frontL e (ns.map it) := by
  unfold front frontL
  rw [List.takeWhile_map]
  rfl
theorem back_map (e : Ent) (ns : List Nd) : (back e ns).map it = backL e (ns.map it) := by
  unfold back backL
  rw [List.dropWhile_map]
  rfl
def gotL (l : List It) (k : Bs) (s : Int) : Option Ent :=
  match (backL ⟨k, [], s, false⟩ l).head? with
  | some y => if y.1.key = k then some y.1 else none
  | none => none
theorem got_map (ns : List Nd) (k : Bs) (s : Int) : got ns k s = gotL (ns.map it) k s := by
  unfold got gotL
  rw [← back_map, List.head?_map]
  cases (back ⟨k, [], s, false⟩ ns).head? <;> rfl
def SortedL (l : List It) : Prop := l.Pairwise fun x y => ahead x.1 y.1 = true
theorem sorted_map {ns : List Nd} : Sorted ns ↔ SortedL (ns.map it) := by
  unfold Sorted SortedL
  rw [List.pairwise_map]
  rfl
def bytesL (l : List It) : Nat := (l.map fun x => x.1.key.length + x.1.value.length).sum
end Go.Proofs.Ytbdgdigpnfpnhaa.Q.Mm
namespace Go.Proofs.Ytbdgdigpnfpnhaa.Q.P
open Go.RowKit
theorem bytes_map (ns : List Mm.Nd) : bytesOf ns = Mm.bytesL (ns.map Mm.it) := by
  unfold bytesOf Mm.bytesL
  rw [List.map_map]
  rfl
theorem bytes_most {w : World} {b : Nat} {hv : Value} {hs : List Nat} {hd : Mm.Nd} {ns : List Mm.Nd} (T : TabAt w b hv hs hd ns) : bytesOf ns ≤ ns.length * 4608 := by
  have h : ∀ l : List Mm.Nd, (∀ x ∈ l, x.ent.key.length ≤ 512 ∧ x.ent.value.length ≤ 4096) → bytesOf l ≤ l.length * 4608 := by
    intro l
    induction l with
    | nil => intro _; exact Nat.le_refl _
    | cons x r ih =>
      intro h
      have h1 := ih fun y hy => h y (by simp [hy])
      have h2 := h x (by simp)
      have : bytesOf (x :: r) = x.ent.key.length + x.ent.value.length + bytesOf r := by simp [bytesOf]
      rw [this, List.length_cons]
      omega
  exact h ns fun x hx => ⟨(T.good x hx).2.2.1, (T.good x hx).2.2.2⟩

/-- A table, in blocks of S. -/
def TabS (S : Nat → Prop) (w : World) (b : Nat) (hs : List Nat) (l : List Mm.It) : Prop := ∃ hv hd ns, TabAt w b hv hs hd ns ∧ ns.map Mm.it = l ∧ ∀ i, (tabS b hd ns i ∨ hv.ownBlock = some i) → S i

theorem TabS.later {S : Nat → Prop} {w w' : World} {b : Nat} {hs : List Nat} {l : List Mm.It} (h : TabS S w b hs l) (hb : Below w.heap.size w w') : TabS S w' b hs l := by
  obtain ⟨hv, hd, ns, T, e, hS⟩ := h
  exact ⟨hv, hd, ns, T.later hb, e, hS⟩
theorem TabS.other {S R : Nat → Prop} {w w' : World} {b : Nat} {hs : List Nat} {l : List Mm.It} (h : TabS S w b hs l) (hm : Moved R w w') (hd : ∀ i, i < w.heap.size → S i → ¬ R i) : TabS S w' b hs l := by
  obtain ⟨hv, hd', ns, T, e, hS⟩ := h
  exact ⟨hv, hd', ns, T.same fun i hi => hm.block i (T.low i hi) (hd i (T.low i hi) (hS i hi)), e, hS⟩
theorem TabS.narrow {S R : Nat → Prop} {w : World} {b : Nat} {hs : List Nat} {l : List Mm.It} (h : TabS S w b hs l) (hd : ∀ i, i < w.heap.size → S i → R i) : TabS R w b hs l := by
  obtain ⟨hv, hd', ns, T, e, hS⟩ := h
  exact ⟨hv, hd', ns, T, e, fun i hi => hd i (T.low i hi) (hS i hi)⟩
theorem TabS.sorted {S : Nat → Prop} {w : World} {b : Nat} {hs : List Nat} {l : List Mm.It} (h : TabS S w b hs l) : Mm.SortedL l := by
  obtain ⟨hv, hd', ns, T, e, hS⟩ := h
  rw [← e]
  exact Mm.sorted_map.1 T.sorted

theorem new_s (w : World) (v : Value) (l : List Int) (h : IntsAt w v l) (hl : l.length ≤ 1000000) (hok : l.all okH = true) :
    Calls Try.prog 8 #[v] w fun e w' => Below w.heap.size w w' ∧ ∃ b, e = .returned (.tuple #[.pointer (some ⟨b, 0, none⟩), .int .i64 0]) ∧ TabS (fun i => w.heap.size ≤ i) w' b (l.map Int.toNat) [] := by
  refine (new_any w v l h hl).mono ?_
  rintro e w' ⟨bb, (⟨_, b, rfl, hv, hd, T, hS⟩ | ⟨h1, _⟩)⟩
  · exact ⟨bb, b, rfl, hv, hd, [], T, rfl, hS⟩
  · rw [hok] at h1; cases h1

theorem add_s {S : Nat → Prop} {w : World} {b : Nat} {hs : List Nat} {l : List Mm.It} (h : TabS S w b hs l) (hS : ∀ i, w.heap.size ≤ i → S i) (e : Mm.Ent) (hl : l.length ≤ 100000) (hh : hs.length ≤ 1000000) (hk : e.key.length ≤ 1000000) (hv : e.value.length ≤ 1000000) :
    Calls Try.prog 15 #[.pointer (some ⟨b, 0, none⟩), entV e] w fun r w' => r = .returned (.int .i64 (Mm.addE e l)) ∧ TabS S w' b hs (Mm.addL hs e l) ∧ Moved S w w' := by
  obtain ⟨hvv, hd, ns, T, rfl, hSS⟩ := h
  have hn : ns.length ≤ 100000 := by simpa using hl
  unfold Mm.addE Mm.addL
  cases hm : Mm.may e with
  | false =>
    refine (add_bad w b hvv hs hd ns T e hm hk hv).mono ?_
    rintro r w' ⟨rfl, bb⟩
    exact ⟨rfl, ⟨hvv, hd, ns, T.later bb, rfl, hSS⟩, Moved.below bb⟩
  | true =>
    have hbm := Mm.back_map e ns
    cases ht : Mm.thereL e (ns.map Mm.it) with
    | true =>
      unfold Mm.thereL at ht
      rw [← hbm, List.head?_map] at ht
      cases hy : (Mm.back e ns).head? with
      | none => rw [hy] at ht; cases ht
      | some y =>
        rw [hy] at ht
        refine (add_there w b hvv hs hd ns T e hm hn y hy (by simpa [Mm.it] using ht)).mono ?_
        rintro r w' ⟨rfl, bb⟩
        exact ⟨rfl, ⟨hvv, hd, ns, T.later bb, rfl, hSS⟩, Moved.below bb⟩
    | false =>
      have hth : ∀ y, (Mm.back e ns).head? = some y → Mm.ahead e y.ent = true := fun y hy => by
        unfold Mm.thereL at ht
        rw [← hbm, List.head?_map, hy] at ht
        simpa [Mm.it] using ht
      have hby : bytesOf ns ≤ 1000000000 := by have := bytes_most T; omega
      refine (add_ok w b hvv hs hd ns T e hm hn hby hh hth).mono ?_
      rintro r w' ⟨rfl, n, hnn, T', mv⟩
      refine ⟨rfl, ⟨hvv, hd, _, T', ?_, ?_⟩, mv.wide fun i _ hi => hSS i (.inl hi)⟩
      · rw [List.map_append, List.map_cons, Mm.front_map, hbm, List.length_map]
        rfl
      · rintro i ((rfl | hi) | hi)
        · exact hSS _ (.inl (.inl rfl))
        · obtain ⟨x, hx, rfl⟩ := List.mem_map.1 hi
          rcases List.mem_cons.1 hx with rfl | hx
          · exact hSS _ (.inl (.inr (by simp)))
          · rcases List.mem_append.1 hx with hx | hx
            · exact hSS _ (.inl (.inr (List.mem_map.2 ⟨x, by rw [← Mm.parts e ns]; simp [hx], rfl⟩)))
            · rcases List.mem_cons.1 hx with rfl | hx
              · exact hS _ hnn
              · exact hSS _ (.inl (.inr (List.mem_map.2 ⟨x, by rw [← Mm.parts e ns]; simp [hx], rfl⟩)))
        · exact hSS _ (.inr hi)

section
variable {S : Nat → Prop} {w : World} {b : Nat} {hs : List Nat} {l : List Mm.It}
theorem get_s (h : TabS S w b hs l) (hl : l.length ≤ 100000) (k : Mm.Bs) (s : Int) : Calls Try.prog 33 #[.pointer (some ⟨b, 0, none⟩), str k, .int .i64 s] w fun r w' => r = .returned (gotV (Mm.gotL l k s)) ∧ Below w.heap.size w w' := by
  obtain ⟨hvv, hd, ns, T, rfl, hSS⟩ := h
  have := get_any w b hvv hs hd ns T (by rw [List.length_map] at hl; omega) k s
  rw [Mm.got_map] at this
  exact this
theorem len_s (h : TabS S w b hs l) : Calls Try.prog 44 #[.pointer (some ⟨b, 0, none⟩)] w fun r w' => r = .returned (.int .i64 (l.length : Int)) ∧ w' = w := by
  obtain ⟨hvv, hd, ns, T, rfl, hSS⟩ := h
  have := len_any w b hvv hs hd ns T
  rw [← List.length_map (f := Mm.it)] at this
  exact this
theorem size_s (h : TabS S w b hs l) : Calls Try.prog 45 #[.pointer (some ⟨b, 0, none⟩)] w fun r w' => r = .returned (.int .i64 (Mm.bytesL l : Int)) ∧ w' = w := by
  obtain ⟨hvv, hd, ns, T, rfl, hSS⟩ := h
  have := size_any w b hvv hs hd ns T
  rw [bytes_map] at this
  exact this
theorem list_s (h : TabS S w b hs l) (hl : l.length ≤ 100000) (n : Nat) (hn : n ≤ 1000000) : Calls Try.prog 21 #[.pointer (some ⟨b, 0, none⟩), .int .i64 (n : Int)] w fun r w' => ∃ v, r = .returned v ∧ w'.ownsRow w.heap.size 38 4 v ((l.map (·.1)).take n).length (ecs ((l.map (·.1)).take n)) ∧ Below w.heap.size w w' := by
  obtain ⟨hvv, hd, ns, T, rfl, hSS⟩ := h
  have := list_all w b hvv hs hd ns T n (by rw [List.length_map] at hl; omega) hn
  rw [List.map_map]
  exact this
end
end Go.Proofs.Ytbdgdigpnfpnhaa.Q.P
