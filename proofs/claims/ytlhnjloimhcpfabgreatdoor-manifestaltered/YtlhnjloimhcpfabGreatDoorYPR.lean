/-
  An edit's bytes, in plain words.
-/
import Derived.Test.YtlhnjloimhcpfabGreatDoorYP
import Derived.Test.YtlhnjloimhcpfabGreatDoorWlP
namespace Go.Proofs.YtlhnjloimhcpfabGreatDoor
namespace Mf
open Enc

def lebs (l : List Int) : Bs := l.flatMap fun x => leb x.toNat
def text (s : Bs) : Bs := leb s.length ++ s
def mtB (x : Mt) : Bs := lebs [x.number, x.level, x.count] ++ text x.first ++ text x.last
def recB (e : Ed) : Bs := lebs [(e.drops.length : Int)] ++ lebs e.drops ++ lebs [(e.adds.length : Int)] ++ e.adds.flatMap mtB ++ lebs [e.log, e.seq, e.next]
/-- Is each number and text of an edit within its bounds? -/
def bounds (e : Ed) : Bool := e.drops.all (fun n => inB n 1 999999) && e.adds.all words && nums e.log e.seq e.next
def encE (e : Ed) : Int := if e.drops.length > 1024 ∨ e.adds.length > 1024 then 3 else if bounds e then 0 else 2

theorem lebs_cons (x : Int) (l : List Int) : lebs (x :: l) = leb x.toNat ++ lebs l := rfl
theorem lebs_append (l m : List Int) : lebs (l ++ m) = lebs l ++ lebs m := by simp [lebs]
theorem lebs_take {l : List Int} {j : Nat} (h : j < l.length) : lebs (l.take (j + 1)) = lebs (l.take j) ++ leb (l[j]).toNat := by
  rw [List.take_succ_eq_append_getElem h, lebs_append]
  simp [lebs]
theorem lebs_len (l : List Int) (h : ∀ x ∈ l, x ≤ 4000000000000000000) : (lebs l).length ≤ 10 * l.length := by
  induction l with
  | nil => simp [lebs]
  | cons x l ih =>
    have h1 := ih (fun y hy => h y (List.mem_cons_of_mem _ hy))
    have h2 := h x (by simp)
    have h3 := leb_len64 x.toNat (by omega)
    rw [lebs_cons, List.length_append, List.length_cons]
    omega
theorem text_len (s : Bs) (h : s.length ≤ 100000) : (text s).length ≤ s.length + 10 := by
  have := leb_len64 s.length (by omega)
  unfold text
  rw [List.length_append]
  omega
theorem words_in {x : Mt} (h : words x = true) : (1 ≤ x.number ∧ x.number ≤ 999999) ∧ (0 ≤ x.level ∧ x.level ≤ 6) ∧ (1 ≤ x.count ∧ x.count ≤ 65536) ∧ (1 ≤ x.first.length ∧ x.first.length ≤ 512) ∧ (1 ≤ x.last.length ∧ x.last.length ≤ 512) := by
  simp only [words, inB, Bool.and_eq_true, decide_eq_true_eq] at h
  obtain ⟨⟨⟨⟨⟨h1, h2⟩, h3⟩, h4⟩, h5⟩, _⟩ := h
  exact ⟨h1, h2, h3, ⟨by omega, by omega⟩, ⟨by omega, by omega⟩⟩
theorem mtB_len {x : Mt} (h : words x = true) : (mtB x).length ≤ 1100 := by
  obtain ⟨h1, h2, h3, h4, h5⟩ := words_in h
  have a := lebs_len [x.number, x.level, x.count] (by intro y hy; simp at hy; rcases hy with rfl | rfl | rfl <;> omega)
  have b := text_len x.first (by omega)
  have c := text_len x.last (by omega)
  unfold mtB
  rw [List.length_append, List.length_append]
  simp at a
  omega
theorem mtBs_len (l : List Mt) (h : ∀ x ∈ l, words x = true) : (l.flatMap mtB).length ≤ 1100 * l.length := by
  induction l with
  | nil => simp
  | cons x l ih =>
    have h1 := ih (fun y hy => h y (List.mem_cons_of_mem _ hy))
    have h2 := mtB_len (h x (by simp))
    rw [List.flatMap_cons, List.length_append, List.length_cons]
    omega
end Mf
end Go.Proofs.YtlhnjloimhcpfabGreatDoor
