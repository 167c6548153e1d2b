/-
  The calls of a script, done to a file system that a call made for itself.
-/
import Derived.Test.YtclokpkhkokfhabVFs
import Derived.Test.YtclokpkhkokfhabVSmall
import Derived.Test.YtclokpkhkokfhabVMovesQ
namespace Go.Proofs.Ytclokpkhkokfhab
open Go.RowKit Go.Maps Go.Sort

def nameOf (s : ByteArray) : Vf.Bs := s.data.toList
theorem nameOf_length (s : ByteArray) : (nameOf s).length = s.size := by unfold nameOf; simp

theorem fits_parts {x : Ac} (h : fits x = true) : x.l.length ≤ 400 ∧ x.name.size ≤ 400 ∧ x.other.size ≤ 400 := by
  unfold fits at h
  simp at h
  exact ⟨h.1.1, h.1.2, h.2⟩
theorem small_parts {l : List Ac} (h : smallB l = true) : l.length ≤ 100 ∧ ∀ x ∈ l, fits x = true := by
  unfold smallB at h
  simp only [Bool.and_eq_true, decide_eq_true_eq, List.all_eq_true] at h
  exact ⟨h.2, h.1⟩

theorem free_lies {w wx : World} {v : Value} {l : Vf.Bs} {lim : Nat} (h : Lies w v l) (r : ∀ a n c, v = .slice a n c → l.length ≤ c) (hl : l.length ≤ 400) (hw : Below w.heap.size w wx) : Free w.heap.size lim wx v l := by
  have hb : BytesIn w v l := ⟨h, by omega⟩
  refine ⟨hb.later hw, fun a n c e h0 => .inl ?_, fun a n c e _ => r a n c e⟩
  obtain ⟨a', c', e', hf⟩ := h
  obtain ⟨b, off, ha, hat⟩ := hf h0
  rw [e] at e'
  cases e'
  cases ha
  exact World.block_lt_of_cell? w _ (hat 0 (List.length_pos_iff.2 h0))

section
variable {w wx : World} {lim b : Nat} {τ : Vf.St} (x : Ac)
theorem op_create (h : FsIn w.heap.size lim wx b τ) (hs : τ.steps ≤ 10000) (hx : fits x = true) : Calls Try.prog 8 #[.pointer (some ⟨b, 0, none⟩), .string x.name] wx fun e w' => e = .returned (.int .i64 (Vf.createE τ (nameOf x.name))) ∧ FsIn w.heap.size w'.heap.size w' b (Vf.create τ (nameOf x.name)) ∧ Below w.heap.size wx w' :=
  create_fs h (by omega) (nameOf x.name) (by rw [nameOf_length]; have := fits_parts hx; omega)
theorem op_remove (h : FsIn w.heap.size lim wx b τ) (hs : τ.steps ≤ 10000) (hx : fits x = true) : Calls Try.prog 11 #[.pointer (some ⟨b, 0, none⟩), .string x.name] wx fun e w' => e = .returned (.int .i64 (Vf.removeE τ (nameOf x.name))) ∧ FsIn w.heap.size w'.heap.size w' b (Vf.remove τ (nameOf x.name)) ∧ Below w.heap.size wx w' :=
  remove_fs h (by omega) (nameOf x.name) (by rw [nameOf_length]; have := fits_parts hx; omega)
theorem op_sync (h : FsIn w.heap.size lim wx b τ) (hs : τ.steps ≤ 10000) (hx : fits x = true) : Calls Try.prog 12 #[.pointer (some ⟨b, 0, none⟩), .string x.name] wx fun e w' => e = .returned (.int .i64 (Vf.syncE τ (nameOf x.name))) ∧ FsIn w.heap.size w'.heap.size w' b (Vf.sync τ (nameOf x.name)) ∧ Below w.heap.size wx w' :=
  sync_fs h (by omega) (nameOf x.name) (by rw [nameOf_length]; have := fits_parts hx; omega)
theorem op_rename (h : FsIn w.heap.size lim wx b τ) (hs : τ.steps ≤ 10000) (hx : fits x = true) : Calls Try.prog 10 #[.pointer (some ⟨b, 0, none⟩), .string x.name, .string x.other] wx fun e w' => e = .returned (.int .i64 (Vf.renameE τ (nameOf x.name) (nameOf x.other))) ∧ FsIn w.heap.size w'.heap.size w' b (Vf.rename τ (nameOf x.name) (nameOf x.other)) ∧ Below w.heap.size wx w' :=
  rename_fs h (by omega) (nameOf x.name) (nameOf x.other) (by rw [nameOf_length]; have := fits_parts hx; omega) (by rw [nameOf_length]; have := fits_parts hx; omega)
theorem op_append (hw : Below w.heap.size w wx) (ok : AcOk w x) (h : FsIn w.heap.size lim wx b τ) (hs : τ.steps ≤ 10000) (hx : fits x = true) : Calls Try.prog 9 #[.pointer (some ⟨b, 0, none⟩), .string x.name, x.v] wx fun e w' => e = .returned (.int .i64 (Vf.appendE τ (nameOf x.name) x.l)) ∧ FsIn w.heap.size w'.heap.size w' b (Vf.append τ (nameOf x.name) x.l) ∧ Below w.heap.size wx w' :=
  append_fs h (nameOf x.name) (by rw [nameOf_length]; have := fits_parts hx; omega) x.v x.l (by have := fits_parts hx; omega) (free_lies ok.bytes ok.room (fits_parts hx).1 hw)
end

namespace Vf
theorem append_le (σ : St) (k b : Bs) : (append σ k b).steps ≤ σ.steps + (b.length + 63) / 64 := by
  unfold append
  split
  · split
    · exact Nat.le_add_right _ _
    · rw [← pieces_length]
      have : ∀ (n : Nat) (l : List Bs) (σ : St), (pour σ n l).steps ≤ σ.steps + l.length := by
        intro n l
        induction l with
        | nil => intro σ; exact Nat.le_refl _
        | cons p r ih =>
          intro σ
          rw [pour_cons]
          split
          · exact Nat.le_add_right _ _
          · have h1 := ih (doSt σ ⟨0, n, p.length, [], []⟩ p)
            have h2 := (doSt_steps σ ⟨0, n, p.length, [], []⟩ p).1
            rw [List.length_cons]; omega
      exact this _ _ _
  · exact Nat.le_add_right _ _

/-- The fuse and the raw steps done go together. -/
structure Burns (N : Int) (τ : St) : Prop where
  sum : τ.fuse + τ.steps = N
  pos : 0 ≤ τ.fuse
  off : τ.on = false → τ.fuse = 0
theorem Burns.doSt {N : Int} {τ : St} (h : Burns N τ) (s : Step) (b : Bs) : Burns N (doSt τ s b) := by
  by_cases h0 : τ.fuse = 0
  · rw [doSt_off h0]
    exact ⟨h.sum, h.pos, fun _ => h0⟩
  · obtain ⟨e1, e2, e3, _⟩ := act_steps (tick τ) s b
    have hp := h.pos
    have ht : (tick τ).fuse = τ.fuse - 1 := by
      show (if τ.fuse = -1 then -1 else τ.fuse - 1) = _
      rw [if_neg (by omega)]
    unfold Vf.doSt
    rw [if_neg h0]
    refine ⟨?_, ?_, fun ho => ?_⟩
    · rw [e1, e2, ht]
      show τ.fuse - 1 + ((τ.steps + 1 : Nat) : Int) = N
      have := h.sum; omega
    · rw [e2, ht]; omega
    · rw [e3] at ho
      exact absurd (h.off ho) h0
theorem Burns.pour {N : Int} (n : Nat) : ∀ (l : List Bs) {τ : St}, Burns N τ → Burns N (pour τ n l)
  | [], _, h => h
  | p :: r, τ, h => by
    rw [pour_cons]
    split
    · rename_i h0; exact ⟨h.sum, h.pos, fun _ => h0⟩
    · exact Burns.pour n r (h.doSt _ _)
theorem Burns.create {N : Int} {τ : St} (h : Burns N τ) (k : Bs) : Burns N (create τ k) := by unfold Vf.create; split; exact h.doSt _ _; exact h
theorem Burns.remove {N : Int} {τ : St} (h : Burns N τ) (k : Bs) : Burns N (remove τ k) := by unfold Vf.remove; split; exact h.doSt _ _; exact h
theorem Burns.rename {N : Int} {τ : St} (h : Burns N τ) (k t : Bs) : Burns N (rename τ k t) := by unfold Vf.rename; split; exact h.doSt _ _; exact h
theorem Burns.sync {N : Int} {τ : St} (h : Burns N τ) (k : Bs) : Burns N (sync τ k) := by unfold Vf.sync; split; exact h.doSt _ _; exact h
theorem Burns.syncNames {N : Int} {τ : St} (h : Burns N τ) : Burns N (syncNames τ) := by unfold Vf.syncNames; split; exact h.doSt _ _; exact h
theorem Burns.append {N : Int} {τ : St} (h : Burns N τ) (k b : Bs) : Burns N (append τ k b) := by
  unfold Vf.append
  split
  · split
    · exact h
    · exact h.pour _ _
  · exact h
end Vf
end Go.Proofs.Ytclokpkhkokfhab
