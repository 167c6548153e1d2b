/-
  The held names, rising.
-/
import Derived.Test.YtclokpkhkokfhabVCalls4
import Derived.Test.YtclokpkhkokfhabShelfIter
import Derived.Sort.KeysCollected
namespace Go.Proofs.Ytclokpkhkokfhab
open Go.RowKit Go.Maps Go.Sort Go.Shelf

/-- Names in their order. -/
def rising (l : List Vf.Bs) : List Vf.Bs := l.mergeSort fun x y => decide (x ≤ y)

theorem sorts_any (m : Nat) : AnyZ.SortsIn Try.prog Try.sortedM_ren Fence.wide m :=
  ⟨fun blk off cap ss W hH hblk hsz => callsIn_wide.2 (AnyM.slices_Sort_string Try.sortM blk off cap ss W hH hblk hsz), fun p cap W => callsIn_wide.2 (AnyM.slices_Sort_string_none Try.sortM p cap W)⟩
theorem keys_any (mb : Option Nat) (W : World) : Calls Try.prog 28 #[.map mb] W fun e w' => e = .returned (.func (.func 40) #[] #[.pointer (some ⟨W.heap.size, 0, none⟩)]) ∧ w' = W.alloc (.cells #[.map mb] 45) :=
  (callsIn_wide (n := 5)).1 (AnyZ.keys_in Try.keysM Fence.wide 5 trivial rfl mb W)

set_option maxHeartbeats 1000000 in
theorem sorted_any (b : Nat) (m : Vf.Nm) (w : World) (h : NamesAt w b m) (hm : m.length ≤ 1000000000) :
    Calls Try.prog 27 #[.func (.func 40) #[] #[.pointer (some ⟨w.heap.size, 0, none⟩)]] (w.alloc (.cells #[.map (some b)] 45)) fun e w' => ∃ v, e = .returned v ∧ w'.ownsRow w.heap.size 9 1 v (rising (m.map (·.1))).length ((rising (m.map (·.1))).map str) ∧ Below w.heap.size w w' := by
  obtain ⟨D, hown, hD⟩ := h
  have hbl := hown.lt
  have hs : Maps.size D ≤ 1000000000 := by rw [hD.size]; exact hm
  have hseq : SeqGives Fence.wide 2 Try.prog 40 #[.pointer (some ⟨w.heap.size, 0, none⟩)] encStr (fun ss => ss.Perm (strKeys D)) (Maps.size D) (w.alloc (.cells #[.map (some b)] 45)) :=
    AnyZ.keys_gives (ρ := Try.keysM_ren) { Try.keysM with } Fence.wide _ trivial rfl (by omega) w.heap.size b m.length D _ (by simp) (by simp) (by
      obtain ⟨es, clock, hb, Ft, hs, hD⟩ := hown
      exact ⟨es, clock, (Below.heap_alloc _ _ b hbl).trans hb, Ft, hs, hD⟩)
  have hperm : (m.map (·.1)).Perm (strKeys D) := by
    refine Collected.perm (left := fun _ => false) ?_ hown lawS Try.underlying9 (fun _ => rfl)
    refine ⟨hD.nodup, fun x => ?_⟩
    rw [hD.hs x]
    have := Vf.look_none m x
    cases e : Vf.look m x with
    | none => rw [e] at this; simp only [true_iff] at this; simp only [Option.isSome_none, Bool.false_eq_true, false_and, iff_false]; exact this
    | some n => rw [e] at this; simp only [reduceCtorEq, false_iff, Classical.not_not] at this; simp only [Option.isSome_some, true_and, iff_true]; exact this
  have c := AnyZ.sorted_in Try.sortedM Fence.wide 5 trivial trivial trivial trivial rfl (by omega) (sorts_any _) (enters_of Try.func39 (by kernel_rfl) rfl) 40 #[.pointer (some ⟨w.heap.size, 0, none⟩)] trivial (enters_of Try.func40 (by kernel_rfl) rfl) _ _ (by unfold maxLen; omega) (by omega) _ hseq
  refine ((callsIn_wide (n := 5)).1 c).mono ?_
  rintro e w' ⟨v, ss, rfl, hS, hrow, hnil, hb⟩
  have B0 : Below w.heap.size w (w.alloc (.cells #[.map (some b)] 45)) := (Below.refl _ _).alloc (Nat.le_refl _) _
  have hl : ss.length = (rising (m.map (·.1))).length := by rw [rising, List.length_mergeSort]; exact (hS.trans hperm.symm).length_eq
  have he : ss.mergeSort (fun x y => decide (x ≤ y)) = rising (m.map (·.1)) := mergeSort_of_perm (hS.trans hperm.symm)
  rw [he, hl] at hrow
  refine ⟨v, rfl, ?_, B0.trans (hb.mono B0.size)⟩
  refine ⟨hrow.1, ?_⟩
  rcases hrow.2 with h' | ⟨g, cap, cur, e, h1, h2⟩
  · exact .inl h'
  · exact .inr ⟨g, cap, cur, e, Nat.le_trans B0.size h1, h2⟩

set_option maxHeartbeats 400000 in
theorem names_any (w : World) (b : Nat) (σ : Vf.St) (S : Nat → Prop) (h : Rep w b σ S) (hm : σ.held.length ≤ 1000000000) (L : List Vf.Bs) (HL : Hid (L = if σ.on then rising (σ.held.map (·.1)) else [])) :
    Calls Try.prog 15 #[.pointer (some ⟨b, 0, none⟩)] w fun e w' => ∃ v, e = .returned v ∧ w'.ownsRow w.heap.size 9 1 v L.length (L.map str) ∧ Below w.heap.size w w' := by
  obtain ⟨R, hR⟩ : ∃ R, R = Vf.refuse σ [] := ⟨_, rfl⟩
  have q := refused_rep w b σ S h R hR
  obtain ⟨bf, bh, bd, pv, fs, sl, hr⟩ := h
  cases ho : σ.on with
  | true =>
    have r0 : R = 0 := by rw [hR]; unfold Vf.refuse; rw [ho]; rfl
    have HL' : Hid (rising (σ.held.map (·.1)) = L) := by show _ = _; rw [HL.out, ho]; rfl
    have c6 := hr.cells.2.2.2.2.2.2.1
    have KY := keys_any (some bh) w
    have SO := sorted_any bh σ.held w hr.held hm
    rw [HL'.out] at SO
    subst r0
    clear hR HL hr ho HL' hm
    go_enter Try.func15, Try.ntmps15
    go_wp2_with (first
      | (go_at_call 23; refine still q ?_)
      | (go_at_call 28; refine still2 KY ?_)
      | (go_at_call 27; refine SO.mono ?_; rintro e w3 ⟨v3, rfl, o3, b3⟩))
    go_ret
    exact ⟨v3, rfl, o3, b3⟩
  | false =>
    have r7 : R = 7 := by rw [hR]; unfold Vf.refuse; rw [ho]; rfl
    have HL' : Hid (L = []) := by show _ = _; rw [HL.out, ho]; rfl
    subst r7
    clear hR HL hr ho
    go_enter Try.func15, Try.ntmps15
    go_wp2_with (go_at_call 23; refine still q ?_)
    go_ret
    exact ⟨_, rfl, by rw [HL'.out]; exact World.ownsRow_nil _ _ _ _, Below.refl _ _⟩
end Go.Proofs.Ytclokpkhkokfhab
