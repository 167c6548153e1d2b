/-
  The document's own span of a tuple: the same as the program's.
-/
import Derived.Test.YtbcbdaaaglkjhaaBegins
import Derived.Test.YtbcbdaaaglkjhaaRefTuple
import Derived.Test.YtbcbdaaaglkjhaaRefSpan
namespace Go.Proofs.Ytbcbdaaaglkjhaa
open Go.RowKit

theorem refBegins_any (w : World) (v : Value) (vs : List Val) (h : ValsIn w v vs) :
    Calls Try.prog 29 #[v] w fun e w' => e = .returned (.tuple #[.agg #[.string (tupS vs), .string (begA vs)], .int .i64 (tupE vs)]) ∧ Below w.heap.size w w' := by
  obtain ⟨E, hE⟩ : ∃ E, E = tupE vs := ⟨_, rfl⟩
  obtain ⟨S, hS⟩ : ∃ S, S = tupS vs := ⟨_, rfl⟩
  obtain ⟨A, hA⟩ : ∃ A, A = begA vs := ⟨_, rfl⟩
  have hsz : S.size ≤ 100000 := by rw [hS]; exact tupS_small vs
  have HA : Hid (A = ⟨(aft S.data.toList).toArray⟩) := by show _ = _; rw [hA, hS]; rfl
  have T1 : Hid (∀ wx, Below w.heap.size w wx → Calls Try.prog 27 #[v] wx fun e w' => e = .returned (.tuple #[.string S, .int .i64 E]) ∧ Below wx.heap.size wx w') := fun wx hw => by rw [hE, hS]; exact refTuple_any wx v vs (h.later hw)
  have T2 : Hid (∀ wx : World, Calls Try.prog 39 #[.string S] wx fun e w' => e = .returned (.string A) ∧ Below wx.heap.size wx w') := fun wx => by rw [HA.out]; exact refAfter_any wx S (by omega)
  have hc : (E != 0) = true ∧ S = ByteArray.empty ∧ A = ByteArray.empty ∨ E = 0 := by
    by_cases h0 : E = 0
    · exact .inr h0
    · have hs : S = ByteArray.empty := by rw [hS]; unfold tupS; rw [if_neg (by rw [← hE]; exact h0)]
      refine .inl ⟨by simpa using h0, hs, ?_⟩
      rw [HA.out, hs]; rfl
  rw [← hE, ← hS, ← hA]
  clear hE hS hA HA h hsz
  have B0 : Below w.heap.size w w := Below.refl _ _
  rcases hc with ⟨h0, rfl, rfl⟩ | rfl
  · go_enter Try.func29, Try.ntmps29
    go_wp2_with (go_at_call 27; refine (T1.out _ (B0.alloc (Nat.le_refl _) _)).mono ?_; rintro e w2 ⟨rfl, hb2⟩; have B2 : Below w.heap.size w w2 := (B0.alloc (Nat.le_refl _) _).trans (hb2.mono (by simp)); obtain ⟨q0, q1, q2, q3, q4⟩ := two_slot hb2)
    refine bodyPost_ret (v := .tuple #[.agg #[.string ByteArray.empty, .string ByteArray.empty], .int .i64 E]) (by simp [results, Try.results29, go_sem, q0, q1]; try rfl) rfl ⟨rfl, ?_⟩
    exact (B2.setCell (Nat.le_refl _) _).setCell (Nat.le_refl _) _
  · go_enter Try.func29, Try.ntmps29
    go_wp2_with (first
      | (go_at_call 27; refine (T1.out _ (B0.alloc (Nat.le_refl _) _)).mono ?_; rintro e w2 ⟨rfl, hb2⟩; have B2 : Below w.heap.size w w2 := (B0.alloc (Nat.le_refl _) _).trans (hb2.mono (by simp)); obtain ⟨q0, q1, q2, q3, q4⟩ := two_slot hb2)
      | (go_at_call 39; refine (T2.out _).mono ?_; rintro e w3 ⟨rfl, hb3⟩; have B3 : Below w.heap.size w w3 := B2.trans (hb3.mono B2.size); have r0 := (hb3.cell (p := ⟨w.heap.size, 0, none⟩) q4).trans q0; have r1 := (hb3.cell (p := ⟨w.heap.size, 1, none⟩) q4).trans q1; have r2 := (hb3.frozen (p := ⟨w.heap.size, 0, none⟩) q4).trans q2; have r3 := (hb3.frozen (p := ⟨w.heap.size, 1, none⟩) q4).trans q3; have r4 := Nat.lt_of_lt_of_le q4 hb3.size))
    refine bodyPost_ret (v := .tuple #[.agg #[.string S, .string A], .int .i64 0]) (by simp [results, Try.results29, go_sem, r0, r1]; try rfl) rfl ⟨rfl, ?_⟩
    exact (B3.setCell (Nat.le_refl _) _).setCell (Nat.le_refl _) _

end Go.Proofs.Ytbcbdaaaglkjhaa
