/-
  What the frames of this layer's statements share: lists of texts that came in.
-/
import Derived.Test.YtanpnibabnedbaaKFrame
import Derived.Test.YtanpnibabnedbaaBmTexts
import Derived.Deep.Strs
import Derived.ChangeMaps5
namespace Go.Proofs.Ytanpnibabnedbaa
open Go.ChangeShapes Go.WideShapes Go.ChangeAt Go.RowKit

theorem add_flat (b off j : Nat) : (⟨b, off, none⟩ : Addr).add j = ⟨b, off + j, none⟩ := by unfold Addr.add; split <;> simp_all

theorem texts_in {H : Type} {enc : TypeId × Value → H} {W : World} {spare : Nat → Bool} {held : Bool} {a : Option Addr} {len cap : Nat} {d : DataW H} {p : List MemPlace} (hk : DataW.Trod enc Try.prog W 0 spare held 26 (.slice a len cap) d p) :
    ∃ l : List ByteArray, len = l.length ∧ TextsIn W (.slice a len cap) l := by
  obtain ⟨fuel, hf⟩ := hk
  rcases Deep.open_strs Try.underlying26 Try.underlying9 (by kernel_rfl) hf with ⟨hcs, _⟩ | ⟨x, l', c', m, Sx, hcs, _, hl, hm, hmm, _, hcell⟩
  · simp [Value.cells] at hcs
    obtain ⟨rfl, rfl, rfl⟩ := hcs
    exact ⟨[], rfl, none, 0, rfl, Nat.le_refl _, by decide, fun _ => rfl, fun h => absurd rfl h⟩
  · simp [Value.cells] at hcs
    obtain ⟨rfl, rfl, rfl⟩ := hcs
    unfold maxLen at hm
    have hlm : len ≤ m := by rw [hmm]; split <;> omega
    refine ⟨(List.range len).map Sx, by simp, some x, cap, by simp, by simp; omega, by omega, (fun e => by cases e), fun h0 => ?_⟩
    have hlen0 : 0 < len := by
      rcases Nat.eq_zero_or_pos len with h | h
      · subst h; exact absurd (by simp) h0
      · exact h
    obtain ⟨b, off, spot⟩ := x
    have hspot : spot = none := by simpa [Addr.add] using World.cell?_spot (hcell 0 (by omega)).1
    subst hspot
    refine ⟨b, off, rfl, fun j hj => ?_⟩
    have hj' : j < len := by simpa using hj
    have := (hcell j (by omega)).1
    rw [add_flat] at this
    rw [this]
    simp
end Go.Proofs.Ytanpnibabnedbaa
