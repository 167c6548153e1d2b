/-
  Two filters put together, with every error: what the program's call answers, and the document's.
-/
import Derived.Test.YtanpnibabnedbaaBmBoth
import Derived.Test.YtanpnibabnedbaaBmRef1
namespace Go.Proofs.Ytanpnibabnedbaa
open Go.RowKit

theorem hide {p : Prop} (h : p) : Hid p := h

def fits (f g : List UInt8) : Bool := decide (f.length = g.length) && decide (f.headD 0 = g.headD 0)
def bothE (f g : List UInt8) : Int := if (Bm.ok f && Bm.ok g) = true then (if fits f g = true then 0 else 2) else 5
def bothL (f g : List UInt8) : List UInt8 := if (Bm.ok f && Bm.ok g) = true then (if fits f g = true then Bm.both f g else []) else []

theorem both_five {f g : List UInt8} (h : (Bm.ok f && Bm.ok g) = false) : bothE f g = 5 ∧ bothL f g = [] := by unfold bothE bothL; rw [h]; exact ⟨rfl, rfl⟩
theorem both_two {f g : List UInt8} (h1 : Bm.ok f = true) (h2 : Bm.ok g = true) (h : fits f g = false) : bothE f g = 2 ∧ bothL f g = [] := by unfold bothE bothL; rw [h1, h2, h]; exact ⟨rfl, rfl⟩
theorem both_zero {f g : List UInt8} (h1 : Bm.ok f = true) (h2 : Bm.ok g = true) (h : fits f g = true) : bothE f g = 0 ∧ bothL f g = Bm.both f g := by unfold bothE bothL; rw [h1, h2, h]; exact ⟨rfl, rfl⟩

theorem at_of {w : World} {a : Option Addr} {cap : Nat} {f : List UInt8} (h : BytesIn w (.slice a f.length cap) f) (h0 : f ≠ []) : ∃ b off, a = some ⟨b, off, none⟩ ∧ BytesAt w b off f := by
  obtain ⟨⟨a', c', e, hf⟩, _⟩ := h
  simp only [Value.slice.injEq] at e
  rw [e.1]
  exact hf h0

set_option maxHeartbeats 1600000 in
theorem both_any (w : World) (a b : Option Addr) (ca cb : Nat) (f g : List UInt8) (hf : BytesIn w (.slice a f.length ca) f) (hg : BytesIn w (.slice b g.length cb) g) :
    Calls Try.prog 17 #[.slice a f.length ca, .slice b g.length cb] w fun e w' => ∃ v, e = .returned (.tuple #[v, .int .i64 (bothE f g)]) ∧ Ext w.heap.size w (.slice none 0 0) w' v (bothL f g) := by
  have CF := hide (check_any w a ca f hf)
  have CG := hide (check_any w b cb g hg)
  cases h1 : Bm.ok f
  · obtain ⟨e1, e2⟩ := both_five (f := f) (g := g) (by rw [h1]; rfl)
    rw [okE_bad h1] at CF
    rw [e1, e2]
    clear hf hg h1 CG e1 e2
    go_enter Try.func17, Try.ntmps17
    go_wp2_with (go_at_call 11; refine CF.out.mono ?_; rintro e w1 ⟨rfl, rfl⟩; clear CF)
    go_ret2
    exact ⟨_, rfl, ext_nil (World.grownBy.refl _ _)⟩
  · rw [okE_ok h1] at CF
    cases h2 : Bm.ok g
    · obtain ⟨e1, e2⟩ := both_five (f := f) (g := g) (by rw [h1, h2]; rfl)
      rw [okE_bad h2] at CG
      rw [e1, e2]
      clear hf hg h1 h2 e1 e2
      go_enter Try.func17, Try.ntmps17
      go_wp2_with (first
        | (have gate := CF; go_at_call 11; refine gate.out.mono ?_; rintro e w1 ⟨rfl, rfl⟩; clear CF gate)
        | (have gate := CG; go_at_call 11; refine gate.out.mono ?_; rintro e w2 ⟨rfl, rfl⟩; clear CG gate))
      go_ret2
      exact ⟨_, rfl, ext_nil (World.grownBy.refl _ _)⟩
    · rw [okE_ok h2] at CG
      have k1 := (ok_iff f).mp h1
      have k2 := (ok_iff g).mp h2
      obtain ⟨b1, o1, rfl, a1⟩ := at_of hf (by intro h; rw [h] at k1; simp at k1)
      obtain ⟨b2, o2, rfl, a2⟩ := at_of hg (by intro h; rw [h] at k2; simp at k2)
      by_cases hl : f.length = g.length
      · by_cases hh : f.headD 0 = g.headD 0
        · obtain ⟨e1, e2⟩ := both_zero h1 h2 (by unfold fits; rw [decide_eq_true hl, decide_eq_true hh]; rfl)
          rw [e1, e2]
          refine (both_ok w b1 o1 ca b2 o2 cb f g a1 a2 hf.len h1 h2 hl hh).mono ?_
          rintro e w' ⟨B, rfl, x⟩
          exact ⟨_, rfl, x⟩
        · obtain ⟨e1, e2⟩ := both_two h1 h2 (by unfold fits; rw [decide_eq_false hh, Bool.and_false])
          rw [e1, e2]
          have d0 := a1 0 (by omega)
          have d1 := a2 0 (by omega)
          obtain ⟨x, hx⟩ : ∃ k : Nat, k = (f.headD 0).toNat := ⟨_, rfl⟩
          obtain ⟨y, hy⟩ : ∃ k : Nat, k = (g.headD 0).toNat := ⟨_, rfl⟩
          rw [headD_get f (by omega), ← hx, Nat.add_zero] at d0
          rw [headD_get g (by omega), ← hy, Nat.add_zero] at d1
          have nxy : ((x : Int) != (y : Int)) = true := by
            simp
            intro e
            exact hh (UInt8.toNat_inj.mp (by rw [← hx, ← hy]; omega))
          rw [← hl] at CG ⊢
          obtain ⟨n, hn⟩ : ∃ n, n = f.length := ⟨_, rfl⟩
          rw [← hn] at CF CG ⊢
          have i0 : (0 : Int) < (n : Int) := by omega
          have iN : ((n : Int) != (n : Int)) = false := by simp
          clear hf hg h1 h2 e1 e2 k1 k2 a1 a2 hl hh hx hy hn
          go_enter Try.func17, Try.ntmps17
          go_wp2_with (first
            | (have gate := CF; go_at_call 11; refine gate.out.mono ?_; rintro e w1 ⟨rfl, rfl⟩; clear CF gate)
            | (have gate := CG; go_at_call 11; refine gate.out.mono ?_; rintro e w2 ⟨rfl, rfl⟩; clear CG gate))
          go_quiet (fail)
          go_wp2_with (fail)
          go_ret2
          exact ⟨_, rfl, ext_nil ⟨rfl, rfl, rfl, Nat.le_refl _, fun _ _ _ => rfl⟩⟩
      · obtain ⟨e1, e2⟩ := both_two h1 h2 (by unfold fits; rw [decide_eq_false hl, Bool.false_and])
        rw [e1, e2]
        obtain ⟨n, hn⟩ : ∃ n, n = f.length := ⟨_, rfl⟩
        obtain ⟨m, hm⟩ : ∃ n, n = g.length := ⟨_, rfl⟩
        rw [← hn] at CF ⊢
        rw [← hm] at CG ⊢
        have iN : ((n : Int) != (m : Int)) = true := by simp; omega
        clear hf hg h1 h2 e1 e2 k1 k2 a1 a2 hl hn hm
        go_enter Try.func17, Try.ntmps17
        go_wp2_with (first
          | (have gate := CF; go_at_call 11; refine gate.out.mono ?_; rintro e w1 ⟨rfl, rfl⟩; clear CF gate)
          | (have gate := CG; go_at_call 11; refine gate.out.mono ?_; rintro e w2 ⟨rfl, rfl⟩; clear CG gate))
        go_quiet (fail)
        go_wp2_with (fail)
        go_ret2
        exact ⟨_, rfl, ext_nil ⟨rfl, rfl, rfl, Nat.le_refl _, fun _ _ _ => rfl⟩⟩
end Go.Proofs.Ytanpnibabnedbaa
