/-
  Copies of bytes: the call of the kit.
-/
import Derived.Test.YtanhmebjfockjaaJKSame
namespace Go.Proofs.Ytanhmebjfockjaa
open Go.RowKit

set_option maxHeartbeats 800000 in
theorem copyBytes_any (w : World) (a0 : Option Addr) (c0 : Nat) (l : List UInt8) (h : BytesIn w (.slice a0 l.length c0) l) (hn : a0 = none → c0 = 0) :
    Calls Try.prog 69 #[.slice a0 l.length c0] w fun e w' => ∃ g cap, e = .returned (.slice (some ⟨g, 0, none⟩) l.length cap) ∧ Ext w.heap.size w (.slice none 0 0) w' (.slice (some ⟨g, 0, none⟩) l.length cap) l := by
  have L0 := Ext.lit0 w.heap.size w #[] [] 0 (Nat.le_refl _) rfl rfl (by decide)
  have K0 : Below w.heap.size w (w.alloc (.cells #[] 5)) := (Below.refl _ _).alloc (Nat.le_refl _) _
  have V0 := h.later K0
  have hl := h.len
  clear h
  go_enter Try.func69, Try.ntmps69
  go_wp2_with (at_builtin; refine wpList_copy_bytes _ rfl _ _ rfl w.heap.size w.heap.size l l.length c0 rfl rfl L0.own a0 rfl V0 hn hl K0.size ?_; intro g1 cap1 L1 w1 HL1 hx1; have R := L0.trans hx1; clear L0 hx1 V0 K0)
  go_ret
  have e := HL1.out
  subst e
  exact ⟨g1, cap1, rfl, R⟩
end Go.Proofs.Ytanhmebjfockjaa
