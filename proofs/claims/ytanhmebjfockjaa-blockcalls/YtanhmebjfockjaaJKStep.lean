/-
  Bytes put behind bytes that the call owns, within a statement whose parts may be reckoned in more than one order.
-/
import Derived.Test.YtanhmebjfockjaaJKApp
namespace Go.Proofs.Ytanhmebjfockjaa
open Go.RowKit

theorem wp_app_bytes (w : World) {o : Oper} {a : Act} {K : Act → World → Prop} {Q : Exit → Act → World → Prop} (s x : Operand)
    (hop : o.op = .call { callee := .builtin .append, args := #[s, x], argTypes := #[53, 53] })
    (base g cap : Nat) (l m : List UInt8) (n k c : Nat) (hn : n = l.length) (hk : k = m.length) (hs : a.eval s = .slice (some ⟨g, 0, none⟩) n cap) (hown : w.ownsRow base 5 1 (.slice (some ⟨g, 0, none⟩) n cap) n (bc l))
    (ao : Option Addr) (hx : a.eval x = .slice ao k c) (hin : BytesIn w (.slice ao k c) m) (hnone : ao = none → c = 0) (hroom : l.length + m.length ≤ 140737488355328) (hbase : base ≤ w.heap.size)
    (h : ∀ g' cap' L w', Hid (L = (l ++ m).length) → Ext base w (.slice (some ⟨g, 0, none⟩) n cap) w' (.slice (some ⟨g', 0, none⟩) L cap') (l ++ m) → K (a.put o.dst (.slice (some ⟨g', 0, none⟩) L cap')) w') :
    Oper.wp Try.prog o a w K Q := by
  subst hk hn
  obtain ⟨i0, hi, hz0, hz1, hz2⟩ := info_parts Try.info5
  have hcap := own_cap hown
  obtain ⟨⟨a', cap', e, hf⟩, hlen⟩ := hin
  simp only [Value.slice.injEq, true_and] at e
  obtain ⟨rfl, rfl⟩ := e
  by_cases hm : m = []
  · subst hm
    have hfin : ∀ w', w'.ownsRow base 5 1 (.slice (some ⟨g, 0, none⟩) l.length cap) l.length (bc l) → w.grownBy w' (some g) → K (a.put o.dst (.slice (some ⟨g, 0, none⟩) l.length cap)) w' := fun w' h1 h2 => by
      refine h g cap l.length w' (by simp [Hid]) ⟨?_, h2, .inl rfl⟩
      rw [List.append_nil]
      exact h1
    cases ao with
    | some ad =>
      obtain ⟨w', hrun, r1, r2⟩ := run_append_fits (P := Try.prog) w base 53 o.type 5 i0 1 Try.underlying53 hi hz1 g l.length cap (bc l) hown ad 0 c [] rfl (fun j u hj => by simp at hj) (by simp) (by omega)
      unfold Oper.wp
      simp [execOp, hop, resolve, invoke, builtin, hs, hx, hrun, Result.andThen]
      exact hfin w' (by simpa using r1) r2
    | none =>
      have hc0 := hnone rfl
      subst hc0
      have hrun := run_append_owned_none (P := Try.prog) w base 53 o.type 5 i0 1 Try.underlying53 hi _ l.length (bc l) hown
      unfold Oper.wp
      simp [execOp, hop, resolve, invoke, builtin, hs, hx, hrun, Result.andThen]
      exact hfin w hown (World.grownBy.refl _ _)
  · obtain ⟨b, off, rfl, hat⟩ := hf hm
    refine wp_append_lies w s x 53 hop base 5 i0 (.int .u8 0) 1 1 Try.underlying53 hi hz0 hz1 hz2 rfl (by decide) _ l.length (bc l) hs hown ⟨b, off, none⟩ m.length c (bc m) hx (by rw [bc_length]; omega) (BytesIn.cells (fun _ => ⟨b, off, rfl, hat⟩) _ rfl) (bc_one m) (List.length_pos_iff.mpr hm) (by unfold maxLen; omega) (by omega) hbase _ rfl ?_
    intro g' cap' w' h1 h2 h3 h4
    have he : (l ++ m).length = l.length + m.length := List.length_append
    refine h g' cap' (l.length + m.length) w' he.symm ⟨by rw [he, bc_append]; exact h1, h2, ?_⟩
    rcases h3 with h3 | h3
    · exact .inl h3.symm
    · exact .inr ⟨g', rfl, by omega⟩

theorem step_app_bytes (w : World) {ops : Array Oper} {o : Oper} {a : Act} {K : Act → World → Prop} {Q : Exit → Act → World → Prop} {E : Prop} (hgd : o.guard = none) (s x : Operand)
    (hop : o.op = .call { callee := .builtin .append, args := #[s, x], argTypes := #[53, 53] })
    (base g cap : Nat) (l m : List UInt8) (n k c : Nat) (hn : n = l.length) (hk : k = m.length) (hs : a.eval s = .slice (some ⟨g, 0, none⟩) n cap) (hown : w.ownsRow base 5 1 (.slice (some ⟨g, 0, none⟩) n cap) n (bc l))
    (ao : Option Addr) (hx : a.eval x = .slice ao k c) (hin : BytesIn w (.slice ao k c) m) (hnone : ao = none → c = 0) (hroom : l.length + m.length ≤ 140737488355328) (hbase : base ≤ w.heap.size)
    (h : ∀ g' cap' L w', Hid (L = (l ++ m).length) → Ext base w (.slice (some ⟨g, 0, none⟩) n cap) w' (.slice (some ⟨g', 0, none⟩) L cap') (l ++ m) → K (a.put o.dst (.slice (some ⟨g', 0, none⟩) L cap')) w') :
    if Region.wanted o (yielded ops a.tmps) = true then Oper.wp Try.prog o a w K Q else E := by
  have hw : Region.wanted o (yielded ops a.tmps) = true := by simp [Region.wanted, hgd]
  rw [if_pos hw]
  exact wp_app_bytes w s x hop base g cap l m n k c hn hk hs hown ao hx hin hnone hroom hbase h
end Go.Proofs.Ytanhmebjfockjaa
