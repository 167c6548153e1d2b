/-
  Bytes put behind bytes that the call owns, none of them, too.
-/
import Derived.Test.YtanhmebjfockjaaJKMake
namespace Go.Proofs.Ytanhmebjfockjaa
open Go.RowKit

theorem wpList_app_bytes (w : World) {ops : Array Oper} {rest : List Oper} {o : Oper} {a : Act} {Q : Exit → Act → World → Prop} (hg : o.guard = none) (s x : Operand)
    (hop : o.op = .call { callee := .builtin .append, args := #[s, x], argTypes := #[53, 53] })
    (base g cap : Nat) (l m : List UInt8) (n k c : Nat) (hn : n = l.length) (hk : k = m.length) (hs : a.eval s = .slice (some ⟨g, 0, none⟩) n cap) (hown : w.ownsRow base 5 1 (.slice (some ⟨g, 0, none⟩) n cap) n (bc l))
    (ao : Option Addr) (hx : a.eval x = .slice ao k c) (hin : BytesIn w (.slice ao k c) m) (hnone : ao = none → c = 0) (hroom : l.length + m.length ≤ 140737488355328) (hbase : base ≤ w.heap.size)
    (h : ∀ g' cap' L w', Hid (L = (l ++ m).length) → Ext base w (.slice (some ⟨g, 0, none⟩) n cap) w' (.slice (some ⟨g', 0, none⟩) L cap') (l ++ m) → wpList Try.prog ops Q rest (a.put o.dst (.slice (some ⟨g', 0, none⟩) L cap')) w') :
    wpList Try.prog ops Q (o :: rest) a w := by
  subst hk hn
  obtain ⟨i0, hi, hz0, hz1, hz2⟩ := info_parts Try.info5
  have hcap := own_cap hown
  have hno := bytes_nil_ok hin
  obtain ⟨⟨a', cap', e, hf⟩, hlen⟩ := hin
  simp only [Value.slice.injEq, true_and] at e
  obtain ⟨rfl, rfl⟩ := e
  by_cases hm : m = []
  · subst hm
    refine wpList_append_fits_any w hg s x 53 hop base 5 i0 1 Try.underlying53 hi hz1 g l.length cap (bc l) hs hown ao 0 c [] hx rfl (fun h0 => ⟨rfl, hnone h0⟩) (fun ad _ j u hj => by simp at hj) (by simp) (by omega) ?_
    intro w' h1 h2
    refine h g cap l.length w' (by simp [Hid]) ⟨?_, h2, .inl rfl⟩
    rw [List.append_nil] at h1 ⊢
    exact h1
  · obtain ⟨b, off, rfl, hat⟩ := hf hm
    refine wpList_append_bytes w hg s x hop base _ l m hs hown ⟨b, off, none⟩ m.length c hx rfl (BytesIn.cells (fun _ => ⟨b, off, rfl, hat⟩) _ rfl) (List.length_pos_iff.mpr hm) hroom hbase ?_
    intro g' cap' L w' hL hx' _
    exact h g' cap' L w' hL hx'

/-- No bytes, with room for some. -/
theorem make_room (n : Nat) (hn : n ≤ 140737488355328) (z : Int) (hz : z = (n : Int)) (u : World) : (Instr.makeSlice 53 (.int .i64 0) (.int .i64 z)).run Try.prog u =
    .ok (.slice (some ⟨u.heap.size, 0, none⟩) 0 n) (u.alloc (.cells (zeros n) 5)) := by
  subst hz
  obtain ⟨i0, hi, hz0, hz1, hz2⟩ := info_parts Try.info5
  have h := run_make (P := Try.prog) u 53 5 i0 (.int .u8 0) Try.underlying53 hi hz0 .i64 .i64 0 (n : Int) (by omega) (by omega) (by rw [hz2]; omega) (by omega)
  rw [hz1, Int.toNat_natCast, Nat.mul_one] at h
  rw [← zeros_made]
  exact h

theorem room_ext (w : World) (n : Nat) (hn : n ≤ 140737488355328) : Ext w.heap.size w (.slice none 0 0) (w.alloc (.cells (zeros n) 5)) (.slice (some ⟨w.heap.size, 0, none⟩) 0 n) [] := by
  refine ⟨World.ownsRow_made w _ n (Nat.le_refl _) (by unfold maxLen; omega) (by simp [zeros]), World.grownBy_alloc w _ _, .inr ⟨_, rfl, Nat.le_refl _⟩⟩
end Go.Proofs.Ytanhmebjfockjaa
