/-
  Bytes put behind bytes that the call owns, none of them, too. .. and what follows from it.
-/
import Derived.Test.YtlhnjloimhcpfabGreatDoorKMake
namespace Go.Proofs.YtlhnjloimhcpfabGreatDoor
open Go.RowKit

theorem wpList_app_bytes (w : World) {ops : Array Oper} {rest : List Oper} {o : Oper} {a : Act} {Q : Exit → Act → World → Prop} (hg : o.guard = none) (s x : Operand)
    (hop : o.op = .call { callee := .builtin .append, args := #[s, x], argTypes := #[33, 33] })
    (base g cap : Nat) (l m : List UInt8) (n k c : Nat) (hn : n = l.length) (hk : k = m.length) (hs : a.eval s = .slice (some ⟨g, 0, none⟩) n cap) (hown : w.ownsRow base 5 1 (.slice (some ⟨g, 0, none⟩) n cap) n (bc l))
    (ao : Option Addr) (hx : a.eval x = .slice ao k c) (hin : BytesIn w (.slice ao k c) m) (hnone : ao = none → c = 0) (hroom : l.length + m.length ≤ 140737488355328) (hbase : base ≤ w.heap.size)
    (h : ∀ g' cap' L w', Hid (L = (l ++ m).length) → Ext base w (.slice (some ⟨g, 0, none⟩) n cap) w' (.slice (some ⟨g', 0, none⟩) L cap') (l ++ m) → wpList Tryz.prog ops Q rest (a.put o.dst (.slice (some ⟨g', 0, none⟩) L cap')) w') :
    wpList Tryz.prog ops Q (o :: rest) a w := by
  subst hk hn
  obtain ⟨i0, hi, hz0, hz1, hz2⟩ := info_parts Tryz.info5
  have hcap := own_cap hown
  have hno := bytes_nil_ok hin
  obtain ⟨⟨a', cap', e, hf⟩, hlen⟩ := hin
  simp only [Value.slice.injEq, true_and] at e
  obtain ⟨rfl, rfl⟩ := e
  by_cases hm : m = []
  · subst hm
    refine wpList_append_fits_any w hg s x 33 hop base 5 i0 1 Tryz.underlying33 hi hz1 g l.length cap (bc l) hs hown ao 0 c [] hx rfl (fun h0 => ⟨rfl, hnone h0⟩) (fun ad _ j u hj => by simp at hj) (by simp) (by omega) ?_
    intro w' h1 h2
    refine h g cap l.length w' (by simp [Hid]) ⟨?_, h2, .inl rfl⟩
    rw [List.append_nil] at h1 ⊢
    exact h1
  · obtain ⟨b, off, rfl, hat⟩ := hf hm
    refine wpList_append_bytes w hg s x hop base _ l m hs hown ⟨b, off, none⟩ m.length c hx rfl (BytesIn.cells (fun _ => ⟨b, off, rfl, hat⟩) _ rfl) (List.length_pos_iff.mpr hm) hroom hbase ?_
    intro g' cap' L w' hL hx' _
    exact h g' cap' L w' hL hx'

/-- No bytes, with room for some. -/
theorem make_room (n : Nat) (hn : n ≤ 140737488355328) (z : Int) (hz : z = (n : Int)) (u : World) : (Instr.makeSlice 33 (.int .i64 0) (.int .i64 z)).run Tryz.prog u =
    .ok (.slice (some ⟨u.heap.size, 0, none⟩) 0 n) (u.alloc (.cells (zeros n) 5)) := by
  subst hz
  obtain ⟨i0, hi, hz0, hz1, hz2⟩ := info_parts Tryz.info5
  have h := run_make (P := Tryz.prog) u 33 5 i0 (.int .u8 0) Tryz.underlying33 hi hz0 .i64 .i64 0 (n : Int) (by omega) (by omega) (by rw [hz2]; omega) (by omega)
  rw [hz1, Int.toNat_natCast, Nat.mul_one] at h
  rw [← zeros_made]
  exact h

theorem room_ext (w : World) (n : Nat) (hn : n ≤ 140737488355328) : Ext w.heap.size w (.slice none 0 0) (w.alloc (.cells (zeros n) 5)) (.slice (some ⟨w.heap.size, 0, none⟩) 0 n) [] := by
  refine ⟨World.ownsRow_made w _ n (Nat.le_refl _) (by unfold maxLen; omega) (by simp [zeros]), World.grownBy_alloc w _ _, .inr ⟨_, rfl, Nat.le_refl _⟩⟩
end Go.Proofs.YtlhnjloimhcpfabGreatDoor
namespace Go.Proofs.YtlhnjloimhcpfabGreatDoor
open Go.RowKit

theorem wp_app_bytes (w : World) {o : Oper} {a : Act} {K : Act → World → Prop} {Q : Exit → Act → World → Prop} (s x : Operand)
    (hop : o.op = .call { callee := .builtin .append, args := #[s, x], argTypes := #[33, 33] })
    (base g cap : Nat) (l m : List UInt8) (n k c : Nat) (hn : n = l.length) (hk : k = m.length) (hs : a.eval s = .slice (some ⟨g, 0, none⟩) n cap) (hown : w.ownsRow base 5 1 (.slice (some ⟨g, 0, none⟩) n cap) n (bc l))
    (ao : Option Addr) (hx : a.eval x = .slice ao k c) (hin : BytesIn w (.slice ao k c) m) (hnone : ao = none → c = 0) (hroom : l.length + m.length ≤ 140737488355328) (hbase : base ≤ w.heap.size)
    (h : ∀ g' cap' L w', Hid (L = (l ++ m).length) → Ext base w (.slice (some ⟨g, 0, none⟩) n cap) w' (.slice (some ⟨g', 0, none⟩) L cap') (l ++ m) → K (a.put o.dst (.slice (some ⟨g', 0, none⟩) L cap')) w') :
    Oper.wp Tryz.prog o a w K Q := by
  subst hk hn
  obtain ⟨i0, hi, hz0, hz1, hz2⟩ := info_parts Tryz.info5
  have hcap := own_cap hown
  obtain ⟨⟨a', cap', e, hf⟩, hlen⟩ := hin
  simp only [Value.slice.injEq, true_and] at e
  obtain ⟨rfl, rfl⟩ := e
  by_cases hm : m = []
  · subst hm
    have hfin : ∀ w', w'.ownsRow base 5 1 (.slice (some ⟨g, 0, none⟩) l.length cap) l.length (bc l) → w.grownBy w' (some g) → K (a.put o.dst (.slice (some ⟨g, 0, none⟩) l.length cap)) w' := fun w' h1 h2 => by
      refine h g cap l.length w' (by simp [Hid]) ⟨?_, h2, .inl rfl⟩
      rw [List.append_nil]
      exact h1
    cases ao with
    | some ad =>
      obtain ⟨w', hrun, r1, r2⟩ := run_append_fits (P := Tryz.prog) w base 33 o.type 5 i0 1 Tryz.underlying33 hi hz1 g l.length cap (bc l) hown ad 0 c [] rfl (fun j u hj => by simp at hj) (by simp) (by omega)
      unfold Oper.wp
      simp [execOp, hop, resolve, invoke, builtin, hs, hx, hrun, Result.andThen]
      exact hfin w' (by simpa using r1) r2
    | none =>
      have hc0 := hnone rfl
      subst hc0
      have hrun := run_append_owned_none (P := Tryz.prog) w base 33 o.type 5 i0 1 Tryz.underlying33 hi _ l.length (bc l) hown
      unfold Oper.wp
      simp [execOp, hop, resolve, invoke, builtin, hs, hx, hrun, Result.andThen]
      exact hfin w hown (World.grownBy.refl _ _)
  · obtain ⟨b, off, rfl, hat⟩ := hf hm
    refine wp_append_lies w s x 33 hop base 5 i0 (.int .u8 0) 1 1 Tryz.underlying33 hi hz0 hz1 hz2 rfl (by decide) _ l.length (bc l) hs hown ⟨b, off, none⟩ m.length c (bc m) hx (by rw [bc_length]; omega) (BytesIn.cells (fun _ => ⟨b, off, rfl, hat⟩) _ rfl) (bc_one m) (List.length_pos_iff.mpr hm) (by unfold maxLen; omega) (by omega) hbase _ rfl ?_
    intro g' cap' w' h1 h2 h3 h4
    have he : (l ++ m).length = l.length + m.length := List.length_append
    refine h g' cap' (l.length + m.length) w' he.symm ⟨by rw [he, bc_append]; exact h1, h2, ?_⟩
    rcases h3 with h3 | h3
    · exact .inl h3.symm
    · exact .inr ⟨g', rfl, by omega⟩

theorem step_app_bytes (w : World) {ops : Array Oper} {o : Oper} {a : Act} {K : Act → World → Prop} {Q : Exit → Act → World → Prop} {E : Prop} (hgd : o.guard = none) (s x : Operand)
    (hop : o.op = .call { callee := .builtin .append, args := #[s, x], argTypes := #[33, 33] })
    (base g cap : Nat) (l m : List UInt8) (n k c : Nat) (hn : n = l.length) (hk : k = m.length) (hs : a.eval s = .slice (some ⟨g, 0, none⟩) n cap) (hown : w.ownsRow base 5 1 (.slice (some ⟨g, 0, none⟩) n cap) n (bc l))
    (ao : Option Addr) (hx : a.eval x = .slice ao k c) (hin : BytesIn w (.slice ao k c) m) (hnone : ao = none → c = 0) (hroom : l.length + m.length ≤ 140737488355328) (hbase : base ≤ w.heap.size)
    (h : ∀ g' cap' L w', Hid (L = (l ++ m).length) → Ext base w (.slice (some ⟨g, 0, none⟩) n cap) w' (.slice (some ⟨g', 0, none⟩) L cap') (l ++ m) → K (a.put o.dst (.slice (some ⟨g', 0, none⟩) L cap')) w') :
    if Region.wanted o (yielded ops a.tmps) = true then Oper.wp Tryz.prog o a w K Q else E := by
  have hw : Region.wanted o (yielded ops a.tmps) = true := by simp [Region.wanted, hgd]
  rw [if_pos hw]
  exact wp_app_bytes w s x hop base g cap l m n k c hn hk hs hown ao hx hin hnone hroom hbase h
end Go.Proofs.YtlhnjloimhcpfabGreatDoor
