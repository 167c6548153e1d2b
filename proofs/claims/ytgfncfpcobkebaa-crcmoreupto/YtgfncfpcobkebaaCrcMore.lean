/-
  Proved: for all bytes a and b that hold together at most 1048576 values the call CrcMore(a, b) returns true and leaves its arguments as they were: a checksum can be made piece by piece.
  Conditions: the arguments' bulk is bounded (the form 'Upto'): the statement joins two slices.
-/
import Derived.Test.YtgfncfpcobkebaaCFrame
import Derived.Test.YtgfncfpcobkebaaBulk
import Derived.Deep.CondSized
namespace Go.Proofs.Ytgfncfpcobkebaa.crcMore
open Go.ChangeShapes Go.WideShapes Go.ChangeAt Go.RowKit
open Go.Proofs.Ytgfncfpcobkebaa

/-- Bytes put behind bytes that the call owns: none of them, too. -/
theorem wpList_append_more (w : World) {ops : Array Oper} {rest : List Oper} {o : Oper} {a : Act} {Q : Exit → Act → World → Prop} (hg : o.guard = none) (s x : Operand)
    (hop : o.op = .call { callee := .builtin .append, args := #[s, x], argTypes := #[22, 22] })
    (base g cap L : Nat) (l m : List UInt8) (hL : L = l.length) (k c : Nat) (hk : k = m.length) (hs : a.eval s = .slice (some ⟨g, 0, none⟩) L cap) (hown : w.ownsRow base 5 1 (.slice (some ⟨g, 0, none⟩) L cap) L (bc l))
    (ao : Option Addr) (hx : a.eval x = .slice ao k c) (hin : BytesIn w (.slice ao k c) m) (hnone : ao = none → c = 0) (hroom : l.length + m.length ≤ 140737488355328) (hbase : base ≤ w.heap.size)
    (h : ∀ g' cap' L' w', Hid (L' = (l ++ m).length) → Ext base w (.slice (some ⟨g, 0, none⟩) L cap) w' (.slice (some ⟨g', 0, none⟩) L' cap') (l ++ m) → wpList Try.prog ops Q rest (a.put o.dst (.slice (some ⟨g', 0, none⟩) L' cap')) w') :
    wpList Try.prog ops Q (o :: rest) a w := by
  subst hk
  obtain ⟨i0, hi, hz0, hz1, hz2⟩ := info_parts Try.info5
  obtain ⟨⟨a', cap', e, hf⟩, hlen⟩ := hin
  simp only [Value.slice.injEq, true_and] at e
  obtain ⟨rfl, rfl⟩ := e
  by_cases hm : m = []
  · subst hm
    have hc := (own_cap hown).1
    refine wpList_append_fits_any w hg s x 22 hop base 5 i0 1 Try.underlying22 hi hz1 g L cap (bc l) hs hown ao 0 c [] hx rfl (fun h0 => ⟨rfl, hnone h0⟩) (fun ad _ j u hj => by simp at hj) (by simp) (by omega) ?_
    intro w' h1 h2
    rw [List.append_nil] at h1
    refine h g cap (L + 0) w' (by show _ = _; rw [List.append_nil]; omega) ⟨?_, h2, .inl rfl⟩
    rw [List.append_nil, ← hL]
    exact h1
  · obtain ⟨b, off, rfl, hat⟩ := hf hm
    refine wpList_append_bytes w hg s x hop base _ l m hs (by rw [← hL]; exact hown) ⟨b, off, none⟩ m.length c hx rfl (BytesIn.cells (fun _ => ⟨b, off, rfl, hat⟩) _ rfl) (List.length_pos_iff.mpr hm) hroom hbase ?_
    intro g' cap' L' w' hL' hx' _
    exact h g' cap' L' w' hL' hx'

set_option maxHeartbeats 1600000 in
theorem walk (w : World) (a0 a1 : Option Addr) (c0 c1 : Nat) (a b : List UInt8) (ha : BytesIn w (.slice a0 a.length c0) a) (hb : BytesIn w (.slice a1 b.length c1) b) (n0 : a0 = none → c0 = 0) (n1 : a1 = none → c1 = 0) (hl : a.length + b.length ≤ 1048576) :
    Calls Try.prog 7 #[.slice a0 a.length c0, .slice a1 b.length c1] w fun e w' => e = .returned (.bool true) ∧ Below w.heap.size w w' := by
  obtain ⟨s, hs⟩ : ∃ s, s = Crc.sum a := ⟨_, rfl⟩
  obtain ⟨t, ht⟩ : ∃ t, t = Crc.sum (a ++ b) := ⟨_, rfl⟩
  have SA : Hid (∀ wx, Below w.heap.size w wx → Calls Try.prog 11 #[.slice a0 a.length c0] wx fun e w' => e = .returned (.int .u32 (s : Int)) ∧ w' = wx) := fun wx hw => by rw [hs]; exact sum_any wx _ a (ha.later hw)
  have ST : Hid (∀ wx v, BytesIn wx v (a ++ b) → Calls Try.prog 11 #[v] wx fun e w' => e = .returned (.int .u32 (t : Int)) ∧ w' = wx) := fun wx v hv => by rw [ht]; exact sum_any wx v _ hv
  have MB : Hid (∀ wx, Below w.heap.size w wx → Calls Try.prog 12 #[.int .u32 (s : Int), .slice a1 b.length c1] wx fun e w' => e = .returned (.int .u32 (t : Int)) ∧ w' = wx) := fun wx hw => by
    have := more_any wx s (by rw [hs]; exact Crc.sum_lt a) _ b (hb.later hw)
    rw [hs, Crc.more_sum, ← ht] at this
    rw [hs]
    exact this
  have MA : Hid (∀ wx, Below w.heap.size w wx → Calls Try.prog 12 #[.int .u32 0, .slice a0 a.length c0] wx fun e w' => e = .returned (.int .u32 (s : Int)) ∧ w' = wx) := fun wx hw => by rw [hs]; exact more_any wx 0 (by decide) _ a (ha.later hw)
  have L0 := Ext.lit0 w.heap.size w #[] [] 0 (Nat.le_refl _) rfl rfl (by decide)
  have K0 : Below w.heap.size w (w.alloc (.cells #[] 5)) := (Below.refl _ _).alloc (Nat.le_refl _) _
  have V0 := ha.later K0
  have LB : Hid (∀ wx, Below w.heap.size w wx → BytesIn wx (.slice a1 b.length c1) b) := fun wx hw => hb.later hw
  have y0 : a.length ≤ 140737488355328 := by omega
  have Y1 : Hid (a.length + b.length ≤ 140737488355328) := by show _ ≤ _; omega
  have Y2 : Hid ((a ++ b).length ≤ 140737488355328) := by show _ ≤ _; rw [List.length_append]; omega
  have SA1 := SA
  clear ha hb hs ht
  go_enter Try.func7, Try.ntmps7
  go_wp2_with (first
    | (at_builtin; refine wpList_copy_bytes _ rfl _ _ rfl w.heap.size w.heap.size a a.length c0 rfl rfl L0.own a0 rfl V0 n0 y0 K0.size ?_; intro g1 cap1 L1 w1 HL1 hx1; have R1 := L0.trans hx1; have B1 := R1.below (Nat.le_refl _) (by simp [Value.ownBlock]); have O1 : Hid (w1.ownsRow w.heap.size 5 1 (.slice (some ⟨g1, 0, none⟩) L1 cap1) L1 (bc a)) := (by have := R1.own; rw [← HL1.out] at this; exact this); have VB := LB.out _ B1; clear L0 hx1 V0 K0 LB)
    | (at_builtin; refine wpList_append_more _ rfl _ _ rfl w.heap.size g1 cap1 L1 a b HL1.out b.length c1 rfl rfl O1.out a1 rfl VB n1 Y1.out B1.size ?_; intro g2 cap2 L2 w2 HL2 hx2; have R2 := R1.trans hx2; have B2 := R2.below (Nat.le_refl _) (by simp [Value.ownBlock]); have V2 := bytes_of_own R2.own Y2.out; clear R1 R2 hx2 O1 VB)
    | (go_at_call 13; refine (lives_any _).mono ?_; rintro e w3 ⟨rfl, hb3⟩; have B3 := B2.trans (hb3.mono B2.size); have V3 := V2.later hb3; clear V2 hb3)
    | (go_at_call 11; have g := SA1.out _ B3; refine g.mono ?_; rintro e y ⟨rfl, rfl⟩; clear SA1 g)
    | (go_at_call 12; have g := MB.out _ B3; refine g.mono ?_; rintro e y ⟨rfl, rfl⟩; clear MB g)
    | (go_at_call 11; have g := ST.out _ _ V3; refine g.mono ?_; rintro e y ⟨rfl, rfl⟩; clear ST g V3)
    | (go_at_call 12; have g := MA.out _ B3; refine g.mono ?_; rintro e y ⟨rfl, rfl⟩; clear MA g)
    | (go_at_call 11; have g := SA.out _ B3; refine g.mono ?_; rintro e y ⟨rfl, rfl⟩; clear SA g))
  go_ret
  exact ⟨by simp, B3⟩

theorem contract (H : Type) (enc : TypeId × Value → H) (W : World) (base : Nat) (args : Array Value) (ds gs : List (DataW H)) (before : List MemPlace)
    (hval : ∀ (j : Nat) t v, Try.f7.params[j]? = some t → args[j]? = some v → Value.okWide Try.prog W .any base t v)
    (hW : DataW.Whole enc Try.prog Try.f7.params.toList Rows.crcMoreSpec.vars false W args.toList ds gs before) (hk : Rows.uptoSmall H (ds ++ gs) = true) :
    Calls Try.prog 7 args W fun e W' => ∃ v, e = .returned v ∧ Rows.crcMoreSpec.post enc Try.prog Try.f7 false true false false W args v W' := by
  have hW' := hW
  obtain ⟨p, q, hA0, hV, rfl, hfz, hnd⟩ := hW
  have hA : DataW.TrodAll enc Try.prog W 0 (fun _ => true) true Try.f7.params.toList args.toList ds p := hA0
  rw [Try.params7] at hA hval
  obtain ⟨v0, vs0, d0, ds0, p0, q0, hargs, rfl, rfl, h0, r0⟩ := trodAll_cons hA
  obtain ⟨v1, vs1, d1, ds1, p1, q1, rfl, rfl, rfl, h1, r1⟩ := trodAll_cons r0
  obtain ⟨rfl, rfl, rfl⟩ := trodAll_nil r1
  obtain rfl : args = #[v0, v1] := by cases args; simp_all
  obtain ⟨rfl, rfl⟩ := trodVars_none hV
  have k0 := h0
  have k1 := h1
  have lt0 : ∀ x ∈ p0, x.block < W.heap.size := by obtain ⟨m, hm⟩ := k0; exact DataW.trod_lt m _ _ _ hm
  have lt1 : ∀ x ∈ p1, x.block < W.heap.size := by obtain ⟨m, hm⟩ := k1; exact DataW.trod_lt m _ _ _ hm
  obtain ⟨a0, len0, cap0, rfl⟩ := okWide_slice Try.underlying22 (hval 0 22 v0 rfl rfl)
  obtain ⟨a1, len1, cap1, rfl⟩ := okWide_slice Try.underlying22 (hval 1 22 v1 rfl rfl)
  have hb : Rows.uptoBulkAll ([d0, d1] ++ []) ≤ 1048576 := of_decide_eq_true hk
  simp only [List.append_nil, Rows.uptoBulkAll] at hb
  obtain ⟨x0, y0, z0, _⟩ := slice_bulk Try.underlying22 h0
  obtain ⟨x1, y1, z1, _⟩ := slice_bulk Try.underlying22 h1
  obtain ⟨a, rfl, ha, _, n0, _⟩ := bytes_in h0 (fun elems spr e => by have := y0 elems spr e; unfold reachBytes; omega) rfl rfl
  obtain ⟨b, rfl, hb', _, n1, _⟩ := bytes_in h1 (fun elems spr e => by have := y1 elems spr e; unfold reachBytes; omega) rfl rfl
  clear hA0
  refine (walk W a0 a1 cap0 cap1 a b ha hb' n0 n1 (by omega)).mono fun e W' ⟨he, bel⟩ => ?_
  subst he
  exact ⟨_, rfl, _, _, _, [], _, [], hW', trodAll_mk1 (shut_bool Try.underlying4 _), (trodAll_cons_mk (Below.trod laidOut (by kernel_rfl) (of_decide_eq_true (by kernel_rfl)) k0 bel lt0) (trodAll_cons_mk (Below.trod laidOut (by kernel_rfl) (of_decide_eq_true (by kernel_rfl)) k1 bel lt1) trodAll_mk0)), rfl, bel.frame _, fun h => by cases h⟩

set_option maxRecDepth 100000 in
theorem lifted (os : Os) (started : os.Started) (H : Type) (enc : TypeId × Value → H) (F : Stop.Interp) :
    ReturnsInHanded {} Try.checked os 7 .any ((Rows.OpenSpec.upto Rows.crcMoreSpec).pre6 enc Try.prog Try.f7 Rows.crcMoreUptoRow.domain false) (((Rows.OpenSpec.upto Rows.crcMoreSpec).at F).post enc Try.prog Try.f7 false true false false) := by
  refine returnsInHanded_of_cond (C := Try.checked) (s := Rows.OpenSpec.upto Rows.crcMoreSpec) (k := Rows.uptoSmall) rfl own started (by kernel_rfl) Try.func7
    (OpenSpec.witness (enc := enc) (C := Try.checked) (s := Rows.OpenSpec.upto Rows.crcMoreSpec) (k := Rows.uptoSmall) rfl false ⟨#[], #[.slice none 0 0, .slice none 0 0], []⟩ 8 (by kernel_rfl) (by kernel_rfl) (by kernel_rfl)
      (x := ([.nil, .nil], [], [])) (by kernel_rfl) rfl (by kernel_rfl)) ?_
  intro W base args ds gs before hval hW _ hk _
  exact contract H enc W base args ds gs before hval hW hk

theorem over : Rows.crcMoreUptoRow.holds Try.pinned (Rows.OpenSpec.upto Rows.crcMoreSpec) :=
  OpenClaim.holds_of_cond 7 Try.f7 rfl rfl rfl rfl rfl rfl rfl ⟨rfl, rfl, rfl, rfl, rfl⟩ rfl rfl rfl rfl rfl (by kernel_rfl) Try.func7 (by kernel_rfl)
    (of_decide_eq_true (by kernel_rfl)) (by unfold Func.isWrapper; first | (rw [if_pos (by decide +kernel)]; kernel_rfl) | (rw [if_neg (by decide +kernel)]; exact ⟨rfl, rfl⟩))
    (fun os started H enc _ F => lifted os started H enc F)
end Go.Proofs.Ytgfncfpcobkebaa.crcMore

namespace Go.Proofs.Ytgfncfpcobkebaa
/-- THE STATEMENT. -/
theorem crcMoreUpto_holds : Rows.CrcMoreUptoSaid := crcMore.over
#print axioms crcMoreUpto_holds
end Go.Proofs.Ytgfncfpcobkebaa
