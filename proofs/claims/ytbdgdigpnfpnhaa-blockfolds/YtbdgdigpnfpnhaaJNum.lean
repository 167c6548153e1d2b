/-
  Numbers and texts put behind bytes that a call owns, as the block's inner calls do it.
-/
import Derived.Test.YtbdgdigpnfpnhaaKC
import Derived.Test.YtbdgdigpnfpnhaaKD
import Derived.Lib.AppendStr
import Derived.RangeFuncBox
namespace Go.Proofs.Ytbdgdigpnfpnhaa
open Go.RowKit

theorem own_below {base : Nat} {w w' : World} {e s n : Nat} {v : Value} {xs : List Value} (h : w.ownsRow base e s v n xs) (hb : base ≤ w.heap.size) (hg : w.grownBy w' v.ownBlock) : Below base w w' :=
  (Below.refl _ _).grown hg hb (fun k hk => by
    rcases h.2 with ⟨rfl, _⟩ | ⟨g, cap, cur, rfl, hge, _⟩
    · cases hk
    · cases hk; exact hge)
theorem own_after {base : Nat} {w w' : World} {e s n : Nat} {v : Value} {xs : List Value} (h : w.ownsRow base e s v n xs) (hb : Below w.heap.size w w') : w'.ownsRow base e s v n xs :=
  h.kept (row := none) ⟨hb.os, hb.tape, hb.output, hb.size, fun k hk _ => hb.block k hk⟩ (by cases v.ownBlock with | none => exact .inl rfl | some g => exact .inr (by simp))

theorem wext_after {base : Nat} {w w1 w2 : World} {v v2 : Value} {l : List UInt8} (hb : Below w.heap.size w w1) (h : Ext base w1 v w2 v2 l) : Ext base w v w2 v2 l :=
  ⟨h.own, grownBy_trans (grown_any hb) h.grown (.inl rfl), by
    rcases h.lies with e | ⟨g, e, hg⟩
    · exact .inl e
    · exact .inr ⟨g, e, Nat.le_trans hb.size hg⟩⟩
theorem ext_off {base : Nat} {a b : World} {g n cap g' n' cap' : Nat} {l : List UInt8} (h : Ext base a (.slice (some ⟨g, 0, none⟩) n cap) b (.slice (some ⟨g', 0, none⟩) n' cap') l) {q : Nat} (hq : q < a.heap.size) (hg : ¬ q = g) : ¬ q = g' := by
  rcases h.lies with e | ⟨k, e, hk⟩
  · simp [Value.ownBlock] at e
    omega
  · simp [Value.ownBlock] at e
    omega
theorem own_chain {base : Nat} {w wr X w8 w9 : World} {g n cap m g8 n8 cap8 m8 : Nat} {xs ys : List Value} (hb : base ≤ w.heap.size) (bx : Below base w wr) (h : wr.ownsRow base 5 1 (.slice (some ⟨g, 0, none⟩) n cap) m xs) (hX : Below wr.heap.size wr X) (b8 : X.grownBy w8 (some g)) (h8 : w8.ownsRow base 5 1 (.slice (some ⟨g8, 0, none⟩) n8 cap8) m8 ys) (z8 : base ≤ w8.heap.size) (b9 : w8.grownBy w9 (some g8)) : Below base w w9 := by
  have c1 : Below base w X := bx.trans (hX.mono (Nat.le_trans hb bx.size))
  have hg : base ≤ g := (h.lt g rfl).1
  have c2 := c1.grown b8 (Nat.le_trans hb c1.size) (fun k hk => by cases hk; exact hg)
  exact c2.trans (own_below h8 z8 b9)
theorem strCells_bc (l : List UInt8) : Lib.strCells ⟨l.toArray⟩ = bc l := by simp [Lib.strCells, bc]

set_option maxHeartbeats 800000 in
theorem appNum_any (w : World) (base : Nat) (v : Value) (l : List UInt8) (x : Nat) (hx : x ≤ 9223372036854775807) (h : w.ownsRow base 5 1 v l.length (bc l)) (hb : base ≤ w.heap.size) (hl : l.length ≤ 1000000000) :
    Calls Try.prog 79 #[v, .int .i64 (x : Int)] w fun e w' => ∃ v', e = .returned v' ∧ Ext base w v w' v' (l ++ Enc.leb x) := by
  have hw : IntKind.u64.wrap (x : Int) = (x : Int) := by rw [IntKind.wrap_u64]; omega
  have AP : Hid (Calls Try.prog 88 #[.slice none 0 0, .int .u64 (x : Int)] w fun e w' => ∃ g c, e = .returned (.slice (some ⟨g, 0, none⟩) (Enc.leb x).length c) ∧ Ext w.heap.size w (.slice none 0 0) w' (.slice (some ⟨g, 0, none⟩) (Enc.leb x).length c) (Enc.leb x)) := by
    refine (Enc.append_any w (.slice none 0 0) [] x ⟨⟨none, 0, rfl, fun h => absurd rfl h⟩, by simp⟩ (fun a b e => by cases e; rfl) (by omega) (by simp)).mono ?_
    rintro e w' ⟨v', rfl, hx'⟩
    rw [List.nil_append] at hx'
    obtain ⟨g, c, rfl⟩ := hx'.some (by have := Enc.leb_pos x; intro e; rw [e] at this; simp at this)
    exact ⟨g, c, rfl, hx'⟩
  have hlp := Enc.leb_pos x
  have hl10 := Enc.leb_len64 x (by omega)
  have H : Hid (w.ownsRow base 5 1 v l.length (bc l)) := h
  obtain ⟨q, hq⟩ : ∃ q, q = Enc.leb x := ⟨_, rfl⟩
  rw [← hq] at AP hlp hl10 ⊢
  have R1 : Hid (l.length + q.length ≤ 140737488355328) := by show _ ≤ _; omega
  obtain ⟨m, hm⟩ : ∃ m, m = q.length := ⟨_, rfl⟩
  rw [← hm] at AP
  have HM : Hid (m = q.length) := hm
  have HP : Hid (0 < q.length) := hlp
  clear h hq hx hlp hl10 hm hl
  go_enter Try.func79, Try.ntmps79
  go_wp2_with (first
    | (go_at_call 88; refine AP.out.mono ?_; rintro e w1 ⟨g1, c1, rfl, x1⟩; have b1 := below_of x1.grown; have o1 : Hid _ := own_after H.out b1; have z1 : base ≤ w1.heap.size := Nat.le_trans hb b1.size; have y1 : Hid _ := x1.own; clear AP x1)
    | (at_builtin; refine wpList_append_bytes _ rfl _ _ rfl base v l q rfl o1.out ⟨g1, 0, none⟩ m c1 rfl HM.out (own_cells (by have := y1.out; rw [← HM.out] at this; exact this)) HP.out R1.out z1 ?_; intro g2 cap2 L2 w2 HL2 x2 lt2))
  go_ret
  exact ⟨_, rfl, wext_after b1 x2⟩

set_option maxHeartbeats 800000 in
theorem appText_any (w : World) (base : Nat) (v : Value) (l s : List UInt8) (hs : s.length ≤ 1000000) (h : w.ownsRow base 5 1 v l.length (bc l)) (hb : base ≤ w.heap.size) (hl : l.length ≤ 1000000000) :
    Calls Try.prog 81 #[v, str s] w fun e w' => ∃ v', e = .returned v' ∧ w'.ownsRow base 5 1 v' (l ++ Bk.text s).length (bc (l ++ Bk.text s)) ∧ w.grownBy w' v.ownBlock := by
  obtain ⟨i0, hi, hz0, hz1, hz2⟩ := info_parts Try.info5
  have AP := appNum_any w base v l s.length (by omega) h hb hl
  have hl10 := Enc.leb_len64 s.length (by omega)
  have e1 : Hid (l ++ Enc.leb s.length ++ s = l ++ Bk.text s) := by show _ = _; unfold Bk.text; rw [List.append_assoc]
  rw [← e1.out]
  obtain ⟨q, hq⟩ : ∃ q, q = l ++ Enc.leb s.length := ⟨_, rfl⟩
  rw [← hq] at AP ⊢
  have R1 : q.length + s.length ≤ 140737488355328 := by rw [hq, List.length_append]; omega
  have M1 : Hid (q.length + (⟨s.toArray⟩ : ByteArray).size ≤ maxLen) := by show _ + s.toArray.size ≤ _; simp [maxLen]; omega
  have M2 : Hid (q.length + (⟨s.toArray⟩ : ByteArray).size ≤ 140737488355328) := by show _ + s.toArray.size ≤ _; simp; omega
  clear h hq hl10 e1 hl R1
  go_enter Try.func81, Try.ntmps81
  go_wp2_with (first
    | (go_at_call 79; refine AP.mono ?_; rintro e w1 ⟨v1, rfl, x1⟩; have z1 : base ≤ w1.heap.size := Nat.le_trans hb x1.size; have X1 : Hid _ := x1; clear AP x1)
    | (at_builtin; refine Lib.wpList_append_own_string _ rfl _ _ 89 9 rfl base 5 i0 Try.underlying89 Try.underlying9 hi hz0 hz1 hz2 v1 q.length (bc q) rfl X1.out.own ⟨s.toArray⟩ rfl M1.out M2.out z1 ?_; intro v2 w2 o2 g2 _))
  go_ret
  refine ⟨_, rfl, ?_, grownBy_trans X1.out.grown g2 X1.out.lies⟩
  rw [strCells_bc, ← bc_append] at o2
  have : q.length + (⟨s.toArray⟩ : ByteArray).size = (q ++ s).length := by rw [List.length_append]; show _ + s.toArray.size = _; simp
  rw [this] at o2
  exact o2

theorem own_some {base : Nat} {w : World} {v : Value} {l : List UInt8} (h : w.ownsRow base 5 1 v l.length (bc l)) (hl : l ≠ []) : ∃ g cap, v = .slice (some ⟨g, 0, none⟩) l.length cap := by
  rcases h.2 with ⟨_, h0⟩ | ⟨g, cap, cur, rfl, _⟩
  · exact absurd (List.eq_nil_of_length_eq_zero h0) hl
  · exact ⟨g, cap, rfl⟩

/-- One byte that is written out. -/
theorem lit_bytes (W : World) (B : Nat) (hB : B = W.heap.size) (c : UInt8) (x : Int) (hx : x = (c.toNat : Int)) : BytesIn (W.alloc (.cells #[.int .u8 x] 5)) (.slice (some ⟨B, 0, none⟩) 1 1) [c] := by
  subst hB
  subst hx
  refine BytesIn.block (World.alloc_heap_new W _) [c] (by simp) (fun j hj => ?_) 1 1 rfl
  have : j = 0 := by simp at hj; exact hj
  subst this
  rfl

end Go.Proofs.Ytbdgdigpnfpnhaa
