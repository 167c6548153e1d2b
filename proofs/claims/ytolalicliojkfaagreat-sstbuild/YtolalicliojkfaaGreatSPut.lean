/-
  Frames put one behind the other: what the writer's calls answer and leave, where nothing goes wrong; the keys of entries.
-/
import Derived.Test.YtolalicliojkfaaGreatSN
import Derived.Test.YtolalicliojkfaaGreatSE
import Derived.Test.YtolalicliojkfaaGreatSI
import Derived.Test.YtolalicliojkfaaGreatSH
namespace Go.Proofs.YtolalicliojkfaaGreat
open Go.RowKit

set_option maxRecDepth 100000 in
set_option maxHeartbeats 1000000 in
theorem cmpOr_zero (w : World) (L : Nat) (h : w.heap[L]? = some (.cells #[.int .i64 0, .int .i64 0, .int .i64 0] 27 (0, 0))) :
    Calls Tryz.prog 56 #[.slice (some ⟨L, 0, none⟩) 3 3] w fun e w' => e = .returned (.int .i64 0) ∧ w' = w := by
  have C : Hid (∀ j : Nat, j < 3 → w.cell? ⟨L, j, none⟩ = some (.int .i64 0)) := by
    intro j hj
    match j, hj with
    | 0, _ => exact Joins.cell_of_block h 0
    | 1, _ => exact Joins.cell_of_block h 1
    | 2, _ => exact Joins.cell_of_block h 2
  clear h
  go_enter Tryz.func56, Tryz.ntmps56
  go_wp2_with (fail)
  go_loopw [8] (fun i wr => ∃ j : Nat, j ≤ 3 ∧ i = .int .i64 j ∧ wr = w) (fun i _ => 3 - (intOf i).toNat)
  case atStart => exact ⟨0, Nat.zero_le _, rfl, rfl⟩
  case round =>
    obtain ⟨j, hj, rfl, rfl⟩ := hrel
    by_cases hlt : j < 3
    · have c := C.out j hlt
      have q1 : (j : Int) < 3 := by omega
      have q0 : (0 : Int) ≤ (j : Int) := by omega
      go_wp2_with (fail)
      exact ⟨⟨j + 1, by omega, by go_num, trivial⟩, by simp [intOf]; omega⟩
    · have e : j = 3 := by omega
      subst e
      go_wp2_with (fail)
      go_ret
      exact ⟨rfl, rfl⟩

abbrev wrO (vo : Value) : Obj := .cells #[vo, .int .i64 0] 47 (0, 0)
theorem own_neW {w : World} {base n B : Nat} {v u : Value} {xs : List Value} (h : w.ownsRow base 5 1 v n xs) (hb : w.heap[B]? = some (wrO u)) : v.ownBlock ≠ some B := by
  rcases h.2 with ⟨rfl, _⟩ | ⟨g, cap, cur, rfl, _, hg, _⟩
  · intro e; cases e
  · intro e1
    have : g = B := Option.some.inj e1
    subst this
    rw [hg] at hb
    have := (Obj.cells.inj (Option.some.inj hb)).2.1
    revert this
    decide
def PutAns (w : World) (base Wb : Nat) (vo : Value) (q : List UInt8) (w' : World) : Prop :=
  ∃ vo', w'.heap[Wb]? = some (wrO vo') ∧ w'.ownsRow base 5 1 vo' q.length (bc q) ∧ Moved (fun i => i = Wb ∨ vo.ownBlock = some i) w w' ∧ (vo'.ownBlock = vo.ownBlock ∨ ∃ g, vo'.ownBlock = some g ∧ w.heap.size ≤ g)

set_option maxRecDepth 100000 in
set_option maxHeartbeats 4000000 in
theorem sput_any (w : World) (base Wb : Nat) (vo : Value) (o r : List UInt8) (ra : Option Addr) (rc : Nat) (hW : w.heap[Wb]? = some (wrO vo)) (ho : w.ownsRow base 5 1 vo o.length (bc o)) (hr : BytesIn w (.slice ra r.length rc) r) (hrl : r.length ≤ 1048576) (hb : base ≤ w.heap.size) (ol : o.length ≤ 1000000000) :
    Calls Tryz.prog 22 #[.pointer (some ⟨Wb, 0, none⟩), .slice ra r.length rc, .int .i64 0] w fun e w' => e = .returned (.int .i64 ((r.length + 12 : Nat) : Int)) ∧ PutAns w base Wb vo (o ++ frm r) w' := by
  have FA := fappend_any w none ra 0 rc [] r ⟨⟨none, 0, rfl, fun h => absurd rfl h⟩, by simp⟩ hr (fun _ => rfl) hrl (by simp; omega)
  rw [List.length_nil, Nat.zero_add, List.nil_append] at FA
  have HF : Hid ((frm r).length = r.length + 12) := frm_length r
  have HW := hide hW
  have HO := hide ho
  have hWl := (Array.getElem?_eq_some_iff.1 hW).1
  have R1 : Hid (o.length + (frm r).length ≤ 140737488355328) := by show _ ≤ _; rw [HF.out]; omega
  have R0 : Hid (0 < (frm r).length) := by show _ < _; rw [HF.out]; omega
  generalize frm r = q at *
  generalize r.length = rn at *
  clear hW ho hr
  go_enter Tryz.func22, Tryz.ntmps22
  go_wp2_with (fail)
  refine FA.mono ?_
  rintro e w1 ⟨g1, cap1, rfl, x1⟩
  have b1 := below_of x1.grown
  have W1 := keepB b1 HW.out
  obtain ⟨c0, c1, f0, f1, _⟩ := slot2 W1
  have O1 := hide (own_after HO.out b1)
  have Q1 := hide x1.own
  have L1 := World.alloc_heap_new w1 (.cells #[.int .i64 0, .int .i64 0, .int .i64 0] 27)
  have OR := cmpOr_zero _ _ L1
  have a2 : Below w1.heap.size w1 (w1.alloc (.cells #[.int .i64 0, .int .i64 0, .int .i64 0] 27)) := (Below.refl _ _).alloc (Nat.le_refl _) _
  have W2 := keepB a2 W1
  have lt1 := (Array.getElem?_eq_some_iff.1 W1).1
  have ne1 : ¬ w1.heap.size = Wb := by omega
  clear FA
  obtain ⟨W3, hW3⟩ : ∃ W3, W3 = (w1.setCell ⟨Wb, 1, none⟩ (.int .i64 0)).alloc (.cells #[.int .i64 0, .int .i64 0, .int .i64 0] 27) := ⟨_, rfl⟩
  have s3 := grown_set w1 Wb 1 (.int .i64 0)
  have a3 : Below (w1.setCell ⟨Wb, 1, none⟩ (.int .i64 0)).heap.size (w1.setCell ⟨Wb, 1, none⟩ (.int .i64 0)) W3 := by rw [hW3]; exact (Below.refl _ _).alloc (Nat.le_refl _) _
  have O3 := hide (own_after (own_other O1.out s3 (fun i hi e => own_neW O1.out W1 (by rw [hi, e]))) a3)
  have Q3 := hide (own_after (own_other Q1.out s3 (fun i hi e => own_neW Q1.out W1 (by rw [hi, e]))) a3)
  have W3' : W3.heap[Wb]? = some (wrO vo) := keepB a3 ((Joins.block_setCell W1 _).trans rfl)
  have z3 : w.heap.size ≤ W3.heap.size := by have := a3.size; have := s3.size; have := b1.size; omega
  have M3 : Moved (fun i => i = Wb ∨ vo.ownBlock = some i) w W3 := ((Moved.below b1).trans (grown_moved s3) (fun i _ h => .inl (Option.some.inj h).symm)).trans (T := fun _ => False) (Moved.below a3) (fun _ _ h => h.elim)
  have KX : Hid (∀ w2, W3.grownBy w2 vo.ownBlock → w2.heap[Wb]? = some (wrO vo)) := fun w2 hg => (hg.block Wb (Array.getElem?_eq_some_iff.1 W3').1 (fun e => own_neW O3.out W3' e.symm)).trans W3'
  rw [hW3] at O3 Q3
  have z3' : base ≤ ((w1.setCell ⟨Wb, 1, none⟩ (.int .i64 0)).alloc (.cells #[.int .i64 0, .int .i64 0, .int .i64 0] 27)).heap.size := by rw [← hW3]; omega
  have HFs := hide HF.out.symm
  go_wp2_with (first
    | (go_at_call 56; refine OR.mono ?_; rintro e w2 ⟨rfl, rfl⟩; clear OR)
    | (at_builtin; refine wpList_append_bytes _ rfl _ _ rfl base vo o q rfl O3.out ⟨g1, 0, none⟩ (rn + 12) cap1 rfl HFs.out (own_cells (by have := Q3.out; rw [HF.out] at this; exact this)) R0.out R1.out z3' ?_; intro g4 cap4 L4 w4 HL4 x4 lt4; rw [← hW3] at x4; have W4 := KX.out w4 x4.grown; obtain ⟨d0, d1, e0, e1, _⟩ := slot2 W4))
  go_ret
  have s5 := grown_set w4 Wb 0 (.slice (some ⟨g4, 0, none⟩) L4 cap4)
  refine ⟨rfl, .slice (some ⟨g4, 0, none⟩) L4 cap4, (Joins.block_setCell W4 _).trans rfl, ?_, ?_, ?_⟩
  · exact own_other x4.own s5 (fun i hi e => own_neW x4.own W4 (by rw [hi, e]))
  · exact (M3.trans (grown_moved x4.grown) (fun i _ h => .inr h)).trans (grown_moved s5) (fun i _ h => .inl (Option.some.inj h).symm)
  · rcases x4.lies with e | ⟨g, e, hg⟩
    · exact .inl e
    · exact .inr ⟨g, e, by omega⟩

theorem wend_any (w : World) (Wb : Nat) (vo : Value) (hW : w.heap[Wb]? = some (wrO vo)) : Calls Tryz.prog 28 #[.pointer (some ⟨Wb, 0, none⟩)] w fun e w' => e = .returned (.tuple #[vo, .int .i64 0]) ∧ w' = w := by
  obtain ⟨c0, c1, f0, f1, _⟩ := slot2 hW
  go_enter Tryz.func28, Tryz.ntmps28
  go_wp2_with (fail)
  go_ret2
  exact ⟨rfl, rfl⟩

def tcs (l : List Mm.Ent) : List Value := l.map fun x => str x.key
theorem tcs_one (l : List Mm.Ent) : ∀ u ∈ tcs l, u.oneCell' = true := by
  intro u hu
  simp only [tcs, List.mem_map] at hu
  obtain ⟨c, _, rfl⟩ := hu
  rfl
theorem infoS : (Tryz.prog.info? 9).map (fun i => (i.zero, i.size, i.bytes)) = some (some (.string ⟨#[]⟩), 1, 16) := by kernel_rfl

set_option maxRecDepth 100000 in
set_option maxHeartbeats 2000000 in
theorem keysOf_any (w : World) (a : Option Addr) (c n : Nat) (l : List Mm.Ent) (h : EntsAt w (.slice a n c) l) (hn : n = l.length) (hl : n ≤ 1000000) :
    Calls Tryz.prog 26 #[.slice a n c] w fun e w' => ∃ v, e = .returned v ∧ TextsIn w' v (l.map fun x => ⟨x.key.toArray⟩) ∧ Below w.heap.size w w' := by
  obtain ⟨i0, hi, hz0, hz1, hz2⟩ := info_parts infoS
  have H := hide h
  have HN := hide hn
  clear h hn
  go_enter Tryz.func26, Tryz.ntmps26
  go_wp2_with (fail)
  go_loopw [3, 8] (fun v i wr => ∃ j : Nat, j ≤ n ∧ i = .int .i64 j ∧ wr.ownsRow w.heap.size 9 1 v j (tcs (l.take j)) ∧ Below w.heap.size w wr) (fun _ i _ => n - (intOf i).toNat)
  case atStart => exact ⟨0, Nat.zero_le _, rfl, by rw [List.take_zero]; exact World.ownsRow_nil _ _ _ _, Below.refl _ _⟩
  case round =>
    obtain ⟨j, hj, rfl, o, b⟩ := hrel
    by_cases hlt : j < n
    · have jl : j < l.length := by have := HN.out; omega
      obtain ⟨eb, off, rfl⟩ := H.out.some (by omega)
      obtain ⟨c0, c1, c2, c3⟩ := (H.out.later b).cells j jl
      have TK : Hid (tcs (l.take (j + 1)) = tcs (l.take j) ++ [str l[j].key]) := by show _ = _; rw [List.take_succ_eq_append_getElem jl]; unfold tcs; rw [List.map_append]; rfl
      generalize l[j] = x at *
      obtain ⟨K, V, Q, D⟩ := x
      simp only at c0 c1 c2 c3 TK
      have q1 : (j : Int) < (n : Int) := by omega
      have O := hide o
      have zb := b.size
      have Z1 : Hid (j + 1 ≤ maxLen) := by show _ ≤ _; unfold maxLen; omega
      have Z2 : Hid ((j + 1) * 16 ≤ 140737488355328) := by show _ ≤ _; omega
      have CN : Hid (∀ W : World, ∀ B, B = W.heap.size → ∀ i u, ([str K] : List Value)[i]? = some u → (W.alloc (.cells #[str K] 9)).cell? ((⟨B, 0, none⟩ : Addr).add i) = some u) := by
        rintro W B rfl i u hu
        have hi0 : i = 0 := by
          rcases i with _ | i
          · rfl
          · simp at hu
        subst hi0
        have hadd : (⟨W.heap.size, 0, none⟩ : Addr).add 0 = ⟨W.heap.size, 0, none⟩ := by unfold Addr.add; split <;> simp_all
        rw [hadd]
        refine (Joins.cell_of_block (World.alloc_heap_new W _) 0).trans ?_
        rw [← hu]; rfl
      have HO : Hid (∀ u ∈ ([str K] : List Value), u.oneCell' = true) := fun u hu => by rw [List.mem_singleton.1 hu]; rfl
      clear o
      go_wp2_with (first
        | (at_builtin; refine wpList_append_lies _ rfl _ _ 59 rfl w.heap.size 9 i0 _ 1 16 Tryz.underlying59 hi hz0 hz1 hz2 rfl (by decide) _ j _ rfl ((O.out.alloc _).alloc _) ⟨wr.heap.size + 1, 0, none⟩ 1 1 [str K] rfl rfl (CN.out _ _ (by simp)) HO.out (by decide) Z1.out Z2.out (by simp; omega) _ rfl ?_; intro g8 cap8 w8 o8 h8 l8 lt8))
      refine ⟨⟨j + 1, by omega, by go_num, ?_, ((b.alloc (Nat.le_trans (Nat.le_refl _) zb) _).alloc (by simp; omega) _).grown h8 (by simp; omega) (fun k hk => (O.out.lt k hk).1)⟩, by simp [intOf]; omega⟩
      rw [TK.out]
      exact o8
    · have e : j = n := by omega
      subst e
      have tk : l.take j = l := List.take_of_length_le (by have := HN.out; omega)
      rw [tk] at o
      have O := hide o
      clear o tk
      go_wp2_with (fail)
      go_ret
      refine ⟨_, rfl, ?_, b⟩
      have ho := O.out
      have hjl : (l.map fun x => (⟨x.key.toArray⟩ : ByteArray)).length = j := by rw [List.length_map]; exact HN.out.symm
      rcases ho.2 with ⟨rfl, h0⟩ | ⟨g, cap, cur, rfl, hb, hg, hnc, hcm, _⟩
      · refine ⟨none, 0, by rw [hjl, h0]; rfl, by omega, by omega, fun _ => rfl, fun hne => ?_⟩
        exact absurd (List.eq_nil_of_length_eq_zero (by omega)) hne
      · refine ⟨some ⟨g, 0, none⟩, cap, by rw [hjl]; rfl, by omega, by unfold maxLen at hcm; omega, (fun e => by cases e), fun _ => ⟨g, 0, rfl, fun m hm => ?_⟩⟩
        rw [Nat.zero_add, ho.cellAt m (by omega)]
        unfold tcs
        rw [List.getElem?_map, List.getElem?_eq_getElem (by rw [List.length_map] at hm; exact hm)]
        simp
end Go.Proofs.YtolalicliojkfaaGreat
