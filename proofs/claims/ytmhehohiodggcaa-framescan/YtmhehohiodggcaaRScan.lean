/-
  Records gone over by the definition: what the document's answers say of them, and of the places of their frames.
-/
import Derived.Test.YtmhehohiodggcaaKRecs
import Derived.Test.YtmhehohiodggcaaRRead
import Derived.Test.YtmhehohiodggcaaScn
import Derived.Test.YtmhehohiodggcaaFRows
namespace Go.Proofs.Ytmhehohiodggcaa
open Go.RowKit

set_option maxHeartbeats 1600000 in
theorem refScan_any (w : World) (a0 : Option Addr) (c0 : Nat) (l : List UInt8) (h : BytesIn w (.slice a0 l.length c0) l) (hc : l.length ≤ c0) (hl : l.length ≤ 1000000000) :
    Calls Try.prog 20 #[.slice a0 l.length c0] w fun e w' => ∃ v vs, e = .returned (.tuple #[v, .int .i64 (((scn l).2.1 : Nat) : Int), .int .i64 (scn l).2.2]) ∧ Recs w.heap.size w' v (scn l).1 vs ∧ Below w.heap.size w w' := by
  have HIN : Hid (BytesIn w (.slice a0 l.length c0) l) := h
  clear h
  go_enter Try.func20, Try.ntmps20
  go_wp2_with (fail)
  go_loopw [5, 6] (fun x i wr => ∃ (p : Nat) (sa : Option Addr) (sn sc : Nat) (rs : List (List UInt8)) (vs : List Value), p ≤ l.length ∧ i = .int .i64 p ∧ x = .slice sa sn sc ∧ Recs w.heap.size wr (.slice sa sn sc) rs vs ∧ Below w.heap.size w wr ∧ rs.length ≤ p ∧ Hid (scn l = (rs ++ (scn (l.drop p)).1, p + (scn (l.drop p)).2.1, (scn (l.drop p)).2.2))) (fun _ i _ => l.length - (intOf i).toNat)
  case atStart => exact ⟨0, none, 0, 0, [], [], Nat.zero_le _, rfl, rfl, Recs.nil _ _, Below.refl _ _, Nat.zero_le _, by simp [Hid]⟩
  case round =>
    obtain ⟨p, sa, sn, sc, rs, vs, hp, rfl, rfl, hR2, hw2, hrp, HS⟩ := hrel
    by_cases hlt : p < l.length
    · have hin2 := HIN.out.later hw2
      have hin3 := hin2
      obtain ⟨⟨a', c', e', hf⟩, _⟩ := hin3
      simp only [Value.slice.injEq, true_and] at e'
      obtain ⟨rfl, rfl⟩ := e'
      obtain ⟨b, off, rfl, _⟩ := hf (by intro e; rw [e] at hlt; simp at hlt)
      clear hf
      have hdl : (l.drop p).length = l.length - p := List.length_drop
      have z2 : w.heap.size ≤ wr.heap.size := hw2.size
      have RD : Hid (∀ m c, m = l.length - p → c = c0 - p → Calls Try.prog 16 #[.slice (some ⟨b, off + p, none⟩) m c] wr fun e w' => ∃ ad cp, e = .returned (.tuple #[.slice ad (rdR (l.drop p)).length cp, .int .i64 ((rdN (l.drop p) : Nat) : Int), .int .i64 (rdE (l.drop p))]) ∧ Below wr.heap.size wr w' ∧ Recs w.heap.size w' (.slice sa sn sc) rs vs ∧ w'.ownsRow w.heap.size 5 1 (.slice ad (rdR (l.drop p)).length cp) (rdR (l.drop p)).length (bc (rdR (l.drop p))) ∧ (∀ k (hk : k < vs.length), (vs[k]).ownBlock ≠ none → (vs[k]).ownBlock ≠ (Value.slice ad (rdR (l.drop p)).length cp).ownBlock)) := fun m c hm hc' => by
        subst hm hc'
        have hpart := hin2.part p (l.length - p) (by omega) (c0 - p)
        rw [List.take_of_length_le (by omega)] at hpart
        have := refRead_any wr (some ⟨b, off + p, none⟩) (c0 - p) (l.drop p) (by rw [hdl]; exact hpart) (by omega)
        rw [hdl] at this
        refine this.mono ?_
        rintro e w' ⟨u, rfl, hx⟩
        obtain ⟨ad, cp, rfl⟩ := hx.shape
        have hb := hx.below (Nat.le_refl _) (by simp [Value.ownBlock])
        refine ⟨ad, cp, rfl, hb, hR2.later hb, own_base hx.own z2, fun k hk hn he => ?_⟩
        cases hg : (vs[k]).ownBlock with
        | none => exact hn hg
        | some g =>
          have h1 := (hR2.own k hk (by rw [← hR2.len]; exact hk)).lt g hg
          have h2 := hx.own.lt g (by rw [← he]; exact hg)
          omega
      have HW : Hid (Below w.heap.size w wr) := hw2
      have k5 : ¬ (c0 = p) := by omega
      have k6 : (p : Int) ≤ (c0 : Int) := by omega
      by_cases he : rdE (l.drop p) = 0
      · have hN := rdN_pos he
        have HS2 : Hid (scn l = ((rs ++ [rdR (l.drop p)]) ++ (scn (l.drop (p + rdN (l.drop p)))).1, (p + rdN (l.drop p)) + (scn (l.drop (p + rdN (l.drop p)))).2.1, (scn (l.drop (p + rdN (l.drop p)))).2.2)) := by
          show _ = _
          rw [HS.out, scn_good _ he, List.drop_drop, List.append_assoc, Nat.add_assoc]
          rfl
        obtain ⟨R, hRe⟩ : ∃ R, R = rdR (l.drop p) := ⟨_, rfl⟩
        obtain ⟨N, hNe⟩ : ∃ N, N = rdN (l.drop p) := ⟨_, rfl⟩
        rw [he] at RD
        rw [← hRe, ← hNe] at RD
        rw [← hRe, ← hNe] at HS2
        rw [← hNe, hdl] at hN
        clear he HS hRe hNe hin2 hR2 hw2 HIN
        have hroom : rs.length ≤ 1000000000 := by omega
        go_wp2_with (first
          | (go_at_call 16; refine (RD.out _ _ (by omega) (by omega)).mono ?_; rintro e w1 ⟨ad, cp, rfl, b1, R1, o1, n1⟩; have z1 := Nat.le_trans z2 b1.size; have zz : ∀ o, w.heap.size ≤ (w1.alloc o).heap.size := (fun o => by simp; omega); have N1 : Hid (∀ k (hk : k < vs.length), (vs[k]).ownBlock ≠ none → (vs[k]).ownBlock ≠ (Value.slice ad R.length cp).ownBlock) := n1; have Q1 : Hid (Recs w.heap.size w1 (.slice sa sn sc) rs vs) := R1; clear RD n1 R1)
          | (at_builtin; refine wpList_append_rec _ rfl _ _ rfl w.heap.size _ rs vs rfl (Q1.out.alloc _) (.slice ad R.length cp) R (o1.alloc _) N1.out w1.heap.size 1 rfl (by simp) hroom (zz _) ?_; intro g2 cap2 w2 R2 G2 l2; have B2 := (((HW.out.trans (b1.mono z2)).alloc z1 _).grown G2 (zz _) (by intro q hq; exact (Q1.out.row.lt q hq).1)); clear o1 N1 Q1 G2))
        have hle : (rs ++ [R]).length ≤ p + N := by rw [List.length_append, List.length_singleton]; omega
        exact ⟨⟨p + N, _, _, _, rs ++ [R], _, by omega, by go_num, rfl, R2, B2, hle, HS2⟩, by simp [intOf]; omega⟩
      · have HE : Hid (scn l = (rs, p, rdE (l.drop p))) := by
          show _ = _
          rw [HS.out, scn_bad _ (by intro e; rw [e] at hdl; simp at hdl; omega) he, List.append_nil, Nat.add_zero]
        obtain ⟨E, hEe⟩ : ∃ E, E = rdE (l.drop p) := ⟨_, rfl⟩
        rw [← hEe] at RD HE he
        clear HS hEe hin2 hR2 hw2 HIN
        have k7 : (E != 0) = true := by simp; exact he
        go_wp2_with (first
          | (go_at_call 16; refine (RD.out _ _ (by omega) (by omega)).mono ?_; rintro e w1 ⟨ad, cp, rfl, b1, R1, o1, n1⟩; clear RD o1 n1))
        go_ret3
        rw [HE.out]
        exact ⟨_, vs, rfl, R1, HW.out.trans (b1.mono z2)⟩
    · have e : p = l.length := by omega
      subst e
      have HE : Hid (scn l = (rs, l.length, 0)) := by
        show _ = _
        rw [HS.out, List.drop_length, scn_nil, List.append_nil, Nat.add_zero]
      clear HS HIN
      go_wp2_with (fail)
      go_ret3
      rw [HE.out]
      exact ⟨_, vs, rfl, hR2, hw2⟩

/-- Places, as a row of numbers. -/
def numV (l : List Nat) : List Value := l.map fun (n : Nat) => Value.int .i64 (n : Int)
theorem numV_get (l : List Nat) (k : Nat) (h : k < l.length) : (numV l)[k]? = some (.int .i64 ((l[k] : Nat) : Int)) := by simp [numV, h]
theorem numV_snoc (l : List Nat) (n : Nat) : numV (l ++ [n]) = numV l ++ [.int .i64 (n : Int)] := by simp [numV]

set_option maxHeartbeats 1600000 in
theorem refPlaces_any (w : World) (a0 : Option Addr) (c0 : Nat) (l : List UInt8) (h : BytesIn w (.slice a0 l.length c0) l) (hn : a0 = none → c0 = 0) (hc : l.length ≤ c0) (hl : l.length ≤ 1000000000) :
    Calls Try.prog 22 #[.slice a0 l.length c0] w fun e w' => ∃ v, e = .returned v ∧ w'.ownsRow w.heap.size 3 1 v (plc 0 l).length (numV (plc 0 l)) ∧ Below w.heap.size w w' := by
  have HIN : Hid (BytesIn w (.slice a0 l.length c0) l) := h
  clear h
  go_enter Try.func22, Try.ntmps22
  go_wp2_with (fail)
  go_loopw [3, 4] (fun x i wr => ∃ (p : Nat) (sa : Option Addr) (sn sc : Nat) (pre : List Nat), p ≤ l.length ∧ i = .int .i64 p ∧ x = .slice sa sn sc ∧ wr.ownsRow w.heap.size 3 1 (.slice sa sn sc) pre.length (numV pre) ∧ Below w.heap.size w wr ∧ pre.length ≤ p ∧ Hid (plc 0 l = pre ++ plc p (l.drop p))) (fun _ i _ => l.length - (intOf i).toNat)
  case atStart => exact ⟨0, none, 0, 0, [], Nat.zero_le _, rfl, rfl, World.ownsRow_nil _ _ _ _, Below.refl _ _, Nat.zero_le _, by simp [Hid]⟩
  case round =>
    obtain ⟨p, sa, sn, sc, pre, hp, rfl, rfl, ho, hw2, hrp, HS⟩ := hrel
    by_cases hlt : p < l.length
    · have hin2 := HIN.out.later hw2
      have hin3 := hin2
      obtain ⟨⟨a', c', e', hf⟩, _⟩ := hin3
      simp only [Value.slice.injEq, true_and] at e'
      obtain ⟨rfl, rfl⟩ := e'
      obtain ⟨b, off, rfl, _⟩ := hf (by intro e; rw [e] at hlt; simp at hlt)
      clear hf hn
      have hdl : (l.drop p).length = l.length - p := List.length_drop
      have z2 : w.heap.size ≤ wr.heap.size := hw2.size
      have RD : Hid (∀ m c, m = l.length - p → c = c0 - p → Calls Try.prog 16 #[.slice (some ⟨b, off + p, none⟩) m c] wr fun e w' => ∃ ad an cp, e = .returned (.tuple #[.slice ad an cp, .int .i64 ((rdN (l.drop p) : Nat) : Int), .int .i64 (rdE (l.drop p))]) ∧ Below wr.heap.size wr w') := fun m c hm hc' => by
        subst hm hc'
        have hpart := hin2.part p (l.length - p) (by omega) (c0 - p)
        rw [List.take_of_length_le (by omega)] at hpart
        have := refRead_any wr (some ⟨b, off + p, none⟩) (c0 - p) (l.drop p) (by rw [hdl]; exact hpart) (by omega)
        rw [hdl] at this
        refine this.mono ?_
        rintro e w' ⟨u, rfl, hx⟩
        obtain ⟨ad, cp, rfl⟩ := hx.shape
        exact ⟨ad, _, cp, rfl, hx.below (Nat.le_refl _) (by simp [Value.ownBlock])⟩
      have HO : Hid (wr.ownsRow w.heap.size 3 1 (.slice sa sn sc) pre.length (numV pre)) := ho
      have k5 : ¬ (c0 = p) := by omega
      have k6 : (p : Int) ≤ (c0 : Int) := by omega
      by_cases he : rdE (l.drop p) = 0
      · have hN := rdN_pos he
        have HS2 : Hid (plc 0 l = (pre ++ [p]) ++ plc (p + rdN (l.drop p)) (l.drop (p + rdN (l.drop p)))) := by
          show _ = _
          rw [HS.out, plc_good _ _ he, List.drop_drop, List.append_assoc]
          rfl
        obtain ⟨N, hNe⟩ : ∃ N, N = rdN (l.drop p) := ⟨_, rfl⟩
        rw [he] at RD
        rw [← hNe] at RD
        rw [← hNe] at HS2
        rw [← hNe, hdl] at hN
        clear he HS hNe hin2 ho HIN
        have hroom : pre.length ≤ 1000000000 := by omega
        go_wp2_with (first
          | (go_at_call 16; refine (RD.out _ _ (by omega) (by omega)).mono ?_; rintro e w1 ⟨ad, an, cp, rfl, b1⟩; have z1 := Nat.le_trans z2 b1.size; have zz : ∀ o, w.heap.size ≤ (w1.alloc o).heap.size := (fun o => by simp; omega); have o1 := HO.out.kept (w' := w1) (row := none) ⟨b1.os, b1.tape, b1.output, b1.size, fun k hk _ => b1.block k hk⟩ (none_kept _); clear RD HO)
          | (at_builtin; refine wpList_append_int _ rfl _ _ rfl w.heap.size _ pre.length (numV pre) rfl (o1.alloc _) (p : Int) w1.heap.size 1 rfl (by simp) hroom (zz _) ?_; intro g2 cap2 w2 o2 G2; have B2 := (((hw2.trans (b1.mono z2)).alloc z1 _).grown G2 (zz _) (by intro q hq; exact (o1.lt q hq).1)); clear o1 G2))
        rw [← numV_snoc] at o2
        have hll : (pre ++ [p]).length = pre.length + 1 := by simp
        exact ⟨⟨p + N, _, _, _, pre ++ [p], by omega, by go_num, rfl, by rw [hll]; exact o2, B2, by omega, HS2⟩, by simp [intOf]; omega⟩
      · have HE : Hid (plc 0 l = pre) := by
          show _ = _
          rw [HS.out, plc_bad _ _ he, List.append_nil]
        obtain ⟨E, hEe⟩ : ∃ E, E = rdE (l.drop p) := ⟨_, rfl⟩
        rw [← hEe] at RD he
        clear HS hEe hin2 ho HIN
        have k7 : (E != 0) = true := by simp; exact he
        go_wp2_with (first
          | (go_at_call 16; refine (RD.out _ _ (by omega) (by omega)).mono ?_; rintro e w1 ⟨ad, an, cp, rfl, b1⟩; have o1 := HO.out.kept (w' := w1) (row := none) ⟨b1.os, b1.tape, b1.output, b1.size, fun k hk _ => b1.block k hk⟩ (none_kept _); clear RD HO))
        go_ret
        rw [HE.out]
        exact ⟨_, rfl, o1, hw2.trans (b1.mono z2)⟩
    · have e : p = l.length := by omega
      subst e
      have HE : Hid (plc 0 l = pre) := by
        show _ = _
        rw [HS.out, List.drop_length, plc_bad _ _ (by rw [rdE_nil]; decide), List.append_nil]
      have RD : Hid (∀ a c, Calls Try.prog 16 #[.slice a 0 c] wr fun e w' => e = .returned (.tuple #[.slice none 0 0, .int .i64 0, .int .i64 4]) ∧ w' = wr) := fun a c => refRead_short wr a c 0 (by decide)
      have k6 : (l.length : Int) ≤ (c0 : Int) := by omega
      clear HS HIN hrp
      by_cases hce : c0 = l.length
      · subst hce
        go_wp2_with (go_at_call 16; refine (RD.out _ _).mono ?_; rintro e w1 ⟨rfl, rfl⟩)
        go_ret
        rw [HE.out]
        exact ⟨_, rfl, ho, hw2⟩
      · have k5 : ¬ (c0 = l.length) := hce
        cases a0 with
        | none => exact absurd (hn rfl) (by omega)
        | some ad =>
          go_wp2_with (go_at_call 16; refine (RD.out _ _).mono ?_; rintro e w1 ⟨rfl, rfl⟩)
          go_ret
          rw [HE.out]
          exact ⟨_, rfl, ho, hw2⟩
end Go.Proofs.Ytmhehohiodggcaa
