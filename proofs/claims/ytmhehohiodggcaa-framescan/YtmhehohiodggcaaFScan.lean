/-
  Records gone over from the first frame on, and collected: what the program's calls answer, and where.
-/
import Derived.Test.YtmhehohiodggcaaKRecs
import Derived.Test.YtmhehohiodggcaaFRead
import Derived.Test.YtmhehohiodggcaaScn
import Derived.WalkMore
namespace Go.Proofs.Ytmhehohiodggcaa
open Go.RowKit

set_option maxHeartbeats 1600000 in
theorem scan1_any (w : World) (base B : Nat) (at' : Int) (ad : Option Addr) (n c : Nat) (v : Value) (rs : List (List UInt8)) (vs : List Value) (r : List UInt8) (hB : Boxed w B 29 v) (hbB : base ≤ B) (hR : Recs base w v rs vs) (hu : w.ownsRow base 5 1 (.slice ad n c) r.length (bc r))
    (hne : ∀ k (hk : k < vs.length), (vs[k]).ownBlock ≠ none → (vs[k]).ownBlock ≠ (Value.slice ad n c).ownBlock) (hroom : rs.length ≤ 1000000000) :
    Calls Try.prog 34 #[.int .i64 at', .slice ad n c, .pointer (some ⟨B, 0, none⟩)] w fun e w' => e = .returned (.bool true) ∧ ∃ v', Boxed w' B 29 v' ∧ Recs base w' v' (rs ++ [r]) (vs ++ [.slice ad n c]) ∧ Below base w w' := by
  have c0 := hB.cell
  have f0 := hB.frozen
  have zB := hB.lt
  have hR1 : Hid (∀ o, Recs base (w.alloc o) v rs vs) := fun o => hR.alloc o
  have hu1 : Hid (∀ o, (w.alloc o).ownsRow base 5 1 (.slice ad n c) r.length (bc r)) := fun o => hu.alloc o
  have HN : Hid (∀ k (hk : k < vs.length), (vs[k]).ownBlock ≠ none → (vs[k]).ownBlock ≠ (Value.slice ad n c).ownBlock) := hne
  have hsh : ∃ a k cp, v = .slice a k cp := by
    rcases hR.row.2 with ⟨rfl, _⟩ | ⟨g, cap, cur, rfl, _⟩
    · exact ⟨_, _, _, rfl⟩
    · exact ⟨_, _, _, rfl⟩
  obtain ⟨va, vn, vc, rfl⟩ := hsh
  have HR : Hid (Recs base w (.slice va vn vc) rs vs) := hR
  have HB : Hid (Boxed w B 29 (.slice va vn vc)) := hB
  have zz : ∀ o, base ≤ (w.alloc o).heap.size := fun o => by simp; omega
  clear hR hB hu hne
  go_enter Try.func34, Try.ntmps34
  go_wp2_with (first | (at_builtin; refine wpList_append_rec _ rfl _ _ rfl base _ rs vs rfl (hR1.out _) (.slice ad n c) r (hu1.out _) HN.out w.heap.size 1 rfl (by simp) hroom (zz _) ?_; intro g1 cap1 w1 R1 G1 l1; have X := HB.out.appended (by decide) HR.out.row (by omega) hbB R1.row G1; have c1 := X.1.cell; have f1 := X.1.frozen))
  go_ret
  exact ⟨rfl, _, X.2.1, R1.box X.1 _, X.2.2.2.2⟩

set_option maxHeartbeats 1600000 in
theorem walk_scan (w : World) (base B : Nat) (a0 : Option Addr) (c0 : Nat) (l : List UInt8) (hin : ∀ wx, Below base w wx → BytesIn wx (.slice a0 l.length c0) l) (hc : l.length ≤ c0) (hl : l.length ≤ 1000000000) (hB : Boxed w B 29 (.slice none 0 0)) (hbB : base ≤ B) :
    Calls Try.prog 33 #[.slice a0 l.length c0, .func (.func 34) #[] #[.pointer (some ⟨B, 0, none⟩)]] w fun e w' => e = .returned (.tuple #[.int .i64 (((scn l).2.1 : Nat) : Int), .int .i64 (scn l).2.2]) ∧ ∃ v vs, Boxed w' B 29 v ∧ Recs base w' v (scn l).1 vs ∧ Below base w w' := by
  have HIN : Hid (∀ wx, Below base w wx → BytesIn wx (.slice a0 l.length c0) l) := hin
  have zB : base ≤ w.heap.size := by have := hB.lt; omega
  clear hin
  go_enter Try.func33, Try.ntmps33
  go_wp2_with (fail)
  go_step3
  go_wp2_with (fail)
  go_step3
  go_wp2_with (fail)
  go_loopw [4, 5] (fun i ev wr => ∃ (p : Nat) (v : Value) (rs : List (List UInt8)) (vs : List Value), p ≤ l.length ∧ i = .int .i64 p ∧ ev = .int .i64 0 ∧ Boxed wr B 29 v ∧ Recs base wr v rs vs ∧ Below base w wr ∧ rs.length ≤ p ∧ Hid (scn l = (rs ++ (scn (l.drop p)).1, p + (scn (l.drop p)).2.1, (scn (l.drop p)).2.2))) (fun i _ _ => l.length - (intOf i).toNat)
  case atStart => exact ⟨0, _, [], [], Nat.zero_le _, rfl, rfl, hB, Recs.nil _ _, Below.refl _ _, Nat.zero_le _, by simp [Hid]⟩
  case round =>
    obtain ⟨p, v, rs, vs, hp, rfl, rfl, hB2, hR2, hw2, hrp, HS⟩ := hrel
    by_cases hlt : p < l.length
    · have hin2 := HIN.out wr hw2
      have hin3 := hin2
      obtain ⟨⟨a', c', e', hf⟩, _⟩ := hin3
      simp only [Value.slice.injEq, true_and] at e'
      obtain ⟨rfl, rfl⟩ := e'
      obtain ⟨b, off, rfl, _⟩ := hf (by intro e; rw [e] at hlt; simp at hlt)
      clear hf
      have hdl : (l.drop p).length = l.length - p := List.length_drop
      have z2 : base ≤ wr.heap.size := Nat.le_trans zB hw2.size
      have RD : Hid (∀ m c, m = l.length - p → c = c0 - p → Calls Try.prog 10 #[.slice (some ⟨b, off + p, none⟩) m c] wr fun e w' => ∃ ad cp, e = .returned (.tuple #[.slice ad (rdR (l.drop p)).length cp, .int .i64 ((rdN (l.drop p) : Nat) : Int), .int .i64 (rdE (l.drop p))]) ∧ Below wr.heap.size wr w' ∧ Boxed w' B 29 v ∧ Recs base w' v rs vs ∧ w'.ownsRow base 5 1 (.slice ad (rdR (l.drop p)).length cp) (rdR (l.drop p)).length (bc (rdR (l.drop p))) ∧ (∀ k (hk : k < vs.length), (vs[k]).ownBlock ≠ none → (vs[k]).ownBlock ≠ (Value.slice ad (rdR (l.drop p)).length cp).ownBlock)) := fun m c hm hc' => by
        subst hm hc'
        have hpart := hin2.part p (l.length - p) (by omega) (c0 - p)
        rw [List.take_of_length_le (by omega)] at hpart
        have := fread_any wr (some ⟨b, off + p, none⟩) (c0 - p) (l.drop p) (by rw [hdl]; exact hpart) (by omega)
        rw [hdl] at this
        refine this.mono ?_
        rintro e w' ⟨u, rfl, hx⟩
        obtain ⟨ad, cp, rfl⟩ := hx.shape
        have hb := hx.below (Nat.le_refl _) (by simp [Value.ownBlock])
        refine ⟨ad, cp, rfl, hb, hB2.kept hx.grown (by simp [Value.ownBlock]), hR2.later hb, own_base hx.own z2, fun k hk hn he => ?_⟩
        cases hg : (vs[k]).ownBlock with
        | none => exact hn hg
        | some g =>
          have h1 := (hR2.own k hk (by rw [← hR2.len]; exact hk)).lt g hg
          have h2 := hx.own.lt g (by rw [← he]; exact hg)
          omega
      have HW : Hid (Below base w wr) := hw2
      by_cases he : rdE (l.drop p) = 0
      · have hN := rdN_pos he
        have HS2 : Hid (scn l = ((rs ++ [rdR (l.drop p)]) ++ (scn (l.drop (p + rdN (l.drop p)))).1, (p + rdN (l.drop p)) + (scn (l.drop (p + rdN (l.drop p)))).2.1, (scn (l.drop (p + rdN (l.drop p)))).2.2)) := by
          show _ = _
          rw [HS.out, scn_good _ he, List.drop_drop, List.append_assoc, Nat.add_assoc]
          rfl
        have SC : Hid (∀ wx ad cp, Boxed wx B 29 v → Recs base wx v rs vs → wx.ownsRow base 5 1 (.slice ad (rdR (l.drop p)).length cp) (rdR (l.drop p)).length (bc (rdR (l.drop p))) → (∀ k (hk : k < vs.length), (vs[k]).ownBlock ≠ none → (vs[k]).ownBlock ≠ (Value.slice ad (rdR (l.drop p)).length cp).ownBlock) → Calls Try.prog 34 #[.int .i64 (p : Int), .slice ad (rdR (l.drop p)).length cp, .pointer (some ⟨B, 0, none⟩)] wx fun e w' => e = .returned (.bool true) ∧ ∃ v', Boxed w' B 29 v' ∧ Recs base w' v' (rs ++ [rdR (l.drop p)]) (vs ++ [.slice ad (rdR (l.drop p)).length cp]) ∧ Below base wx w') := fun wx ad cp h1 h2 h3 h4 => scan1_any wx base B p ad _ cp v rs vs (rdR (l.drop p)) h1 hbB h2 h3 h4 (by omega)
        obtain ⟨R, hRe⟩ : ∃ R, R = rdR (l.drop p) := ⟨_, rfl⟩
        obtain ⟨N, hNe⟩ : ∃ N, N = rdN (l.drop p) := ⟨_, rfl⟩
        rw [he] at RD
        rw [← hRe, ← hNe] at RD
        rw [← hRe] at SC
        rw [← hRe, ← hNe] at HS2
        rw [← hNe, hdl] at hN
        clear he HS hRe hNe hin2 hB2 hR2 hw2 hB HIN
        have k5 : ¬ (c0 = p) := by omega
        have k6 : (p : Int) ≤ (c0 : Int) := by omega
        go_wp2_with (first
          | (go_at_call 10; refine (RD.out _ _ (by omega) (by omega)).mono ?_; rintro e w1 ⟨ad, cp, rfl, b1, B1, R1, o1, n1⟩; have S1 := SC.out _ _ _ B1 R1 o1 n1; have T1 : Hid (Below wr.heap.size wr w1) := b1; clear RD SC B1 R1 o1 n1 b1)
          | (go_at_call 34; refine S1.mono ?_; rintro e w2 ⟨rfl, v2, B2, R2, b2⟩; clear S1))
        have hle : (rs ++ [R]).length ≤ p + N := by rw [List.length_append, List.length_singleton]; omega
        exact ⟨⟨p + N, v2, rs ++ [R], _, by omega, by go_num, rfl, B2, R2, (HW.out.trans (T1.out.mono z2)).trans b2, hle, HS2⟩, by simp [intOf]; omega⟩
      · have HE : Hid (scn l = (rs, p, rdE (l.drop p))) := by
          show _ = _
          rw [HS.out, scn_bad _ (by intro e; rw [e] at hdl; simp at hdl; omega) he, List.append_nil, Nat.add_zero]
        obtain ⟨E, hEe⟩ : ∃ E, E = rdE (l.drop p) := ⟨_, rfl⟩
        rw [← hEe] at RD HE he
        clear HS hEe hin2 hB2 hR2 hw2 hB HIN
        have k5 : ¬ (c0 = p) := by omega
        have k6 : (p : Int) ≤ (c0 : Int) := by omega
        have k7 : (E != 0) = true := by simp; exact he
        go_wp2_with (first
          | (go_at_call 10; refine (RD.out _ _ (by omega) (by omega)).mono ?_; rintro e w1 ⟨ad, cp, rfl, b1, B1, R1, o1, n1⟩; clear RD o1 n1))
        rw [Exit.noGoto_ret]
        go_ret2
        rw [HE.out]
        exact ⟨rfl, v, vs, B1, R1, HW.out.trans (b1.mono z2)⟩
    · have e : p = l.length := by omega
      subst e
      have HE : Hid (scn l = (rs, l.length, 0)) := by
        show _ = _
        rw [HS.out, List.drop_length, scn_nil, List.append_nil, Nat.add_zero]
      clear HS HIN
      go_wp2_with (fail)
      rw [Exit.noGoto_ret]
      go_ret2
      rw [HE.out]
      exact ⟨rfl, v, vs, hB2, hR2, hw2⟩

theorem boxed_later {w w' : World} {B : Nat} {t : TypeId} {v : Value} (h : Boxed w B t v) (hb : Below w.heap.size w w') : Boxed w' B t v := (hb.block B h.lt).trans h

set_option maxHeartbeats 1600000 in
/-- SCANNING BYTES: the records, how many bytes their frames have, and why it ends, as the definition has them; all in new memory. -/
theorem fscan_any (w : World) (a0 : Option Addr) (c0 : Nat) (l : List UInt8) (h : BytesIn w (.slice a0 l.length c0) l) (hc : l.length ≤ c0) (hl : l.length ≤ 1000000000) :
    Calls Try.prog 12 #[.slice a0 l.length c0] w fun e w' => ∃ v vs, e = .returned (.tuple #[v, .int .i64 (((scn l).2.1 : Nat) : Int), .int .i64 (scn l).2.2]) ∧ Recs w.heap.size w' v (scn l).1 vs ∧ Below w.heap.size w w' := by
  have hmf : ∀ (fn : Fn) (first cap : Array Value) (w : World), (Instr.makeFunc fn first cap).run Try.prog w = .ok (.func fn first cap) w := fun _ _ _ _ => rfl
  have K0 : Below w.heap.size w (w.alloc (.cells #[.slice none 0 0] 29)) := (Below.refl _ _).alloc (Nat.le_refl _) _
  obtain ⟨M, hM⟩ : ∃ M, M = (scn l).2.1 := ⟨_, rfl⟩
  obtain ⟨E, hE⟩ : ∃ E, E = (scn l).2.2 := ⟨_, rfl⟩
  obtain ⟨RS, hRS⟩ : ∃ RS, RS = (scn l).1 := ⟨_, rfl⟩
  have WS : Hid (Calls Try.prog 33 #[.slice a0 l.length c0, .func (.func 34) #[] #[.pointer (some ⟨w.heap.size, 0, none⟩)]] (w.alloc (.cells #[.slice none 0 0] 29)) fun e w' => e = .returned (.tuple #[.int .i64 (M : Int), .int .i64 E]) ∧ ∃ v vs, Boxed w' w.heap.size 29 v ∧ Recs w.heap.size w' v RS vs ∧ Below w.heap.size w w') := by
    rw [hM, hE, hRS]
    refine (walk_scan (w.alloc (.cells #[.slice none 0 0] 29)) w.heap.size w.heap.size a0 c0 l (fun wx hw => h.later (K0.trans hw)) hc hl (Boxed.new w _ _) (Nat.le_refl _)).mono ?_
    rintro e w' ⟨rfl, v, vs, h1, h2, h3⟩
    exact ⟨rfl, v, vs, h1, h2, K0.trans h3⟩
  rw [← hM, ← hE, ← hRS]
  clear h hM hE hRS
  go_enter Try.func12, Try.ntmps12
  go_wp2_with (first
    | (go_at_call 33; refine WS.out.mono ?_; rintro e w1 ⟨rfl, v1, vs1, B1, R1, b1⟩; obtain ⟨sa, sc, rfl, _, _⟩ := R1.shape; have c1 := B1.cell; have f1 := B1.frozen; clear WS))
  have B2 := B1.set (.slice sa RS.length sc)
  have c2 := B2.cell
  refine bodyPost_ret (v := .tuple #[.slice sa RS.length sc, .int .i64 (M : Int), .int .i64 E]) (by simp [results, Try.results12, go_sem, c2]) rfl ?_
  exact ⟨_, vs1, rfl, R1.box B1 _, b1.setCell (p := ⟨w.heap.size, 0, none⟩) (Nat.le_refl _) _⟩
end Go.Proofs.Ytmhehohiodggcaa
