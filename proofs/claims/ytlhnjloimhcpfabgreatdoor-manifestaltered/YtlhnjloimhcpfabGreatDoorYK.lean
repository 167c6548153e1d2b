/-
  The bytes of an edit, written. .. and what follows from it.
-/
import Derived.Test.YtlhnjloimhcpfabGreatDoorYE
import Derived.Deep.RegionHeld3
import Derived.Test.YtlhnjloimhcpfabGreatDoorYC
import Derived.Test.YtlhnjloimhcpfabGreatDoorYBehind
import Derived.Test.YtlhnjloimhcpfabGreatDoorYJ
namespace Go.Proofs.YtlhnjloimhcpfabGreatDoor
open Go.RowKit

namespace Mf
/-- What is written up to the j-th added table. -/
def pre (e : Ed) (j : Nat) : Bs := lebs [(e.drops.length : Int)] ++ lebs e.drops ++ lebs [(e.adds.length : Int)] ++ (e.adds.take j).flatMap mtB
theorem pre_zero (e : Ed) : pre e 0 = lebs [(e.drops.length : Int)] ++ lebs e.drops ++ lebs [(e.adds.length : Int)] := by unfold pre; simp
theorem pre_next (e : Ed) (j : Nat) (h : j < e.adds.length) : pre e (j + 1) = pre e j ++ lebs [e.adds[j].number, e.adds[j].level, e.adds[j].count] ++ lebs [(e.adds[j].first.length : Int)] ++ e.adds[j].first ++ lebs [(e.adds[j].last.length : Int)] ++ e.adds[j].last := by
  unfold pre
  rw [List.take_succ_eq_append_getElem h, List.flatMap_append]
  simp [mtB, text, lebs]
theorem pre_all (e : Ed) : pre e e.adds.length ++ lebs [e.log, e.seq, e.next] = recB e := by unfold pre recB; rw [List.take_length]
theorem lebs_pos (x : Int) : 0 < (lebs [x]).length := by
  have h2 := Enc.leb_pos x.toNat
  unfold lebs
  simp only [List.flatMap_cons, List.flatMap_nil, List.append_nil]
  omega
theorem lebs_ne (x : Int) (q : Bs) : q ++ lebs [x] ≠ [] := by
  intro h
  have := congrArg List.length h
  have h2 := lebs_pos x
  rw [List.length_append, List.length_nil] at this
  omega
theorem pre_len (e : Ed) (hb : bounds e = true) (hd : e.drops.length ≤ 1024) (ha : e.adds.length ≤ 1024) (j : Nat) : (pre e j).length ≤ 2000000 := by
  unfold bounds at hb
  rw [Bool.and_eq_true, Bool.and_eq_true, List.all_eq_true, List.all_eq_true] at hb
  have a := lebs_len [(e.drops.length : Int)] (by intro x hx; simp at hx; omega)
  have b := lebs_len e.drops (fun x hx => by have := hb.1.1 x hx; simp [inB] at this; omega)
  have c := lebs_len [(e.adds.length : Int)] (by intro x hx; simp at hx; omega)
  have d := mtBs_len (e.adds.take j) (fun x hx => hb.1.2 x (List.mem_of_mem_take hx))
  have f : (e.adds.take j).length ≤ 1024 := by rw [List.length_take]; omega
  unfold pre
  rw [List.length_append, List.length_append, List.length_append]
  simp at a c
  omega
end Mf

set_option maxRecDepth 100000 in
set_option maxHeartbeats 8000000 in
theorem rec_any (w : World) (a2 a3 : Option Addr) (cap2 cap3 : Nat) (e : Mf.Ed) (hd : IzAt w (.slice a2 e.drops.length cap2) e.drops) (ha : MtsAt w (.slice a3 e.adds.length cap3) e.adds) (hdl : e.drops.length ≤ 1024) (hal : e.adds.length ≤ 1024) (hb : Mf.bounds e = true) :
    Calls Tryz.prog 54 #[ev (.slice a2 e.drops.length cap2) (.slice a3 e.adds.length cap3) e.log e.seq e.next] w fun r w' => ∃ g n c, r = .returned (.slice (some ⟨g, 0, none⟩) n c) ∧ Hid (n = (Mf.recB e).length) ∧ Hid (w'.ownsRow (w.heap.size + 1) 5 1 (.slice (some ⟨g, 0, none⟩) n c) (Mf.recB e).length (bc (Mf.recB e))) ∧ Below w.heap.size w w' := by
  obtain ⟨M, hM⟩ : ∃ M, M = e.drops.length := ⟨_, rfl⟩
  have HM := hide hM
  obtain ⟨K, hK⟩ : ∃ K, K = e.adds.length := ⟨_, rfl⟩
  have HK := hide hK
  rw [← hM] at hd hdl ⊢
  rw [← hK] at ha hal ⊢
  have PL : Hid (∀ j, (Mf.pre e j).length ≤ 2000000) := Mf.pre_len e hb (by omega) (by omega)
  have hb' := hb
  unfold Mf.bounds at hb'
  rw [Bool.and_eq_true, Bool.and_eq_true, List.all_eq_true, List.all_eq_true] at hb'
  have HDR : Hid (∀ x ∈ e.drops, 0 ≤ x ∧ x ≤ 4000000000000000000) := fun x hx => by have := hb'.1.1 x hx; simp [Mf.inB] at this; omega
  have HWD : Hid (∀ x ∈ e.adds, Mf.words x = true) := hb'.1.2
  have hnum := hb'.2
  unfold Mf.nums at hnum
  simp only [Mf.inB, Bool.and_eq_true, decide_eq_true_eq] at hnum
  have HD := hide hd
  have HA := hide ha
  have L1 : Hid (∀ wx B va vn vc q (x : Int), B = wx.heap.size → Rc w (.slice a2 M cap2) (.slice a3 K cap3) e.log e.seq e.next wx (.slice va vn vc) q → 0 ≤ x ∧ x ≤ 4000000000000000000 → q.length ≤ 900000000 → Calls Tryz.prog 88 #[.slice va vn vc, .slice (some ⟨B, 0, none⟩) 1 1] (wx.alloc (.cells #[.int .i64 x] 3)) fun r w' => ∃ g n c, r = .returned (.slice (some ⟨g, 0, none⟩) n c) ∧ Hid (n = (q ++ Mf.lebs [x]).length) ∧ Hid (Ext (w.heap.size + 1) wx (.slice va vn vc) w' (.slice (some ⟨g, 0, none⟩) n c) (q ++ Mf.lebs [x]))) := fun wx B va vn vc q x hB h hx hq => by subst hB; exact lit_nums h [x] (by intro y hy; simp at hy; subst hy; exact hx) hq (Mf.lebs_ne x q) (by simp)
  have L3 : Hid (∀ wx B va vn vc q (x y z : Int), B = wx.heap.size → Rc w (.slice a2 M cap2) (.slice a3 K cap3) e.log e.seq e.next wx (.slice va vn vc) q → (0 ≤ x ∧ x ≤ 4000000000000000000) ∧ (0 ≤ y ∧ y ≤ 4000000000000000000) ∧ (0 ≤ z ∧ z ≤ 4000000000000000000) → q.length ≤ 900000000 → Calls Tryz.prog 88 #[.slice va vn vc, .slice (some ⟨B, 0, none⟩) 3 3] (wx.alloc (.cells #[.int .i64 x, .int .i64 y, .int .i64 z] 3)) fun r w' => ∃ g n c, r = .returned (.slice (some ⟨g, 0, none⟩) n c) ∧ Hid (n = (q ++ Mf.lebs [x, y, z]).length) ∧ Hid (Ext (w.heap.size + 1) wx (.slice va vn vc) w' (.slice (some ⟨g, 0, none⟩) n c) (q ++ Mf.lebs [x, y, z]))) := fun wx B va vn vc q x y z hB h hx hq => by
    have hne : q ++ Mf.lebs [x, y, z] ≠ [] := by
      rw [show [x, y, z] = [x, y] ++ [z] from rfl, Mf.lebs_append, ← List.append_assoc]
      exact Mf.lebs_ne z _
    subst hB
    exact lit_nums h [x, y, z] (by intro u hu; simp at hu; rcases hu with rfl | rfl | rfl; exact hx.1; exact hx.2.1; exact hx.2.2) hq hne (by simp)
  have LD : Hid (∀ wx g n c, Rc w (.slice a2 M cap2) (.slice a3 K cap3) e.log e.seq e.next wx (.slice (some ⟨g, 0, none⟩) n c) (Mf.lebs [(M : Int)]) → Calls Tryz.prog 88 #[.slice (some ⟨g, 0, none⟩) n c, .slice a2 M cap2] wx fun r w' => ∃ g' n' c', r = .returned (.slice (some ⟨g', 0, none⟩) n' c') ∧ Hid (Rc w (.slice a2 M cap2) (.slice a3 K cap3) e.log e.seq e.next w' (.slice (some ⟨g', 0, none⟩) n' c') (Mf.lebs [(M : Int)] ++ Mf.lebs e.drops))) := fun wx g n c h => by
    have hq : (Mf.lebs [(M : Int)]).length ≤ 10 := by have := Mf.lebs_len [(M : Int)] (by intro x hx; simp at hx; omega); simpa using this
    have := anums_any wx (w.heap.size + 1) (some ⟨g, 0, none⟩) n c (Mf.lebs [(M : Int)]) a2 cap2 e.drops (rc_slice h) h.own h.low (by rw [← HM.out]; exact HD.out.later h.ed.bel) (fun h0 ad e2 ho => by
      have h1 := (h.own.lt _ ho.symm).1
      subst e2
      have h2 := HD.out
      rw [HM.out] at h2
      have h0' : 0 < e.drops.length := List.length_pos_iff.mpr h0
      obtain ⟨B, off, e3⟩ := h2.some h0'
      cases e3
      have h3 := World.block_lt_of_cell? w _ (h2.cell 0 h0')
      have h4 : B < w.heap.size := h3
      have h5 : w.heap.size + 1 ≤ B := h1
      omega) HDR.out (by omega) (by have := HM.out; omega)
    rw [← HM.out] at this
    refine this.mono ?_
    rintro r w' ⟨va', vn', vc', rfl, hn, x⟩
    obtain ⟨g', rfl⟩ := ext_some x (by
      intro h0
      have h1 := congrArg List.length h0
      have h2 := Mf.lebs_pos (M : Int)
      rw [List.length_append, List.length_nil] at h1
      omega)
    exact ⟨g', vn', vc', rfl, h.step x⟩
  have R0 : Hid (Rc w (.slice a2 M cap2) (.slice a3 K cap3) e.log e.seq e.next (w.alloc (eO (.slice a2 M cap2) (.slice a3 K cap3) e.log e.seq e.next)) (.slice none 0 0) []) := ⟨EdIn.new w _ _ _ _ _, World.ownsRow_nil _ _ _ _⟩
  have C1 : Hid (∀ wx wy g n c q q2, Rc w (.slice a2 M cap2) (.slice a3 K cap3) e.log e.seq e.next wx (.slice (some ⟨g, 0, none⟩) n c) q → (Mf.lebs [(M : Int)] ++ Mf.lebs e.drops = q) → q2 = q → wx = wy → True) := fun _ _ _ _ _ _ _ _ _ _ _ => trivial
  have hM9 : (0 : Int) ≤ (M : Int) ∧ (M : Int) ≤ 4000000000000000000 := by omega
  have hK9 : (0 : Int) ≤ (K : Int) ∧ (K : Int) ≤ 4000000000000000000 := by omega
  have hq1 : Hid ((Mf.lebs [(M : Int)] ++ Mf.lebs e.drops).length ≤ 900000000) := by
    have := PL.out 0
    rw [Mf.pre_zero, List.length_append, ← HM.out] at this
    show _ ≤ _
    omega
  have PZ : Hid (Mf.lebs [(M : Int)] ++ Mf.lebs e.drops ++ Mf.lebs [(K : Int)] = Mf.pre e 0) := by show _ = _; rw [Mf.pre_zero, ← HM.out, ← HK.out]
  clear hd ha hb hb' C1 hM hK
  go_enter Tryz.func54, Tryz.ntmps54
  go_wp2_with (first
    | (go_at_call 88; have tk := R0; refine (L1.out _ _ _ _ _ _ _ (by simp) R0.out hM9 (by simp)).mono ?_; rintro r w1 ⟨g1, n1, c1, rfl, HN1, x1⟩; have r1 := hide (R0.out.step x1.out); rw [List.nil_append] at r1; obtain ⟨s0, s1, s2, s3, s4⟩ := r1.out.ed.cells; clear R0 tk x1 HN1)
    | (go_at_call 88; have tk := r1; refine (LD.out _ _ _ _ r1.out).mono ?_; rintro r w2 ⟨g2, n2, c2, rfl, r2⟩; clear s0 s1 s2 s3 s4; obtain ⟨s0, s1, s2, s3, s4⟩ := r2.out.ed.cells; clear r1 tk)
    | (go_at_call 88; refine (L1.out _ _ _ _ _ _ _ rfl r2.out hK9 hq1.out).mono ?_; rintro r w3 ⟨g3, n3, c3, rfl, HN3, x3⟩; have r3 := hide (r2.out.step x3.out); rw [PZ.out] at r3; clear s0 s1 s2 s3 s4; obtain ⟨s0, s1, s2, s3, s4⟩ := r3.out.ed.cells; clear r2 x3 HN3))
  have i9 := hnum
  go_loopw [3, 24] (fun v i wr => ∃ (j g n c : Nat), j ≤ K ∧ i = .int .i64 j ∧ v = .slice (some ⟨g, 0, none⟩) n c ∧ Rc w (.slice a2 M cap2) (.slice a3 K cap3) e.log e.seq e.next wr (.slice (some ⟨g, 0, none⟩) n c) (Mf.pre e j)) (fun _ i _ => K - (intOf i).toNat)
  case atStart => exact ⟨0, g3, n3, c3, Nat.zero_le _, rfl, rfl, r3.out⟩
  case round =>
    obtain ⟨j, g, n, c, hj, rfl, rfl, r⟩ := hrel
    clear r3 s0 s1 s2 s3 s4 LD HD HDR PZ hq1
    by_cases hlt : j < K
    · have jl : j < e.adds.length := by have := HK.out; omega
      have j1 : (j : Int) < (K : Int) := by omega
      have j2 : (0 : Int) ≤ (j : Int) := by omega
      have hA1 : MtsAt w (.slice a3 K cap3) e.adds := HA.out
      obtain ⟨B, off, rfl⟩ := hA1.some (by omega)
      obtain ⟨c0, c1, c2, c3', c4⟩ := (hA1.later r.ed.bel).cells j jl
      have PN := hide (Mf.pre_next e j jl)
      obtain ⟨h1, h2, h3, h4, h5⟩ := Mf.words_in (HWD.out _ (List.getElem_mem jl))
      have p0 := PL.out j
      generalize e.adds[j] = x at c0 c1 c2 c3' c4 PN h1 h2 h3 h4 h5
      obtain ⟨mn, mv, mcn, f, la⟩ := x
      simp only at c0 c1 c2 c3' c4 PN h1 h2 h3 h4 h5
      obtain ⟨W, hW⟩ : ∃ W, W = wr.alloc (mO ⟨mn, mv, mcn, f, la⟩) := ⟨_, rfl⟩
      have HW := hide hW
      have RX : Hid (Rcx w (.slice a2 M cap2) (.slice (some ⟨B, off, none⟩) K cap3) e.log e.seq e.next wr.heap.size ⟨mn, mv, mcn, f, la⟩ W (.slice (some ⟨g, 0, none⟩) n c) (Mf.pre e j)) := by
        rw [hW]
        exact ⟨r.later ((Below.refl _ _).alloc (Nat.le_refl _) _), World.alloc_heap_new wr _⟩
      obtain ⟨P, hP⟩ : ∃ P, P = Mf.pre e j := ⟨_, rfl⟩
      rw [← hP] at RX PN p0
      have hb3 : (0 ≤ mn ∧ mn ≤ 4000000000000000000) ∧ (0 ≤ mv ∧ mv ≤ 4000000000000000000) ∧ (0 ≤ mcn ∧ mcn ≤ 4000000000000000000) := by omega
      have hbf : (0 : Int) ≤ (f.length : Int) ∧ (f.length : Int) ≤ 4000000000000000000 := by omega
      have hbl : (0 : Int) ≤ (la.length : Int) ∧ (la.length : Int) ≤ 4000000000000000000 := by omega
      have q1 : (P ++ Mf.lebs [mn, mv, mcn]).length ≤ 2000100 := by
        have := Mf.lebs_len [mn, mv, mcn] (by intro y hy; simp at hy; rcases hy with rfl | rfl | rfl <;> omega)
        rw [List.length_append]
        simp at this
        omega
      obtain ⟨Q1, hQ1⟩ : ∃ Q1, Q1 = P ++ Mf.lebs [mn, mv, mcn] := ⟨_, rfl⟩
      rw [← hQ1] at q1 PN
      have q2 : (Q1 ++ Mf.lebs [(f.length : Int)]).length ≤ 2000200 := by
        have := Mf.lebs_len [(f.length : Int)] (by intro y hy; simp at hy; omega)
        rw [List.length_append]
        simp at this
        omega
      obtain ⟨Q2, hQ2⟩ : ∃ Q2, Q2 = Q1 ++ Mf.lebs [(f.length : Int)] := ⟨_, rfl⟩
      rw [← hQ2] at q2 PN
      have q3 : (Q2 ++ f).length ≤ 2001000 := by rw [List.length_append]; omega
      obtain ⟨Q3, hQ3⟩ : ∃ Q3, Q3 = Q2 ++ f := ⟨_, rfl⟩
      rw [← hQ3] at q3 PN
      have q4 : (Q3 ++ Mf.lebs [(la.length : Int)]).length ≤ 2001100 := by
        have := Mf.lebs_len [(la.length : Int)] (by intro y hy; simp at hy; omega)
        rw [List.length_append]
        simp at this
        omega
      obtain ⟨Q4, hQ4⟩ : ∃ Q4, Q4 = Q3 ++ Mf.lebs [(la.length : Int)] := ⟨_, rfl⟩
      rw [← hQ4] at q4 PN
      have HQ1 := hide hQ1
      have HQ2 := hide hQ2
      have HQ3 := hide hQ3
      have HQ4 := hide hQ4
      have RF : Hid (Q2.length + f.length ≤ 140737488355328) := by show _ ≤ _; omega
      have RL : Hid (Q4.length + la.length ≤ 140737488355328) := by show _ ≤ _; omega
      have HP0 : Hid (P.length ≤ 900000000) := by show _ ≤ _; omega
      have HP1 : Hid (Q1.length ≤ 900000000) := by show _ ≤ _; omega
      have HP3 : Hid (Q3.length ≤ 900000000) := by show _ ≤ _; omega
      have flen : ((⟨f.toArray⟩ : ByteArray).size : Int) = (f.length : Int) := by show ((f.toArray.size : Nat) : Int) = _; simp
      have llen : ((⟨la.toArray⟩ : ByteArray).size : Int) = (la.length : Int) := by show ((la.toArray.size : Nat) : Int) = _; simp
      clear hW hP hQ1 hQ2 hQ3 hQ4 r HA HWD PL h1 h2 h3 h4 h5 p0 q1 q2 q3 q4 hA1
      have N1 := L3.out W (wr.heap.size + 1) _ _ _ _ mn mv mcn (by rw [HW.out]; simp) RX.out.rc hb3 HP0.out
      rw [HW.out] at N1
      have KC : Hid (∀ wx v1 qq, Rcx w (.slice a2 M cap2) (.slice (some ⟨B, off, none⟩) K cap3) e.log e.seq e.next wr.heap.size ⟨mn, mv, mcn, f, la⟩ wx v1 qq → wx.cell? ⟨wr.heap.size, 3, none⟩ = some (str f) ∧ wx.cell? ⟨wr.heap.size, 4, none⟩ = some (str la)) := fun wx v1 qq hx => ⟨Joins.cell_of_block hx.blk 3, Joins.cell_of_block hx.blk 4⟩
      have LF : Hid (∀ wx B1 g1 n1 c1, B1 = wx.heap.size → Rcx w (.slice a2 M cap2) (.slice (some ⟨B, off, none⟩) K cap3) e.log e.seq e.next wr.heap.size ⟨mn, mv, mcn, f, la⟩ wx (.slice (some ⟨g1, 0, none⟩) n1 c1) Q1 → Calls Tryz.prog 88 #[.slice (some ⟨g1, 0, none⟩) n1 c1, .slice (some ⟨B1, 0, none⟩) 1 1] (wx.alloc (.cells #[.int .i64 (f.length : Int)] 3)) fun r w' => ∃ g n c, r = .returned (.slice (some ⟨g, 0, none⟩) n c) ∧ Hid (n = Q2.length) ∧ Hid (Rcx w (.slice a2 M cap2) (.slice (some ⟨B, off, none⟩) K cap3) e.log e.seq e.next wr.heap.size ⟨mn, mv, mcn, f, la⟩ w' (.slice (some ⟨g, 0, none⟩) n c) Q2)) := fun wx B1 g1 n1 c1 hB hx => by
        refine (L1.out wx B1 _ _ _ Q1 _ hB hx.rc hbf HP1.out).mono ?_
        rintro r w' ⟨g, n, c, rfl, hn, x⟩
        rw [← HQ2.out] at hn x
        exact ⟨g, n, c, rfl, hn, hx.step x.out⟩
      have LL : Hid (∀ wx B1 g1 n1 c1, B1 = wx.heap.size → Rcx w (.slice a2 M cap2) (.slice (some ⟨B, off, none⟩) K cap3) e.log e.seq e.next wr.heap.size ⟨mn, mv, mcn, f, la⟩ wx (.slice (some ⟨g1, 0, none⟩) n1 c1) Q3 → Calls Tryz.prog 88 #[.slice (some ⟨g1, 0, none⟩) n1 c1, .slice (some ⟨B1, 0, none⟩) 1 1] (wx.alloc (.cells #[.int .i64 (la.length : Int)] 3)) fun r w' => ∃ g n c, r = .returned (.slice (some ⟨g, 0, none⟩) n c) ∧ Hid (n = Q4.length) ∧ Hid (Rcx w (.slice a2 M cap2) (.slice (some ⟨B, off, none⟩) K cap3) e.log e.seq e.next wr.heap.size ⟨mn, mv, mcn, f, la⟩ w' (.slice (some ⟨g, 0, none⟩) n c) Q4)) := fun wx B1 g1 n1 c1 hB hx => by
        refine (L1.out wx B1 _ _ _ Q3 _ hB hx.rc hbl HP3.out).mono ?_
        rintro r w' ⟨g, n, c, rfl, hn, x⟩
        rw [← HQ4.out] at hn x
        exact ⟨g, n, c, rfl, hn, hx.step x.out⟩
      have S3 : Hid (∀ wx wy g1 n1 c1 v2, Rcx w (.slice a2 M cap2) (.slice (some ⟨B, off, none⟩) K cap3) e.log e.seq e.next wr.heap.size ⟨mn, mv, mcn, f, la⟩ wx (.slice (some ⟨g1, 0, none⟩) n1 c1) Q2 → Ext (w.heap.size + 1) wx (.slice (some ⟨g1, 0, none⟩) n1 c1) wy v2 (Q2 ++ f) → Rcx w (.slice a2 M cap2) (.slice (some ⟨B, off, none⟩) K cap3) e.log e.seq e.next wr.heap.size ⟨mn, mv, mcn, f, la⟩ wy v2 Q3) := fun wx wy g1 n1 c1 v2 hx x => by
        have := hx.step x
        rw [← HQ3.out] at this
        exact this
      clear L1 L3 hb3 hbf hbl HP0 HP1 HP3
      go_wp2_with (go_at_call 88; refine N1.mono ?_; rintro r w5 ⟨g5, n5, c5, rfl, HN5, x5⟩; rw [← HW.out] at x5; have E5 := hide (RX.out.step x5.out); rw [← HQ1.out] at E5; clear N1 x5 RX HN5)
      have P1 := (KC.out _ _ _ (E5.out.later (Below.refl _ _).drew)).1
      have PA := (KC.out _ _ _ (E5.out.later ((Below.refl w5.heap.size w5).alloc (Nat.le_refl _) (.cells #[.int .i64 (f.length : Int)] 3)).drew)).1
      go_region_held3 (fun wx => wx.cell? ⟨wr.heap.size, 3, none⟩ = some (str f))
        (first | exact P1 | exact PA | exact P2 | exact P3 | (go_keep; done))
        (first
          | (refine step_app_strL _ (by rfl) _ _ (by rfl) (w.heap.size + 1) g6 c6 _ f n6 HN6.out rfl (E6.out.row HN6.out) _ (by rfl) rfl RF.out E6.out.rc.low ?_; intro g7 cap7 L7 w7 HL7 x7; have E7 := hide (S3.out _ _ _ _ _ _ E6.out x7); have P3 := (KC.out _ _ _ E7.out).1)
          | (go_at_call 88; refine (LF.out w5.drew _ _ _ _ rfl (E5.out.later (Below.refl _ _).drew)).mono ?_; rintro r w6 ⟨g6, n6, c6, rfl, HN6, E6⟩; have P2 := (KC.out _ _ _ E6.out).1))
      clear P1 PA P2 P3 E5 E6 HN6 LF
      go_wp2_with (fail)
      have P1 := (KC.out _ _ _ (E7.out.later (Below.refl _ _).drew)).2
      have PA := (KC.out _ _ _ (E7.out.later ((Below.refl w7.heap.size w7).alloc (Nat.le_refl _) (.cells #[.int .i64 (la.length : Int)] 3)).drew)).2
      go_region_held3 (fun wx => wx.cell? ⟨wr.heap.size, 4, none⟩ = some (str la))
        (first | exact P1 | exact PA | exact P2 | exact P3 | (go_keep; done))
        (first
          | (refine step_app_strL _ (by rfl) _ _ (by rfl) (w.heap.size + 1) g8 c8 _ la n8 HN8.out rfl (E8.out.row HN8.out) _ (by rfl) rfl RL.out E8.out.rc.low ?_; intro g9 cap9 L9 w9 HL9 x9; have E9 := hide (E8.out.step x9); have P3 := (KC.out _ _ _ E9.out).2)
          | (go_at_call 88; refine (LL.out w7.drew _ _ _ _ rfl (E7.out.later (Below.refl _ _).drew)).mono ?_; rintro r w8 ⟨g8, n8, c8, rfl, HN8, E8⟩; have P2 := (KC.out _ _ _ E8.out).2))
      clear P1 PA P2 P3 E7 E8 HN8 LL
      go_wp2_with (fail)
      refine ⟨⟨j + 1, g9, L9, cap9, by omega, by go_num, rfl, ?_⟩, by simp [intOf]; omega⟩
      rw [PN.out]
      exact E9.out.rc
    · have e9 : j = K := by omega
      subst e9
      have i3 : ¬ (j : Int) < (j : Int) := by omega
      have r2 := r
      have e8 : Mf.pre e j = Mf.pre e e.adds.length := by rw [← HK.out]
      rw [e8] at r2
      have PA := hide (Mf.pre_all e)
      have q9 : Hid ((Mf.pre e e.adds.length).length ≤ 900000000) := by show _ ≤ _; have := PL.out e.adds.length; omega
      have hb3 : (0 ≤ e.log ∧ e.log ≤ 4000000000000000000) ∧ (0 ≤ e.seq ∧ e.seq ≤ 4000000000000000000) ∧ (0 ≤ e.next ∧ e.next ≤ 4000000000000000000) := by omega
      obtain ⟨s0, s1, s2, s3, s4⟩ := r2.ed.cells
      have HR2 := hide r2
      clear r r2 e8 HA HWD L1 PL
      go_wp2_with (go_at_call 88; refine (L3.out _ _ _ _ _ _ _ _ _ rfl HR2.out hb3 q9.out).mono ?_; rintro r w5 ⟨g5, n5, c5, rfl, HN5, x5⟩; have r5 := hide (HR2.out.step x5.out))
      go_ret
      have r6 := r5.out
      have hn6 := HN5.out
      rw [PA.out] at r6 hn6
      exact ⟨g5, n5, c5, rfl, hn6, r6.own, r6.ed.bel⟩
end Go.Proofs.YtlhnjloimhcpfabGreatDoor
namespace Go.Proofs.YtlhnjloimhcpfabGreatDoor
open Go.RowKit

set_option maxRecDepth 100000 in
set_option maxHeartbeats 400000 in
theorem encode_ok (w : World) (a2 a3 : Option Addr) (cap2 cap3 : Nat) (e : Mf.Ed) (hd : IzAt w (.slice a2 e.drops.length cap2) e.drops) (ha : MtsAt w (.slice a3 e.adds.length cap3) e.adds) (hm : ∀ x ∈ e.adds, MtFit x) (he : Mf.encE e = 0) :
    Calls Tryz.prog 29 #[ev (.slice a2 e.drops.length cap2) (.slice a3 e.adds.length cap3) e.log e.seq e.next] w fun r w' => ∃ g n c, r = .returned (.tuple #[.slice (some ⟨g, 0, none⟩) n c, .int .i64 0]) ∧ Hid (n = (Mf.recB e).length) ∧ Hid (w'.ownsRow (w.heap.size + 1) 5 1 (.slice (some ⟨g, 0, none⟩) n c) (Mf.recB e).length (bc (Mf.recB e))) ∧ Below w.heap.size w w' := by
  have he' := he
  unfold Mf.encE at he'
  split at he'
  · cases he'
  rename_i hlong
  split at he'
  case isFalse => cases he'
  rename_i hb
  have W1 := World.size_alloc w (eO (.slice a2 e.drops.length cap2) (.slice a3 e.adds.length cap3) e.log e.seq e.next)
  have E0 := hide (EdIn.new w (.slice a2 e.drops.length cap2) (.slice a3 e.adds.length cap3) e.log e.seq e.next)
  have BD : Hid (∀ wx, Below w.heap.size w wx → Calls Tryz.prog 53 #[ev (.slice a2 e.drops.length cap2) (.slice a3 e.adds.length cap3) e.log e.seq e.next] wx fun r w' => r = .returned (.bool true) ∧ Below wx.heap.size wx w') := fun wx hw => by
    have := bounds_any wx a2 a3 cap2 cap3 e (hd.later hw) (ha.later hw) (by omega) (by omega) hm
    rw [hb] at this
    exact this
  have RC : Hid (∀ wx, Below w.heap.size w wx → Calls Tryz.prog 54 #[ev (.slice a2 e.drops.length cap2) (.slice a3 e.adds.length cap3) e.log e.seq e.next] wx fun r w' => ∃ g n c, r = .returned (.slice (some ⟨g, 0, none⟩) n c) ∧ Hid (n = (Mf.recB e).length) ∧ Hid (w'.ownsRow (wx.heap.size + 1) 5 1 (.slice (some ⟨g, 0, none⟩) n c) (Mf.recB e).length (bc (Mf.recB e))) ∧ Below wx.heap.size wx w') := fun wx hw => rec_any wx a2 a3 cap2 cap3 e (hd.later hw) (ha.later hw) (by omega) (by omega) hb
  obtain ⟨M, hM⟩ : ∃ M, M = e.drops.length := ⟨_, rfl⟩
  obtain ⟨K, hK⟩ : ∃ K, K = e.adds.length := ⟨_, rfl⟩
  rw [← hM, ← hK] at BD RC E0 ⊢
  have i1 : ¬ (M : Int) > 1024 := by omega
  have i2 : ¬ (K : Int) > 1024 := by omega
  generalize Mf.recB e = R at RC ⊢
  clear hd ha hm he hb he' hlong W1 hM hK
  go_enter Tryz.func29, Tryz.ntmps29
  go_wp2_with (first
    | (go_at_call 53; refine (BD.out _ E0.out.bel).mono ?_; rintro r w1 ⟨rfl, b1⟩; have E1 := hide (E0.out.later b1); obtain ⟨s0, s1, s2, s3, s4⟩ := E1.out.cells; clear BD)
    | (go_at_call 54; refine (RC.out _ E1.out.bel).mono ?_; rintro r w2 ⟨g, n, c, rfl, HN, HO, b2⟩; have E2 := hide (E1.out.later b2); clear RC))
  go_ret2
  exact ⟨g, n, c, rfl, HN, own_lift HO.out (by have := E1.out.bel.size; omega), E2.out.bel⟩
end Go.Proofs.YtlhnjloimhcpfabGreatDoor
namespace Go.Proofs.YtlhnjloimhcpfabGreatDoor
open Go.RowKit

set_option maxRecDepth 100000 in
set_option maxHeartbeats 400000 in
theorem encode_bad (w : World) (a2 a3 : Option Addr) (cap2 cap3 : Nat) (e : Mf.Ed) (hd : IzAt w (.slice a2 e.drops.length cap2) e.drops) (ha : MtsAt w (.slice a3 e.adds.length cap3) e.adds) (hm : ∀ x ∈ e.adds, MtFit x) (he : Mf.encE e ≠ 0) :
    Calls Tryz.prog 29 #[ev (.slice a2 e.drops.length cap2) (.slice a3 e.adds.length cap3) e.log e.seq e.next] w fun r w' => r = .returned (.tuple #[.slice none 0 0, .int .i64 (Mf.encE e)]) ∧ Below w.heap.size w w' := by
  have E0 := hide (EdIn.new w (.slice a2 e.drops.length cap2) (.slice a3 e.adds.length cap3) e.log e.seq e.next)
  by_cases h1 : e.drops.length > 1024
  · have HE : Hid (Mf.encE e = 3) := by show _ = _; unfold Mf.encE; rw [if_pos (.inl h1)]
    obtain ⟨M, hM⟩ : ∃ M, M = e.drops.length := ⟨_, rfl⟩
    obtain ⟨K, hK⟩ : ∃ K, K = e.adds.length := ⟨_, rfl⟩
    rw [HE.out]
    rw [← hM, ← hK] at E0 ⊢
    have i1 : (M : Int) > 1024 := by omega
    clear hd ha hm he hM hK h1
    go_enter Tryz.func29, Tryz.ntmps29
    go_wp2_with (fail)
    go_ret2
    exact ⟨rfl, E0.out.bel⟩
  · by_cases h2 : e.adds.length > 1024
    · have HE : Hid (Mf.encE e = 3) := by show _ = _; unfold Mf.encE; rw [if_pos (.inr h2)]
      obtain ⟨M, hM⟩ : ∃ M, M = e.drops.length := ⟨_, rfl⟩
      obtain ⟨K, hK⟩ : ∃ K, K = e.adds.length := ⟨_, rfl⟩
      rw [HE.out]
      rw [← hM, ← hK] at E0 ⊢
      have i1 : ¬ (M : Int) > 1024 := by omega
      have i2 : (K : Int) > 1024 := by omega
      clear hd ha hm he hM hK h1 h2
      go_enter Tryz.func29, Tryz.ntmps29
      go_wp2_with (fail)
      go_ret2
      exact ⟨rfl, E0.out.bel⟩
    · have hb : Mf.bounds e = false := by
        cases k : Mf.bounds e with
        | false => rfl
        | true => refine absurd ?_ he; unfold Mf.encE; rw [if_neg (by omega), if_pos k]
      have HE : Hid (Mf.encE e = 2) := by show _ = _; unfold Mf.encE; rw [if_neg (by omega), hb]; rfl
      have BD : Hid (∀ wx, Below w.heap.size w wx → Calls Tryz.prog 53 #[ev (.slice a2 e.drops.length cap2) (.slice a3 e.adds.length cap3) e.log e.seq e.next] wx fun r w' => r = .returned (.bool false) ∧ Below wx.heap.size wx w') := fun wx hw => by
        have := bounds_any wx a2 a3 cap2 cap3 e (hd.later hw) (ha.later hw) (by omega) (by omega) hm
        rw [hb] at this
        exact this
      obtain ⟨M, hM⟩ : ∃ M, M = e.drops.length := ⟨_, rfl⟩
      obtain ⟨K, hK⟩ : ∃ K, K = e.adds.length := ⟨_, rfl⟩
      rw [HE.out]
      rw [← hM, ← hK] at BD E0 ⊢
      have i1 : ¬ (M : Int) > 1024 := by omega
      have i2 : ¬ (K : Int) > 1024 := by omega
      clear hd ha hm he hb hM hK h1 h2
      go_enter Tryz.func29, Tryz.ntmps29
      go_wp2_with (go_at_call 53; refine (BD.out _ E0.out.bel).mono ?_; rintro r w1 ⟨rfl, b1⟩; clear BD)
      go_ret2
      exact ⟨rfl, E0.out.bel.trans (b1.mono E0.out.bel.size)⟩
end Go.Proofs.YtlhnjloimhcpfabGreatDoor
namespace Go.Proofs.YtlhnjloimhcpfabGreatDoor
open Go.RowKit

theorem own_len {w : World} {base e size tn tc n : Nat} {ta : Option Addr} {xs : List Value} (h : w.ownsRow base e size (.slice ta tn tc) n xs) : tn = n := by
  rcases h.2 with ⟨e, h0⟩ | ⟨g, cap, cur, e, _⟩
  · cases e; exact h0.symm
  · cases e; rfl

end Go.Proofs.YtlhnjloimhcpfabGreatDoor
