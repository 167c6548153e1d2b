/-
  Why an operation is refused, and what decides of two Bools.
-/
import Derived.Test.YtjddhakaebkkeaaGreatDoorUTwo
namespace Go.Proofs.YtjddhakaebkkeaaGreatDoor
open Go.RowKit
attribute [local go_sem ↓] Go.wp_at_zero Go.wp_at_succ

theorem just_len {op : Int} {n : Nat} (h : justB op n = true) : n = 1 ∨ n = 2 := by
  unfold justB at h
  simp only [Bool.and_eq_true, decide_eq_true_eq] at h
  rcases takes_cases op with e | e | e <;> omega

theorem take_kinds (l : List Val) (j : Nat) (h : j < l.length) : (l.map Val.k).take (j + 1) = (l.map Val.k).take j ++ [l[j].k] := by
  rw [List.take_succ_eq_append_getElem (by simpa using h), List.getElem_map]

set_option maxHeartbeats 1600000 in
theorem refused_any (w : World) (op : Int) (v : Value) (l : List Val) (h : ValsIn w v l) :
    Calls Tryz.prog 21 #[.int .u8 op, v] w fun e w' => e = .returned (.int .i64 (refE op l)) ∧ Below w.heap.size w w' := by
  obtain ⟨⟨a, cap, rfl, hf⟩, hwf, hlen⟩ := h
  have HL : Hid (l ≠ [] → ∃ b off, a = some ⟨b, off, none⟩ ∧ ValsAt w b off l) := hf
  have HW : Hid (∀ v ∈ l, v.wf) := hwf
  clear hf hwf
  obtain ⟨J, hJ⟩ : ∃ J, J = justB op l.length := ⟨_, rfl⟩
  have JU : Hid (∀ wx, Calls Tryz.prog 35 #[.int .u8 op, .int .i64 l.length] wx fun e w' => e = .returned (.bool J) ∧ w' = wx) := fun wx => by rw [hJ]; exact just_any wx op l.length hlen
  have HE : Hid (refE op l = if J && l.all Val.may then givesE op (l.map Val.k) else 2) := by show _ = _; rw [hJ]; rfl
  cases J
  · have G : Hid (refE op l = 2) := by show _ = _; rw [HE.out]; rfl
    clear hJ
    go_enter Tryz.func21, Tryz.ntmps21
    go_wp2_with (go_at_call 35; refine still (JU.out _) ?_)
    go_ret
    exact ⟨by rw [G.out]; rfl, Below.refl _ _⟩
  · have hl2 : l.length ≤ 2 := by have := just_len hJ.symm; omega
    clear hJ hlen
    obtain ⟨i0, hi, hz0, hz1, hz2⟩ := info_parts kindInfo
    go_enter Tryz.func21, Tryz.ntmps21
    go_wp2_with (go_at_call 35; refine still (JU.out _) ?_)
    go_loopw [5, 7, 8, 18] (fun kv _ _ i wr => ∃ j : Nat, j ≤ l.length ∧ i = .int .i64 j ∧ KindsOwn w.heap.size w wr kv ((l.map Val.k).take j) ∧ (l.take j).all Val.may = true) (fun _ _ _ i _ => l.length - (intOf i).toNat)
    case atStart => exact ⟨0, Nat.zero_le _, rfl, ⟨World.ownsRow_nil _ _ _ _, Below.refl _ _⟩, by simp⟩
    case round =>
      obtain ⟨j, hj, rfl, hko, hall⟩ := hrel
      have HA := hide hall
      have HKO := hide hko
      have hbel := hko.bel
      have hs := hbel.size
      clear hall
      by_cases hlt : j < l.length
      · obtain ⟨b, off, rfl, hv⟩ := HL.out (by intro e; rw [e] at hlt; simp at hlt)
        obtain ⟨c0, c1, c2⟩ := (hv.later hbel) j hlt
        have hw1 := (HW.out _ (List.getElem_mem hlt)).t1
        have HT := hide (take_kinds l j hlt)
        have HM : Hid ((l.take (j + 1)).all Val.may = (l[j]).may) := by
          show _ = _
          rw [List.take_succ_eq_append_getElem hlt, List.all_append, HA.out]; simp
        have HN : Hid ((l[j]).may = false → l.all Val.may = false) := fun h => by
          rw [Bool.eq_false_iff]; intro h2
          have := List.all_eq_true.mp h2 _ (List.getElem_mem hlt)
          rw [h] at this; cases this
        obtain ⟨x, hx⟩ : ∃ x, x = l[j] := ⟨_, rfl⟩
        rw [← hx] at c0 c1 c2 hw1 HT HM HN
        clear hx hv
        obtain ⟨xk, xn, xt⟩ := x
        have hkl : ((l.map Val.k).take j).length = j := by rw [List.length_take, List.length_map]; omega
        have own := hko.own
        rw [hkl] at own
        cases hmay : mayV xk xn xt
        · have hchk : chk xk xn xt = 2 := by unfold chk; rw [hmay]; rfl
          have G : Hid (refE op l = 2) := by show _ = _; rw [HE.out, HN.out hmay]; rfl
          clear own hko
          go_wp2_with (go_at_call 41; refine (check_any _ _ _ _ hw1).mono ?_; rintro e w' ⟨rfl, rfl⟩)
          go_ret
          exact ⟨by rw [G.out]; rfl, (hbel.alloc hs _).alloc (by simp; omega) _⟩
        · have hchk : chk xk xn xt = 0 := by unfold chk; rw [hmay]; rfl
          have HMA : Hid ((l.take (j + 1)).all Val.may = true) := by show _ = _; rw [HM.out]; exact hmay
          have own3 := ((own.alloc (.cells #[.int .u8 xk, .int .i64 xn, .string xt] 29)).alloc (.cells #[.int .u8 xk, .int .i64 xn, .string xt] 29)).alloc (.cells #[.int .u8 xk] 27)
          have b3 := ((hbel.alloc hs (.cells #[.int .u8 xk, .int .i64 xn, .string xt] 29)).alloc (by simp; omega) (.cells #[.int .u8 xk, .int .i64 xn, .string xt] 29)).alloc (by simp; omega) (.cells #[.int .u8 xk] 27)
          have news0 := World.news_of_block (cs := #[.int .u8 xk]) (heap_alloc_new ((wr.alloc (.cells #[.int .u8 xk, .int .i64 xn, .string xt] 29)).alloc (.cells #[.int .u8 xk, .int .i64 xn, .string xt] 29)) (.cells #[.int .u8 xk] 27))
          have news : ∀ i u, (kc [xk])[i]? = some u → (((wr.alloc (.cells #[.int .u8 xk, .int .i64 xn, .string xt] 29)).alloc (.cells #[.int .u8 xk, .int .i64 xn, .string xt] 29)).alloc (.cells #[.int .u8 xk] 27)).cell? ((⟨wr.heap.size + 1 + 1, 0, none⟩ : Addr).add i) = some u := by simpa [kc] using news0
          have m1 : j + 1 ≤ maxLen := by unfold maxLen; omega
          have m2 : (j + 1) * 1 ≤ 140737488355328 := by omega
          have OWN := hide own3
          have BEL := hide b3
          have NEWS := hide news
          clear own own3 b3 news news0 hko hmay
          go_wp2_with (first
            | (go_at_call 41; refine (check_any _ _ _ _ hw1).mono ?_; rintro e w' ⟨rfl, rfl⟩)
            | (at_builtin; refine wpList_append_own _ rfl (.tmp 27) (.tmp 30) 24 rfl w.heap.size 27 i0 (.int .u8 0) 1 1 Tryz.underlying24 hi hz0 hz1 hz2 rfl (by decide) _ j (kc ((l.map Val.k).take j)) rfl OWN.out ⟨wr.heap.size + 1 + 1, 0, none⟩ 1 1 (kc [xk]) rfl rfl NEWS.out (kc_one _) m1 m2 BEL.out.size ?_; intro v' w' o1 g1 _))
          have KO : KindsOwn w.heap.size w w' v' ((l.map Val.k).take j ++ [xk]) := by
            refine KindsOwn.push ⟨?_, BEL.out⟩ hkl.symm BEL.out.size o1 g1
            rw [hkl]; exact OWN.out
          rw [← HT.out] at KO
          clear o1 g1
          go_roundw
          case rel => exact ⟨j + 1, by omega, by go_num, KO, HMA.out⟩
          case measure => simp [intOf]; omega
      · have e : j = l.length := by omega
        have hfull : (l.map Val.k).take j = l.map Val.k := List.take_of_length_le (by rw [List.length_map]; omega)
        have hmf : l.all Val.may = true := by
          have h := HA.out
          rwa [List.take_of_length_le (by omega)] at h
        have HG : Hid (refE op l = givesE op (l.map Val.k)) := by show _ = _; rw [HE.out, hmf]; rfl
        rw [hfull] at hko
        have KI := hide (kinds_of_own hko.own (by rw [List.length_map]; omega))
        have GV : Hid (Calls Tryz.prog 8 #[.int .u8 op, _] wr _) := gives_any wr op _ _ KI.out
        clear e hfull hmf hko HKO HA
        go_wp2_with (go_at_call 8; refine still GV.out ?_)
        go_ret
        exact ⟨by rw [HG.out]; rfl, hbel⟩
end Go.Proofs.YtjddhakaebkkeaaGreatDoor
