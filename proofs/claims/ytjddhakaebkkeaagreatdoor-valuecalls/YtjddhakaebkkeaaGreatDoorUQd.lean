/-
  The document's own OpAnd and OpOr, and the kind that an operation gives.
-/
import Derived.Test.YtjddhakaebkkeaaGreatDoorUQc
namespace Go.Proofs.YtjddhakaebkkeaaGreatDoor
open Go.RowKit
attribute [local go_sem ↓] Go.wp_at_zero Go.wp_at_succ

theorem sameV_comm (a b : Val) : sameV a b = sameV b a := by
  unfold sameV
  rw [Bool.beq_comm (a := a.k), Bool.beq_comm (a := a.n), Bool.beq_comm (a := a.t.toList)]

set_option maxHeartbeats 3200000 in
theorem rlogic_any (w : World) (op : Int) (ho : op = 15 ∨ op = 16) (a b : Val) :
    Calls Tryz.prog 30 #[.int .u8 op, .agg #[.int .u8 a.k, .int .i64 a.n, .string a.t], .agg #[.int .u8 b.k, .int .i64 b.n, .string b.t]] w fun e w' => e = .returned (.agg #[.int .u8 (decL (decide (op = 16)) [a, b]).k, .int .i64 (decL (decide (op = 16)) [a, b]).n, .string (decL (decide (op = 16)) [a, b]).t]) ∧ Below w.heap.size w w' := by
  obtain ⟨d, hd⟩ : ∃ d, d = decide (op = 16) := ⟨_, rfl⟩
  obtain ⟨S1, h1⟩ : ∃ S, S = sameV a (tv d) := ⟨_, rfl⟩
  obtain ⟨S2, h2⟩ : ∃ S, S = sameV b (tv d) := ⟨_, rfl⟩
  obtain ⟨N1, n1⟩ : ∃ N, N = (a.k == 0) := ⟨_, rfl⟩
  obtain ⟨N2, n2⟩ : ∃ N, N = (b.k == 0) := ⟨_, rfl⟩
  have HD : Hid (decL (decide (op = 16)) [a, b] = if S1 || S2 then tv d else if N1 || N2 then nullV else tv (!d)) := by
    show _ = _
    rw [← hd, h1, h2, n1, n2, sameV_comm a, sameV_comm b]
    unfold decL
    simp [isN]
  have E1 := eql_val a.k a.n a.t 1 (if d then 1 else 0) ⟨#[]⟩
  rw [show sameV ⟨a.k, a.n, a.t⟩ ⟨1, if d then 1 else 0, ⟨#[]⟩⟩ = S1 from h1.symm] at E1
  have E2 := eql_val b.k b.n b.t 1 (if d then 1 else 0) ⟨#[]⟩
  rw [show sameV ⟨b.k, b.n, b.t⟩ ⟨1, if d then 1 else 0, ⟨#[]⟩⟩ = S2 from h2.symm] at E2
  have z1 : (a.k == 0) = N1 := n1.symm
  have z2 : (b.k == 0) = N2 := n2.symm
  clear h1 h2 n1 n2
  obtain ⟨D, hD⟩ : ∃ D, D = decL (decide (op = 16)) [a, b] := ⟨_, rfl⟩
  rw [← hD] at HD ⊢
  clear hD
  obtain ⟨ak, an, at'⟩ := a
  obtain ⟨bk, bn, bt⟩ := b
  simp only at z1 z2
  have BB : ∀ o1 o2 o3 o4 o5 : Obj, Below w.heap.size w (((((w.alloc o1).alloc o2).alloc o3).alloc o4).alloc o5) := fun o1 o2 o3 o4 o5 => (((((Below.refl _ _).alloc (Nat.le_refl _) o1).alloc (by simp) o2).alloc (by simp; omega) o3).alloc (by simp; omega) o4).alloc (by simp; omega) o5
  have BB6 : ∀ o1 o2 o3 o4 o5 o6 : Obj, Below w.heap.size w ((((((w.alloc o1).alloc o2).alloc o3).alloc o4).alloc o5).alloc o6) := fun o1 o2 o3 o4 o5 o6 => (BB o1 o2 o3 o4 o5).alloc (by simp; omega) o6
  have le2 : w.heap.size ≤ w.heap.size + 1 + 1 := by omega
  have BK := hide BB
  have BK6 := hide BB6
  clear BB BB6
  rcases ho with rfl | rfl
  · have hd2 : d = false := hd
    subst hd2
    clear hd
    rw [show (if (false : Bool) then (1 : Int) else 0) = 0 from rfl] at E1 E2
    cases S1
    · cases S2
      · cases N1
        · cases N2
          · have e := HD.out
            simp at e
            subst e
            go_enter Tryz.func30, Tryz.ntmps30
            go_wp2_with (go_at_call 29; refine (rtruth_any _ _).mono ?_; rintro e w' ⟨rfl, rfl⟩)
            refine bodyPost_ret (v := .agg #[.int .u8 1, .int .i64 1, .string ⟨#[]⟩]) (by simp [results, Tryz.results30, go_sem]; try rfl) rfl ⟨rfl, ?_⟩
            first | exact BK.out _ _ _ _ _ | exact BK6.out _ _ _ _ _ _
          · have e := HD.out
            simp at e
            subst e
            go_enter Tryz.func30, Tryz.ntmps30
            go_wp2_with (go_at_call 29; refine (rtruth_any _ _).mono ?_; rintro e w' ⟨rfl, rfl⟩)
            refine bodyPost_ret (v := .agg #[.int .u8 0, .int .i64 0, .string ⟨#[]⟩]) (by simp [results, Tryz.results30, go_sem]; try rfl) rfl ⟨rfl, ?_⟩
            first | exact BK.out _ _ _ _ _ | exact BK6.out _ _ _ _ _ _
        · have e := HD.out
          simp at e
          subst e
          go_enter Tryz.func30, Tryz.ntmps30
          go_wp2_with (go_at_call 29; refine (rtruth_any _ _).mono ?_; rintro e w' ⟨rfl, rfl⟩)
          refine bodyPost_ret (v := .agg #[.int .u8 0, .int .i64 0, .string ⟨#[]⟩]) (by simp [results, Tryz.results30, go_sem]; try rfl) rfl ⟨rfl, ?_⟩
          first | exact BK.out _ _ _ _ _ | exact BK6.out _ _ _ _ _ _
      · have e := HD.out
        simp at e
        subst e
        go_enter Tryz.func30, Tryz.ntmps30
        go_wp2_with (go_at_call 29; refine (rtruth_any _ _).mono ?_; rintro e w' ⟨rfl, rfl⟩)
        refine bodyPost_ret (v := .agg #[.int .u8 1, .int .i64 0, .string ⟨#[]⟩]) (by simp [results, Tryz.results30, go_sem]; try rfl) rfl ⟨rfl, ?_⟩
        first | exact BK.out _ _ _ _ _ | exact BK6.out _ _ _ _ _ _
    · have e := HD.out
      simp at e
      subst e
      go_enter Tryz.func30, Tryz.ntmps30
      go_wp2_with (go_at_call 29; refine (rtruth_any _ _).mono ?_; rintro e w' ⟨rfl, rfl⟩)
      refine bodyPost_ret (v := .agg #[.int .u8 1, .int .i64 0, .string ⟨#[]⟩]) (by simp [results, Tryz.results30, go_sem]; try rfl) rfl ⟨rfl, ?_⟩
      first | exact BK.out _ _ _ _ _ | exact BK6.out _ _ _ _ _ _
  · have hd2 : d = true := hd
    subst hd2
    clear hd
    rw [show (if (true : Bool) then (1 : Int) else 0) = 1 from rfl] at E1 E2
    cases S1
    · cases S2
      · cases N1
        · cases N2
          · have e := HD.out
            simp at e
            subst e
            go_enter Tryz.func30, Tryz.ntmps30
            go_wp2_with (go_at_call 29; refine (rtruth_any _ _).mono ?_; rintro e w' ⟨rfl, rfl⟩)
            refine bodyPost_ret (v := .agg #[.int .u8 1, .int .i64 0, .string ⟨#[]⟩]) (by simp [results, Tryz.results30, go_sem]; try rfl) rfl ⟨rfl, ?_⟩
            first | exact BK.out _ _ _ _ _ | exact BK6.out _ _ _ _ _ _
          · have e := HD.out
            simp at e
            subst e
            go_enter Tryz.func30, Tryz.ntmps30
            go_wp2_with (go_at_call 29; refine (rtruth_any _ _).mono ?_; rintro e w' ⟨rfl, rfl⟩)
            refine bodyPost_ret (v := .agg #[.int .u8 0, .int .i64 0, .string ⟨#[]⟩]) (by simp [results, Tryz.results30, go_sem]; try rfl) rfl ⟨rfl, ?_⟩
            first | exact BK.out _ _ _ _ _ | exact BK6.out _ _ _ _ _ _
        · have e := HD.out
          simp at e
          subst e
          go_enter Tryz.func30, Tryz.ntmps30
          go_wp2_with (go_at_call 29; refine (rtruth_any _ _).mono ?_; rintro e w' ⟨rfl, rfl⟩)
          refine bodyPost_ret (v := .agg #[.int .u8 0, .int .i64 0, .string ⟨#[]⟩]) (by simp [results, Tryz.results30, go_sem]; try rfl) rfl ⟨rfl, ?_⟩
          first | exact BK.out _ _ _ _ _ | exact BK6.out _ _ _ _ _ _
      · have e := HD.out
        simp at e
        subst e
        go_enter Tryz.func30, Tryz.ntmps30
        go_wp2_with (go_at_call 29; refine (rtruth_any _ _).mono ?_; rintro e w' ⟨rfl, rfl⟩)
        refine bodyPost_ret (v := .agg #[.int .u8 1, .int .i64 1, .string ⟨#[]⟩]) (by simp [results, Tryz.results30, go_sem]; try rfl) rfl ⟨rfl, ?_⟩
        first | exact BK.out _ _ _ _ _ | exact BK6.out _ _ _ _ _ _
    · have e := HD.out
      simp at e
      subst e
      go_enter Tryz.func30, Tryz.ntmps30
      go_wp2_with (go_at_call 29; refine (rtruth_any _ _).mono ?_; rintro e w' ⟨rfl, rfl⟩)
      refine bodyPost_ret (v := .agg #[.int .u8 1, .int .i64 1, .string ⟨#[]⟩]) (by simp [results, Tryz.results30, go_sem]; try rfl) rfl ⟨rfl, ?_⟩
      first | exact BK.out _ _ _ _ _ | exact BK6.out _ _ _ _ _ _
end Go.Proofs.YtjddhakaebkkeaaGreatDoor
