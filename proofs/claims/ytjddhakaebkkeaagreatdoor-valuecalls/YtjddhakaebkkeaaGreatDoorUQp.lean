/-
  Package stagepostref12: the literal of a value.
-/
import Derived.Test.YtjddhakaebkkeaaGreatDoorUQf
import Derived.Test.YtjddhakaebkkeaaGreatDoorUQn
import Derived.Test.YtjddhakaebkkeaaGreatDoorUQo
import Derived.Test.YtjddhakaebkkeaaGreatDoorULit
namespace Go.Proofs.YtjddhakaebkkeaaGreatDoor
open Go.RowKit
attribute [local go_sem ↓] Go.wp_at_zero Go.wp_at_succ

theorem itoa_neg {n : Int} (h : n < 0) : Lib.itoa n = 45 :: Lib.decDigits n.natAbs := by unfold Lib.itoa; rw [if_pos h]
theorem itoa_pos {n : Int} (h : ¬ n < 0) : Lib.itoa n = Lib.decDigits n.natAbs := by
  unfold Lib.itoa; rw [if_neg h, show n.toNat = n.natAbs from by omega]
theorem lit_valid {v : Val} (hm : v.may = true) : litE v = if Lib.validD v.t.data.toList then 0 else 2 := by
  unfold litE
  rw [hm]
  by_cases hk : v.k = 3
  · rw [hk]; simp
  · have ht : v.t.data.toList = [] := by
      rcases may_cases v hm with ⟨_, _, c⟩ | ⟨_, _, c⟩ | ⟨_, c⟩ | ⟨a, _⟩
      · rwa [ByteArray.toList_eq] at c
      · rwa [ByteArray.toList_eq] at c
      · rwa [ByteArray.toList_eq] at c
      · exact absurd a hk
    rw [ht, show Lib.validD [] = true from rfl]
    simp

set_option maxRecDepth 10000 in
set_option maxHeartbeats 3200000 in
theorem rliteral_any (w : World) (v : Val) (hv : v.wf) (hT : Tabs w) :
    Calls Tryz.prog 14 #[.agg #[.int .u8 v.k, .int .i64 v.n, .string v.t]] w fun e w' => e = .returned (.tuple #[.string (litS v), .int .i64 (litE v)]) ∧ Below w.heap.size w w' := by
  have CH := hide (fun wx => refCheck_any wx v.k v.n v.t hv.t1)
  have B1 : Below w.heap.size w (w.alloc (.cells #[.int .u8 v.k, .int .i64 v.n, .string v.t] 29)) := (Below.refl _ _).alloc (Nat.le_refl _) _
  have B2 := B1.alloc B1.size (.cells #[.int .u8 v.k, .int .i64 v.n, .string v.t] 29)
  have T1 := hide (hT.later B2)
  cases hm : v.may
  · have e1 : litE v = 2 := by unfold litE; rw [hm]; rfl
    have e2 : litS v = ⟨#[]⟩ := by unfold litS; rw [e1]; rfl
    rw [e1, e2]
    rw [show chk v.k v.n v.t = 2 from by unfold chk; rw [show mayV v.k v.n v.t = false from hm]; rfl] at CH
    clear hv hT hm e1 e2
    obtain ⟨k, n, t⟩ := v
    go_enter Tryz.func14, Tryz.ntmps14
    go_wp2_with (go_at_call 28; refine (CH.out _).mono ?_; rintro e w' ⟨rfl, rfl⟩)
    go_ret2
    exact ⟨rfl, B2⟩
  · rw [show chk v.k v.n v.t = 0 from by unfold chk; rw [show mayV v.k v.n v.t = true from hm]; rfl] at CH
    have hz := may_size hm
    have e1 := lit_valid hm
    have VS := hide (fun wx (h : Tabs wx) => Tryz.utf8_ValidString v.t wx (by omega) h.utf)
    obtain ⟨V, hV⟩ : ∃ V, V = Lib.validD v.t.data.toList := ⟨_, rfl⟩
    rw [← hV] at VS e1
    cases V
    · have e2 : litS v = ⟨#[]⟩ := by unfold litS; rw [e1]; rfl
      rw [e1, e2]
      clear hv hT hm e1 e2 hz hV
      obtain ⟨k, n, t⟩ := v
      go_enter Tryz.func14, Tryz.ntmps14
      go_wp2_with (first
        | (go_at_call 28; refine (CH.out _).mono ?_; rintro e w' ⟨rfl, rfl⟩)
        | (go_at_call 43; refine (VS.out _ T1.out).mono ?_; rintro e w3 ⟨rfl, hb3⟩; have B3 := B2.trans (hb3.mono B2.size)))
      go_ret2
      exact ⟨rfl, B3⟩
    · have e1 : litE v = 0 := e1
      have HS : Hid (litS v = ⟨(litB v).toArray⟩) := by show _ = _; unfold litS; rw [e1]; rfl
      rw [e1]
      rcases lit_cases v hm with hk | hk | hk | hk
      · have e2 : litS v = ⟨#[78, 85, 76, 76]⟩ := by rw [HS.out]; unfold litB; rw [hk]; rfl
        rw [e2]
        clear hv hT hm e1 e2 hz hV HS
        obtain ⟨k, n, t⟩ := v
        simp only at hk
        subst hk
        go_enter Tryz.func14, Tryz.ntmps14
        go_wp2_with (first
          | (go_at_call 28; refine (CH.out _).mono ?_; rintro e w' ⟨rfl, rfl⟩)
          | (go_at_call 43; refine (VS.out _ T1.out).mono ?_; rintro e w3 ⟨rfl, hb3⟩; obtain ⟨q0, q1, q2⟩ := ahead_slot hb3; have B3 := B2.trans (hb3.mono B2.size)))
        go_ret2
        exact ⟨rfl, B3⟩
      · have hn : v.n = 0 ∨ v.n = 1 := by
          rcases may_cases v hm with ⟨a, _⟩ | ⟨_, b, _⟩ | ⟨a, _⟩ | ⟨a, _⟩
          · rw [a] at hk; exact absurd hk (by decide)
          · exact b
          · rw [a] at hk; exact absurd hk (by decide)
          · rw [a] at hk; exact absurd hk (by decide)
        have ht : v.t.toList = [] := by
          rcases may_cases v hm with ⟨a, _⟩ | ⟨_, _, c⟩ | ⟨a, _⟩ | ⟨a, _⟩
          · rw [a] at hk; exact absurd hk (by decide)
          · exact c
          · rw [a] at hk; exact absurd hk (by decide)
          · rw [a] at hk; exact absurd hk (by decide)
        have e2 : ∀ b : Bool, v.n = (if b then 1 else 0) → litS v = if b then ⟨#[84, 82, 85, 69]⟩ else ⟨#[70, 65, 76, 83, 69]⟩ := fun b hb => by
          have hi : isT v = b := by
            unfold isT sameV tv
            rw [hk, ht, hb, show (⟨#[]⟩ : ByteArray).toList = [] from by simp]
            cases b <;> simp
          rw [HS.out]; unfold litB; rw [if_pos hk, hi]; cases b <;> rfl
        rcases hn with hn | hn
        · rw [e2 false hn]
          clear hv hT hm e1 e2 hz hV HS ht
          obtain ⟨k, n, t⟩ := v
          simp only at hk hn
          subst hk hn
          go_enter Tryz.func14, Tryz.ntmps14
          go_wp2_with (first
            | (go_at_call 28; refine (CH.out _).mono ?_; rintro e w' ⟨rfl, rfl⟩)
            | (go_at_call 43; refine (VS.out _ T1.out).mono ?_; rintro e w3 ⟨rfl, hb3⟩; obtain ⟨q0, q1, q2⟩ := ahead_slot hb3; have B3 := B2.trans (hb3.mono B2.size)))
          go_ret2
          exact ⟨rfl, B3⟩
        · rw [e2 true hn]
          clear hv hT hm e1 e2 hz hV HS ht
          obtain ⟨k, n, t⟩ := v
          simp only at hk hn
          subst hk hn
          go_enter Tryz.func14, Tryz.ntmps14
          go_wp2_with (first
            | (go_at_call 28; refine (CH.out _).mono ?_; rintro e w' ⟨rfl, rfl⟩)
            | (go_at_call 43; refine (VS.out _ T1.out).mono ?_; rintro e w3 ⟨rfl, hb3⟩; obtain ⟨q0, q1, q2⟩ := ahead_slot hb3; have B3 := B2.trans (hb3.mono B2.size)))
          go_ret2
          exact ⟨rfl, B3⟩
      · have e2 : litS v = ⟨(Lib.itoa v.n).toArray⟩ := by rw [HS.out]; unfold litB; rw [hk]; rfl
        have hI := hv.i
        have MG := hide (fun wx => rmag_any wx v.n hI)
        have hab : v.n.natAbs < 18446744073709551616 := by have := hI.1; have := hI.2; omega
        have hdl := dec_len20 hab
        have DG := hide (rdigits_any v.n.natAbs hab)
        obtain ⟨A, hA⟩ : ∃ A : ByteArray, A = ⟨(Lib.decDigits v.n.natAbs).toArray⟩ := ⟨_, rfl⟩
        have zA : A.size ≤ 20 := by rw [hA]; show (Lib.decDigits _).toArray.size ≤ _; rw [List.size_toArray]; exact hdl
        rw [← hA] at DG
        obtain ⟨M, hM⟩ : ∃ M, M = v.n.natAbs := ⟨_, rfl⟩
        rw [← hM] at MG DG
        by_cases hn : v.n < 0
        · have e3 : litS v = (⟨#[45]⟩ : ByteArray) ++ A := by
            rw [e2, itoa_neg hn, hA]
            apply ByteArray.ext
            simp [ByteArray.data_append]
          rw [e3]
          rw [decide_eq_true hn] at MG
          clear hv hT hm e1 e2 e3 hz hV HS hI hab hdl hA hM hn
          obtain ⟨k, n, t⟩ := v
          simp only at hk
          subst hk
          go_enter Tryz.func14, Tryz.ntmps14
          go_wp2_with (first
            | (go_at_call 28; refine (CH.out _).mono ?_; rintro e w' ⟨rfl, rfl⟩)
            | (go_at_call 43; refine (VS.out _ T1.out).mono ?_; rintro e w3 ⟨rfl, hb3⟩; obtain ⟨q0, q1, q2⟩ := ahead_slot hb3; have B3 := B2.trans (hb3.mono B2.size))
            | (go_at_call 46; refine (MG.out _).mono ?_; rintro e w4 ⟨rfl, h4⟩; subst h4)
            | (go_at_call 47; refine (DG.out _).mono ?_; rintro e w5 ⟨rfl, h5⟩; subst h5))
          go_ret2
          exact ⟨rfl, B3⟩
        · have e3 : litS v = A := by rw [e2, itoa_pos hn, hA]
          rw [e3]
          rw [decide_eq_false hn] at MG
          clear hv hT hm e1 e2 e3 hz hV HS hI hab hdl hA hM hn
          obtain ⟨k, n, t⟩ := v
          simp only at hk
          subst hk
          go_enter Tryz.func14, Tryz.ntmps14
          go_wp2_with (first
            | (go_at_call 28; refine (CH.out _).mono ?_; rintro e w' ⟨rfl, rfl⟩)
            | (go_at_call 43; refine (VS.out _ T1.out).mono ?_; rintro e w3 ⟨rfl, hb3⟩; obtain ⟨q0, q1, q2⟩ := ahead_slot hb3; have B3 := B2.trans (hb3.mono B2.size))
            | (go_at_call 46; refine (MG.out _).mono ?_; rintro e w4 ⟨rfl, h4⟩; subst h4)
            | (go_at_call 47; refine (DG.out _).mono ?_; rintro e w5 ⟨rfl, h5⟩; subst h5))
          go_ret2
          exact ⟨rfl, B3⟩
      · have QU := hide (fun wx => rquoted_any wx v.t (by omega))
        have e2 : litS v = ⟨(39 :: (twiceL v.t.data.toList ++ [39])).toArray⟩ := by rw [HS.out]; unfold litB; rw [hk]; rfl
        rw [e2]
        obtain ⟨A, hA⟩ : ∃ A : ByteArray, A = ⟨(39 :: (twiceL v.t.data.toList ++ [39])).toArray⟩ := ⟨_, rfl⟩
        rw [← hA] at QU ⊢
        clear hv hT hm e1 e2 hz hV HS hA
        obtain ⟨k, n, t⟩ := v
        simp only at hk
        subst hk
        go_enter Tryz.func14, Tryz.ntmps14
        go_wp2_with (first
          | (go_at_call 28; refine (CH.out _).mono ?_; rintro e w' ⟨rfl, rfl⟩)
          | (go_at_call 43; refine (VS.out _ T1.out).mono ?_; rintro e w3 ⟨rfl, hb3⟩; obtain ⟨q0, q1, q2⟩ := ahead_slot hb3; have B3 := B2.trans (hb3.mono B2.size))
          | (go_at_call 45; refine (QU.out _).mono ?_; rintro e w4 ⟨rfl, hb4⟩; have B4 := B3.trans (hb4.mono B3.size)))
        go_ret2
        exact ⟨rfl, B4⟩
end Go.Proofs.YtjddhakaebkkeaaGreatDoor
