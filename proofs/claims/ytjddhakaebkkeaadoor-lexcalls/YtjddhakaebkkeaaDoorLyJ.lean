/-
  Package stagepostref13: whether a token may be.
-/
import Derived.Test.YtjddhakaebkkeaaDoorLyI
namespace Go.Proofs.YtjddhakaebkkeaaDoor
open Go.RowKit
attribute [local go_sem ↓] Go.wp_at_zero Go.wp_at_succ

theorem may_kind {x : Lx.Tk} (h : Lx.mayT x = true) : 1 ≤ x.k ∧ x.k ≤ 4 ∧ x.at' = 0 ∧ (x.k = 2 → x.t = []) := by
  unfold Lx.mayT at h
  simp only [Bool.and_eq_true, beq_iff_eq] at h
  obtain ⟨⟨h1, _⟩, h2⟩ := h
  split at h2
  · rename_i hk; exact ⟨by omega, by omega, h1, fun e => by omega⟩
  · split at h2
    · rename_i hk
      simp only [Bool.and_eq_true, List.isEmpty_iff] at h2
      exact ⟨by omega, by omega, h1, fun _ => h2.1⟩
    · split at h2
      · rename_i hk; exact ⟨by omega, by omega, h1, fun e => by omega⟩
      · split at h2
        · rename_i hk; exact ⟨by omega, by omega, h1, fun e => by omega⟩
        · cases h2

set_option maxRecDepth 20000 in
set_option maxHeartbeats 6400000 in
theorem rmay_no (w : World) (x : Lx.Tk) (xs : ByteArray) (hxs : xs = ⟨x.t.toArray⟩) (hg : ¬ (1 ≤ x.k ∧ x.k ≤ 4 ∧ x.at' = 0 ∧ (x.k = 2 → x.t = []))) : Calls Tryd.prog 20 #[.agg #[.int .u8 x.k, .string xs, .int .u64 x.n, .int .i64 x.at']] w fun e w' => e = .returned (.bool false) ∧ Below w.heap.size w w' := by
  have B1 : Below w.heap.size w (w.alloc (.cells #[.int .u8 x.k, .string xs, .int .u64 x.n, .int .i64 x.at'] 27)) := (Below.refl _ _).alloc (Nat.le_refl _) _
  have hd : xs.toList.isEmpty = x.t.isEmpty := by rw [ByteArray.toList_eq, hxs]
  obtain ⟨k, t, n, a⟩ := x
  simp only at hg hd
  by_cases h1 : k < 1
  · clear hg hd hxs
    go_enter Tryd.func20, Tryd.ntmps20
    go_wp2
    go_ret
    exact ⟨rfl, B1⟩
  by_cases h4 : 4 < k
  · clear hg hd hxs
    go_enter Tryd.func20, Tryd.ntmps20
    go_wp2
    go_ret
    exact ⟨rfl, B1⟩
  by_cases ha : a = 0
  · have h2 : k = 2 := by
      rcases Classical.em (k = 2) with h | h
      · exact h
      · exact absurd ⟨by omega, by omega, ha, fun e => absurd e h⟩ hg
    have ht : t.isEmpty = false := by
      cases t with
      | nil => exact absurd ⟨by omega, by omega, ha, fun _ => rfl⟩ hg
      | cons c r => rfl
    rw [ht] at hd
    clear hg ht hxs h1 h4
    subst h2 ha
    go_enter Tryd.func20, Tryd.ntmps20
    go_wp2
    go_ret
    exact ⟨rfl, B1⟩
  · have hab : (a == 0) = false := by simpa using ha
    have hab2 : (a != 0) = true := by simpa using ha
    clear hg hd hxs
    go_enter Tryd.func20, Tryd.ntmps20
    go_wp2
    go_ret
    exact ⟨rfl, B1⟩
theorem same_tk {k : Int} {t : ByteArray} {n a : Int} {k' : Int} {t' : ByteArray} {n' a' : Int} (h : sameTk k t n a k' t' n' a' = true) : k = k' ∧ t.toList = t'.toList ∧ n = n' ∧ a = a' := by
  unfold sameTk at h
  simp only [Bool.and_eq_true, beq_iff_eq] at h
  exact ⟨h.1, h.2.1, h.2.2.1, h.2.2.2⟩
theorem same_tk_refl (k : Int) (t : ByteArray) (n a : Int) : sameTk k t n a k t n a = true := by unfold sameTk; simp

set_option maxRecDepth 20000 in
set_option maxHeartbeats 12800000 in
theorem rmay_any (w : World) (x : Lx.Tk) (xs : ByteArray) (hxs : xs = ⟨x.t.toArray⟩) (hw : Twf x) (hl : x.t.length ≤ 10000) (hT : Tab2 w) : Calls Tryd.prog 20 #[.agg #[.int .u8 x.k, .string xs, .int .u64 x.n, .int .i64 x.at']] w fun e w' => e = .returned (.bool (Lx.mayT x)) ∧ Below w.heap.size w w' := by
  by_cases hg : 1 ≤ x.k ∧ x.k ≤ 4 ∧ x.at' = 0 ∧ (x.k = 2 → x.t = [])
  case neg =>
    have hM : Lx.mayT x = false := by
      cases h : Lx.mayT x
      · rfl
      · exact absurd (may_kind h) hg
    rw [hM]
    exact rmay_no w x xs hxs hg
  case pos =>
    have SA := hide (fun wx => rsaid_any wx x xs hxs hw (by omega))
    have TT := hide hT
    clear hT
    have hd : x.k = 2 → xs.toList.isEmpty = true := fun e => by rw [ByteArray.toList_eq, hxs, hg.2.2.2 e]; rfl
    obtain ⟨S, hS⟩ : ∃ S : ByteArray, S = ⟨(Lx.saidT x).toArray⟩ := ⟨_, rfl⟩
    have hSd : S.data.toList = Lx.saidT x := by rw [hS]
    have hSz : S.size = (Lx.saidT x).length := by rw [hS]; show (Lx.saidT x).toArray.size = _; simp
    rw [← hS] at SA
    obtain ⟨M, hM⟩ : ∃ M, M = Lx.mayT x := ⟨_, rfl⟩
    rw [← hM]
    have NO : (∀ m, Lx.next (Lx.saidT x) = .tok x m → m ≠ (Lx.saidT x).length ∨ False) → Hid (M = false) := fun h => by
      show _ = _
      rw [hM]
      cases e : Lx.mayT x
      · rfl
      · rcases h _ (Lx.said_next e) with h | h
        · exact absurd rfl h
        · exact h.elim
    have N1 : (Lx.saidT x).length = 0 ∨ 256 < (Lx.saidT x).length ∨ (∃ c r, Lx.saidT x = c :: r ∧ Lx.bl c = true) → Hid (M = false) := fun h => by
      show _ = _
      rw [hM]
      cases e : Lx.mayT x
      · rfl
      · have h1 := said_len e
        obtain ⟨c, r, h2, h3⟩ := Lx.next_bl (Lx.said_next e)
        rcases h with h | h | ⟨c', r', h4, h5⟩
        · rw [h2] at h; simp at h
        · omega
        · rw [h4] at h2; rw [(List.cons.inj h2).1, h3] at h5; cases h5
    obtain ⟨k, t, n, a⟩ := x
    obtain ⟨g1, g2, g3, _⟩ := hg
    simp only at g1 g2 g3 hd hxs hl SA
    subst g3
    have k1 : ¬ k < 1 := by omega
    have k4 : ¬ 4 < k := by omega
    have B1 : Below w.heap.size w (w.alloc (.cells #[.int .u8 k, .string xs, .int .u64 n, .int .i64 0] 27)) := (Below.refl _ _).alloc (Nat.le_refl _) _
    have hkk : (k == 2) = false ∨ ((k == 2) = true ∧ xs.toList.isEmpty = true) := by
      cases e : (k == 2)
      · exact .inl rfl
      · exact .inr ⟨rfl, hd (by simpa using e)⟩
    clear g1 g2 hd
    by_cases z0 : S.size = 0
    · have G := N1 (.inl (by omega))
      have z0i : ((S.size : Int) == 0) = true := beq_iff_eq.mpr (by omega)
      clear N1 NO hSd hSz hM hw hxs hl z0 hS
      rcases hkk with hk | ⟨hk, he⟩
      all_goals
        go_enter Tryd.func20, Tryd.ntmps20
        go_wp2_with (first | (go_at_call 21; refine (SA.out _).mono ?_; rintro e w2 ⟨rfl, hb2⟩; obtain ⟨pz2, B2⟩ := tk_mid hb2; have hT2 := hide (TT.out.later B2); clear hb2))
        go_ret
        exact ⟨by first | (rw [G.out]; rfl) | rw [G.out], B2⟩
    have z0i : ((S.size : Int) == 0) = false := beq_eq_false_iff_ne.mpr (by omega)
    by_cases z1 : 256 < S.size
    · have G := N1 (.inr (.inl (by omega)))
      have z1i : decide ((256 : Int) < (S.size : Int)) = true := decide_eq_true (by omega)
      clear N1 NO hSd hSz hM hw hxs hl z0 z1 hS
      rcases hkk with hk | ⟨hk, he⟩
      all_goals
        go_enter Tryd.func20, Tryd.ntmps20
        go_wp2_with (first | (go_at_call 21; refine (SA.out _).mono ?_; rintro e w2 ⟨rfl, hb2⟩; obtain ⟨pz2, B2⟩ := tk_mid hb2; have hT2 := hide (TT.out.later B2); clear hb2))
        go_ret
        exact ⟨by first | (rw [G.out]; rfl) | rw [G.out], B2⟩
    have z1i : decide ((256 : Int) < (S.size : Int)) = false := decide_eq_false (by omega)
    have hS0 : 0 < S.size := by omega
    have hS0i : (0 : Int) < (S.size : Int) := by omega
    have hcons := drop_next hS0
    rw [List.drop_zero, hSd] at hcons
    obtain ⟨c, hc⟩ : ∃ c, c = S[0]'hS0 := ⟨_, rfl⟩
    rw [← hc] at hcons
    have hsj : S[0]'hS0 = c := hc.symm
    have BC := hide (fun wx => blankC_any wx c)
    cases hbl : Lx.bl c
    case true =>
      have G := N1 (.inr (.inr ⟨c, _, hcons, hbl⟩))
      rw [hbl] at BC
      clear N1 NO hSd hSz hM hw hxs hl z0 z1 hcons hbl hc hS
      rcases hkk with hk | ⟨hk, he⟩
      all_goals
        go_enter Tryd.func20, Tryd.ntmps20
        go_wp2_with (first | (go_at_call 21; refine (SA.out _).mono ?_; rintro e w2 ⟨rfl, hb2⟩; obtain ⟨pz2, B2⟩ := tk_mid hb2; have hT2 := hide (TT.out.later B2); clear hb2) | (go_at_call 14; refine (BC.out _).mono ?_; rintro e w4 ⟨rfl, h4⟩; subst h4))
        go_ret
        exact ⟨by first | (rw [G.out]; rfl) | rw [G.out], by first | exact B2 | exact (by assumption)⟩
    case false =>
      rw [hbl] at BC
      have NX := hide (fun wx h => rnext_at wx S 0 hS0 (by omega) h)
      rw [List.drop_zero, hSd] at NX
      clear N1 hcons hbl hc
      rcases nx_cases (Lx.next (Lx.saidT ⟨k, t, n, 0⟩)) with ⟨y, m, hy⟩ | ⟨x2, hy⟩
      · rw [hy] at NX
        obtain ⟨yk, yt, yn, ya⟩ := y
        obtain ⟨ys, hys⟩ : ∃ ys : ByteArray, ys = ⟨yt.toArray⟩ := ⟨_, rfl⟩
        have F3 : Hid (∀ wx, Tab2 wx → Calls Tryd.prog 15 #[.string S, .int .i64 0] wx fun e w' => e = .returned (.tuple #[.agg #[.int .u8 yk, .string ys, .int .u64 yn, .int .i64 0], .int .i64 m, .int .i64 0]) ∧ Below wx.heap.size wx w') := fun wx h => (NX.out wx h).mono (by
          rintro e w' ⟨v, rfl, hr, hb⟩
          refine ⟨?_, hb⟩
          rw [show v = _ from hr, hys, Nat.zero_add]; rfl)
        have EQ := eql_tok yk ys yn 0 k xs n 0
        obtain ⟨Q, hQ⟩ : ∃ Q, Q = sameTk yk ys yn 0 k xs n 0 := ⟨_, rfl⟩
        rw [← hQ] at EQ
        have ya0 : ya = 0 := by have := Lx.may_at (Lx.next_may hy); exact this
        by_cases hm : m = S.size
        · have G : Hid (M = Q) := by
            show _ = _
            cases hq : Q
            · refine NO (fun m' hm' => ?_)
              rw [hy] at hm'
              obtain ⟨e1, e2⟩ := (Lx.Nx.tok.injEq _ _ _ _).mp hm'
              obtain ⟨rfl, rfl, rfl, _⟩ := (Lx.Tk.mk.injEq _ _ _ _ _ _ _ _).mp e1
              rw [hq, hys, hxs, same_tk_refl] at hQ
              cases hQ
            · rw [hq] at hQ
              obtain ⟨e1, e2, e3, _⟩ := same_tk hQ.symm
              have e4 : yt = t := by rw [hys, hxs, ByteArray.toList_eq, ByteArray.toList_eq] at e2; simpa using e2
              have e5 : yn = n := by omega
              rw [hM]
              have := Lx.next_may hy
              rw [e1, e4, e5, ya0] at this
              exact this
          have hmi : ((m : Int) == (S.size : Int)) = true := by simp; omega
          clear NO hSd hSz hM hw hxs hl z0 z1 hS NX hy hQ hys ya0 hm
          rcases hkk with hk | ⟨hk, he⟩
          all_goals
            go_enter Tryd.func20, Tryd.ntmps20
            go_wp2_with (first | (go_at_call 21; refine (SA.out _).mono ?_; rintro e w2 ⟨rfl, hb2⟩; obtain ⟨pz2, B2⟩ := tk_mid hb2; have hT2 := hide (TT.out.later B2); clear hb2) | (go_at_call 14; refine (BC.out _).mono ?_; rintro e w4 ⟨rfl, h4⟩; subst h4) | (go_at_call 15; refine (F3.out _ hT2.out).mono ?_; rintro e w3 ⟨rfl, hb3⟩; obtain ⟨pz3, B3⟩ := tk_more pz2 B2 (Nat.le_refl _) hb3; have B4 := B3.alloc B3.size (.cells #[.int .u8 yk, .string ys, .int .u64 yn, .int .i64 0] 27); obtain ⟨pz4, _⟩ := tk_more pz3 B3 (Nat.le_refl _) ((Below.refl w3.heap.size w3).alloc (Nat.le_refl _) (.cells #[.int .u8 yk, .string ys, .int .u64 yn, .int .i64 0] 27)); obtain ⟨y0, y1, y2, y3, u0, u1, u2, u3, ltw⟩ := slot4 pz4))
            go_ret
            exact ⟨by first | (rw [G.out]; rfl) | rw [G.out], B4⟩
        · have G := NO (fun m' hm' => .inl (by
            rw [hy] at hm'
            have e2 := ((Lx.Nx.tok.injEq _ _ _ _).mp hm').2
            omega))
          have hmi : ((m : Int) == (S.size : Int)) = false := by simp; omega
          clear NO hSd hSz hM hw hxs hl z0 z1 hS NX hy hQ hys ya0 hm EQ
          rcases hkk with hk | ⟨hk, he⟩
          all_goals
            go_enter Tryd.func20, Tryd.ntmps20
            go_wp2_with (first | (go_at_call 21; refine (SA.out _).mono ?_; rintro e w2 ⟨rfl, hb2⟩; obtain ⟨pz2, B2⟩ := tk_mid hb2; have hT2 := hide (TT.out.later B2); clear hb2) | (go_at_call 14; refine (BC.out _).mono ?_; rintro e w4 ⟨rfl, h4⟩; subst h4) | (go_at_call 15; refine (F3.out _ hT2.out).mono ?_; rintro e w3 ⟨rfl, hb3⟩; obtain ⟨pz3, B3⟩ := tk_more pz2 B2 (Nat.le_refl _) hb3; have B4 := B3.alloc B3.size (.cells #[.int .u8 yk, .string ys, .int .u64 yn, .int .i64 0] 27); obtain ⟨pz4, _⟩ := tk_more pz3 B3 (Nat.le_refl _) ((Below.refl w3.heap.size w3).alloc (Nat.le_refl _) (.cells #[.int .u8 yk, .string ys, .int .u64 yn, .int .i64 0] 27)); obtain ⟨y0, y1, y2, y3, u0, u1, u2, u3, ltw⟩ := slot4 pz4))
            go_ret
            exact ⟨by first | (rw [G.out]; rfl) | rw [G.out], B4⟩
      · have G := NO (fun m' hm' => by rw [hy] at hm'; cases hm')
        have hx0 : ¬ x2 = 0 := by have := Lx.next_err hy; omega
        rw [hy] at NX
        have F3 : Hid (∀ wx, Tab2 wx → Calls Tryd.prog 15 #[.string S, .int .i64 0] wx fun e w' => ∃ i : Int, e = .returned (.tuple #[.agg #[.int .u8 0, .string ⟨#[]⟩, .int .u64 0, .int .i64 0], .int .i64 i, .int .i64 x2]) ∧ Below wx.heap.size wx w') := fun wx h => (NX.out wx h).mono (by
          rintro e w' ⟨v, rfl, ⟨i, rfl⟩, hb⟩
          exact ⟨i, rfl, hb⟩)
        clear NO hSd hSz hM hw hxs hl z0 z1 hS NX hy
        rcases hkk with hk | ⟨hk, he⟩
        all_goals
          go_enter Tryd.func20, Tryd.ntmps20
          go_wp2_with (first | (go_at_call 21; refine (SA.out _).mono ?_; rintro e w2 ⟨rfl, hb2⟩; obtain ⟨pz2, B2⟩ := tk_mid hb2; have hT2 := hide (TT.out.later B2); clear hb2) | (go_at_call 14; refine (BC.out _).mono ?_; rintro e w4 ⟨rfl, h4⟩; subst h4) | (go_at_call 15; refine (F3.out _ hT2.out).mono ?_; rintro e w3 ⟨i, rfl, hb3⟩; obtain ⟨pz3, B3⟩ := tk_more pz2 B2 (Nat.le_refl _) hb3; have B4 := B3.alloc B3.size (.cells #[.int .u8 0, .string ⟨#[]⟩, .int .u64 0, .int .i64 0] 27); obtain ⟨pz4, _⟩ := tk_more pz3 B3 (Nat.le_refl _) ((Below.refl w3.heap.size w3).alloc (Nat.le_refl _) (.cells #[.int .u8 0, .string ⟨#[]⟩, .int .u64 0, .int .i64 0] 27)); obtain ⟨y0, y1, y2, y3, u0, u1, u2, u3, ltw⟩ := slot4 pz4))
          go_ret
          exact ⟨by first | (rw [G.out]; rfl) | rw [G.out], B4⟩
end Go.Proofs.YtjddhakaebkkeaaDoor
