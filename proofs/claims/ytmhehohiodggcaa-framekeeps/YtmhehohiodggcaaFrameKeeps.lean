/-
  Proved: for all records l, every place which, every place at and all bits the call FrameKeeps(l, which, at, bits) returns true and leaves its arguments as they were: altered bytes never make a record that was not written, where a burst was turned.
  Conditions: none beyond the form's own reach.
-/
import Derived.Test.YtmhehohiodggcaaKRecsArg
import Derived.Test.YtmhehohiodggcaaFLives
import Derived.Test.YtmhehohiodggcaaFScan
import Derived.Test.YtmhehohiodggcaaFRows
import Derived.Test.YtmhehohiodggcaaCPick
import Derived.Test.YtmhehohiodggcaaCBurst
import Derived.Test.YtmhehohiodggcaaKLent
import Derived.Test.YtmhehohiodggcaaKStep
namespace Go.Proofs.Ytmhehohiodggcaa.frameKeeps
open Go.ChangeShapes Go.WideShapes Go.ChangeAt Go.RowKit
open Go.Proofs.Ytmhehohiodggcaa

set_option maxHeartbeats 4000000 in
theorem walk_off (w : World) (v : Value) (rs : List (List UInt8)) (which at' : Int) (bits : Nat) (h : RecsAt w v rs) (hoff : smallB rs = false ∨ rs = [] ∨ bits = 0) :
    Calls Try.prog 8 #[v, .int .i64 which, .int .i64 at', .int .u32 (bits : Int)] w fun e w' => e = .returned (.bool true) ∧ Below w.heap.size w w' := by
  have SM : Hid (∀ wx, Below w.heap.size w wx → Calls Try.prog 25 #[v] wx fun e w' => e = .returned (.bool (smallB rs)) ∧ w' = wx) := fun wx hw => small_any wx v rs (h.later hw)
  obtain ⟨a, cap, rfl, g2, g3, -, -⟩ := h
  cases hs : smallB rs
  · rw [hs] at SM
    clear hs hoff
    go_enter Try.func8, Try.ntmps8
    go_wp2_with (first
      | (go_at_call 13; refine (lives_any _).mono ?_; rintro e w1 ⟨rfl, B1⟩)
      | (go_at_call 25; refine (SM.out _ B1).mono ?_; rintro e w2 ⟨rfl, rfl⟩))
    go_ret
    exact ⟨rfl, B1⟩
  · rw [hs] at SM
    by_cases h0 : rs = []
    · subst h0
      clear hs hoff
      go_enter Try.func8, Try.ntmps8
      go_wp2_with (first
        | (go_at_call 13; refine (lives_any _).mono ?_; rintro e w1 ⟨rfl, B1⟩)
        | (go_at_call 25; refine (SM.out _ B1).mono ?_; rintro e w2 ⟨rfl, rfl⟩))
      go_ret
      exact ⟨rfl, B1⟩
    · have hb : bits = 0 := by
        rcases hoff with e | e | e
        · rw [hs] at e; cases e
        · exact absurd e h0
        · exact e
      subst hb
      have i0 : ((rs.length : Int) == 0) = false := by have := List.length_pos_iff.mpr h0; simp; omega
      clear hs hoff
      go_enter Try.func8, Try.ntmps8
      go_wp2_with (first
        | (go_at_call 13; refine (lives_any _).mono ?_; rintro e w1 ⟨rfl, B1⟩)
        | (go_at_call 25; refine (SM.out _ B1).mono ?_; rintro e w2 ⟨rfl, rfl⟩))
      go_ret
      exact ⟨rfl, B1⟩

theorem frms_parts (rs : List (List UInt8)) (k : Nat) (hk : k < rs.length) : frms rs = frms (rs.take k) ++ (frm rs[k] ++ frms (rs.drop (k + 1))) := by
  have e : rs = rs.take k ++ (rs[k] :: rs.drop (k + 1)) := by rw [← List.drop_eq_getElem_cons hk, List.take_append_drop]
  have := congrArg frms e
  rw [frms_append, frms] at this
  exact this

set_option maxHeartbeats 4000000 in
theorem walk_on (w : World) (a : Option Addr) (cap : Nat) (rs : List (List UInt8)) (which at' : Int) (bits : Nat) (h : RecsAt w (.slice a rs.length cap) rs) (h1 : -9223372036854775808 ≤ which) (h2 : which ≤ 9223372036854775807) (ha : at' ≤ 9223372036854775807) (hbt : bits < 4294967296) (hs : smallB rs = true) (h0 : rs ≠ []) (hb0 : bits ≠ 0) (hcap : rs.length ≤ cap) (_hcap2 : cap ≤ 9223372036854775807) :
    Calls Try.prog 8 #[.slice a rs.length cap, .int .i64 which, .int .i64 at', .int .u32 (bits : Int)] w fun e w' => e = .returned (.bool true) ∧ Below w.heap.size w w' := by
  obtain ⟨s1, s2⟩ := smallB_all hs
  have hpos := List.length_pos_iff.mpr h0
  have SM : Hid (∀ wx, Below w.heap.size w wx → Calls Try.prog 25 #[.slice a rs.length cap] wx fun e w' => e = .returned (.bool true) ∧ w' = wx) := fun wx hw => by
    have := small_any wx _ rs (h.later hw)
    rwa [hs] at this
  obtain ⟨N, hN⟩ : ∃ N, N = (frms rs).length := ⟨_, rfl⟩
  have hN2 : N ≤ 412 * 40 := by have := frms_small rs s1; omega
  have RW : Hid (∀ wx, Below w.heap.size w wx → Calls Try.prog 26 #[.slice a rs.length cap] wx fun e w' => ∃ g c eg ec, e = .returned (.tuple #[.slice (some ⟨g, 0, none⟩) N c, .slice (some ⟨eg, 0, none⟩) rs.length ec, .bool true]) ∧ N ≤ c ∧ BytesIn w' (.slice (some ⟨g, 0, none⟩) N c) (frms rs) ∧ (∀ k, k < rs.length → w'.cell? ⟨eg, k, none⟩ = some (.int .i64 (((frms (rs.take (k + 1))).length : Nat) : Int))) ∧ Below wx.heap.size wx w') := fun wx hw => by
    refine (rows_any wx _ rs (h.later hw) hs).mono ?_
    rintro e w' ⟨ad, c, ve, rfl, o1, o2, b⟩
    have hin := bytes_of_own o1 (by rw [← hN]; omega)
    rcases o2.2 with ⟨_, e0⟩ | ⟨eg, ecp, cur, rfl, _⟩
    · omega
    · rcases o1.2 with ⟨_, e0⟩ | ⟨g, cp, cur', e1, _, _, hnc, _⟩
      · exfalso
        have := frms_parts rs 0 hpos
        rw [this, List.length_append, List.length_append, frm_length] at e0
        omega
      · simp only [Value.slice.injEq] at e1
        obtain ⟨rfl, -, rfl⟩ := e1
        rw [hN]
        refine ⟨g, c, eg, ecp, rfl, hnc, hin, fun k hk => ?_, b⟩
        rw [o2.cellAt k (by omega), endsV_get rs _ k hk]
  have PK : Hid (∀ wx, Calls Try.prog 23 #[.int .i64 which, .int .i64 (rs.length : Int)] wx fun e w' => ∃ k : Nat, k < rs.length ∧ e = .returned (.int .i64 (k : Int)) ∧ w' = wx) := fun wx => pick_any wx which rs.length hpos (by omega) h1 h2
  have HN : Hid (N = (frms rs).length) := hN
  have S3 : Hid (∀ r ∈ rs, r.length ≤ 400) := s1
  have H1 : Hid (RecsAt w (.slice a rs.length cap) rs) := h
  have i0 : ((rs.length : Int) == 0) = false := by simp; omega
  have i1 : ((bits : Int) == 0) = false := by simp; omega
  clear hs s1 hN h1 h2 h h0
  go_enter Try.func8, Try.ntmps8
  go_wp2_with (first
    | (go_at_call 13; refine (lives_any _).mono ?_; rintro e w1 ⟨rfl, B1⟩)
    | (go_at_call 25; refine (SM.out _ B1).mono ?_; rintro e w2 ⟨rfl, rfl⟩; clear SM)
    | (go_at_call 26; refine (RW.out _ B1).mono ?_; rintro e w3 ⟨g, c, eg, ec, rfl, hc3, V3, N3, b3⟩; have B3 := B1.trans (b3.mono B1.size); have O3 : Hid (BytesIn w3 (.slice (some ⟨g, 0, none⟩) N c) (frms rs)) := V3; have M3 : Hid (∀ k, k < rs.length → w3.cell? ⟨eg, k, none⟩ = some (.int .i64 (((frms (rs.take (k + 1))).length : Nat) : Int))) := N3; clear RW b3 V3 N3)
    | (go_at_call 23; refine (PK.out _).mono ?_; rintro e w4 ⟨k, hk, rfl, rfl⟩; clear PK))
  obtain ⟨la, loff, rd, rc, rfl, d0, u0⟩ := (H1.out.later B3).get k hk
  have d1 := M3.out k hk
  have hr4 := S3.out _ (List.getElem_mem hk)
  obtain ⟨m, hm⟩ : ∃ m, m = (rs[k]).length := ⟨_, rfl⟩
  obtain ⟨F, hF⟩ : ∃ F, F = (frms (rs.take k)).length := ⟨_, rfl⟩
  have hE : (frms (rs.take (k + 1))).length = F + m + 12 := by rw [frms_take_succ rs k hk, List.length_append, frm_length, hF, hm]; omega
  rw [← hm] at d0
  rw [hE, show ((F + m + 12 : Nat) : Int) = (F : Int) + (m : Int) + 12 from by omega] at d1
  rw [← hm] at hr4
  have hFN : F + m + 12 ≤ N := by
    rw [HN.out, frms_parts rs k hk, List.length_append, List.length_append, frm_length, ← hF, ← hm]
    omega
  have HM : Hid (m = (rs[k]).length) := hm
  have HF : Hid (F = (frms (rs.take k)).length) := hF
  clear hm hF hE M3
  have hki : (k : Int) < (rs.length : Int) := by omega
  go_quiet (fail)
  rw [show (F : Int) + (m : Int) + 12 - (m : Int) - 12 = (F : Int) from by omega]
  have b5 : Below w4.heap.size w4 (w4.drewN nq) := below_drewN (Below.refl _ _) _
  obtain ⟨w5, hw5⟩ : ∃ w5, w5 = w4.drewN nq := ⟨_, rfl⟩
  rw [← hw5] at b5 ⊢
  have e1 := keepC b5 d1
  have V5 := O3.out.later b5
  have B5 := B3.trans (b5.mono B3.size)
  clear hw5 d0 d1 O3 u0 b5
  obtain ⟨S, hS⟩ : ∃ S, S = frm rs[k] := ⟨_, rfl⟩
  have lS : S.length = m + 12 := by rw [hS, frm_length, HM.out]
  have VS : Hid (BytesIn w5 (.slice (some ⟨g, F, none⟩) (m + 12) (c - F)) S) := by
    have := V5.part F (m + 12) (by rw [← HN.out]; omega) (c - F)
    rw [Nat.zero_add] at this
    have e : ((frms rs).drop F).take (m + 12) = S := by
      rw [frms_parts rs k hk, List.drop_left' HF.out.symm, ← hS]
      exact List.take_left' lS
    rw [e] at this
    exact this
  cases hB : burB S at' bits
  · have BU : Hid (∀ n', n' = m + 12 → Calls Try.prog 27 #[.slice (some ⟨g, F, none⟩) n' (c - F), .int .i64 at', .int .u32 (bits : Int)] w5 fun e w' => ∃ v, e = .returned (.tuple #[v, .int .i64 2]) ∧ Below w5.heap.size w5 w') := fun n' hn' => by
      subst hn'
      have := burst_any w5 (some ⟨g, F, none⟩) (c - F) S at' bits (by rw [lS]; exact VS.out) ha hbt
      rw [lS] at this
      refine this.mono ?_
      rintro e w' ⟨v, rfl, hx⟩
      have e1 : burE S at' bits = 2 := by unfold burE; rw [hB]; rfl
      rw [e1]
      exact ⟨v, rfl, hx.below (Nat.le_refl _) (by simp [Value.ownBlock])⟩
    clear hS lS hB VS V5 HM HF HN S3 H1
    go_wp2_with (go_at_call 27; refine (BU.out _ (by omega)).mono ?_; rintro e w6 ⟨v6, rfl, b6⟩; have B6 := B5.trans (b6.mono B5.size); clear BU b6)
    go_ret
    exact ⟨rfl, B6⟩
  · have hat0 : 0 ≤ at' := by
      rcases Int.lt_or_le at' 0 with h | h
      · rw [burB_neg h] at hB; cases hB
      · exact h
    obtain ⟨p, rfl⟩ : ∃ p : Nat, at' = p := ⟨at'.toNat, by omega⟩
    obtain ⟨X, hX⟩ : ∃ X, X = Crc.burst S p bits 32 := ⟨_, rfl⟩
    have lX : X.length = m + 12 := by rw [hX, Crc.burst_length, lS]
    have e1' : burE S p bits = 0 := by unfold burE; rw [hB]; rfl
    have e2' : burL S p bits = X := by unfold burL; rw [hX, hB, Int.toNat_natCast]; rfl
    have BU : Hid (∀ n', n' = m + 12 → Calls Try.prog 27 #[.slice (some ⟨g, F, none⟩) n' (c - F), .int .i64 (p : Int), .int .u32 (bits : Int)] w5 fun e w' => ∃ g' c', e = .returned (.tuple #[.slice (some ⟨g', 0, none⟩) (m + 12) c', .int .i64 0]) ∧ Below w5.heap.size w5 w' ∧ BytesIn w' (.slice (some ⟨g', 0, none⟩) (m + 12) c') X) := fun n' hn' => by
      subst hn'
      have := burst_any w5 (some ⟨g, F, none⟩) (c - F) S p bits (by rw [lS]; exact VS.out) ha hbt
      rw [lS] at this
      refine this.mono ?_
      rintro e w' ⟨v, rfl, hx⟩
      rw [e1']
      rw [e2'] at hx
      obtain ⟨g', c', rfl⟩ := hx.some (by intro e; rw [e] at lX; simp at lX)
      have hin := bytes_of_own hx.own (by omega)
      rw [lX] at hin ⊢
      exact ⟨g', c', rfl, hx.below (Nat.le_refl _) (by simp [Value.ownBlock]), hin⟩
    have SX : Hid (scn (frms (rs.take k) ++ X ++ frms (rs.drop (k + 1))) = (rs.take k, F, 6)) := by
      show _ = _
      rw [List.append_assoc, HF.out]
      refine scn_altered (rs.take k) X _ (fun r hr => by have := S3.out r (List.mem_of_mem_take hr); omega) ?_
      rw [hX, hS]
      exact read_altered rs[k] _ p bits (by rw [← HM.out]; omega) hbt hb0 (by rw [← hS]; exact (burB_iff S p bits).mp hB)
    have LX : Hid (X.length = m + 12) := lX
    have V5' : Hid (BytesIn w5 (.slice (some ⟨g, 0, none⟩) N c) (frms rs)) := V5
    clear hS lS hB VS hX lX e1' e2' V5
    go_wp2_with (first
      | (go_at_call 27; refine (BU.out _ (by omega)).mono ?_; rintro e w6 ⟨g6, c6, rfl, b6, V6⟩; have B6 := B5.trans (b6.mono B5.size); have E6 := keepC b6 e1; clear BU))
    have W6 := V5'.out.later b6
    obtain ⟨E, hE⟩ : ∃ E, E = F + m + 12 := ⟨_, rfl⟩
    rw [show (F : Int) + (m : Int) + 12 = (E : Int) from by omega] at E6
    obtain ⟨P, hP⟩ : ∃ P, P = frms (rs.take k) := ⟨_, rfl⟩
    obtain ⟨T, hT⟩ : ∃ T, T = frms (rs.drop (k + 1)) := ⟨_, rfl⟩
    have lP : P.length = F := by rw [hP, HF.out]
    have hsum : N = F + (m + 12) + T.length := by rw [HN.out, frms_parts rs k hk, List.length_append, List.length_append, frm_length, ← HF.out, ← HM.out, hT]; omega
    have CP : Hid (∀ wx, Below w6.heap.size w6 wx → Calls Try.prog 28 #[.slice (some ⟨g, 0, none⟩) F c] wx fun e w' => ∃ g7 cap7, e = .returned (.slice (some ⟨g7, 0, none⟩) F cap7) ∧ Below w6.heap.size w6 w' ∧ w'.ownsRow w6.heap.size 5 1 (.slice (some ⟨g7, 0, none⟩) F cap7) F (bc P)) := fun wx hw => by
      have hcut := (W6.later hw).cut F (by rw [← HN.out]; omega) c
      have e : (frms rs).take F = P := by rw [frms_parts rs k hk, ← hP]; exact List.take_left' lP
      rw [e] at hcut
      have := copyBytes_any wx (some ⟨g, 0, none⟩) c P (by rw [lP]; exact hcut) (fun e => by cases e)
      rw [lP] at this
      refine this.mono ?_
      rintro e w' ⟨g7, cap7, rfl, hx⟩
      have ho := hx.own
      rw [lP] at ho
      exact ⟨g7, cap7, rfl, hw.trans ((hx.below (Nat.le_refl _) (by simp [Value.ownBlock])).mono hw.size), own_base ho hw.size⟩
    have TB : Hid (∀ wx, Below w6.heap.size w6 wx → ∀ c', BytesIn wx (.slice (some ⟨g, E, none⟩) (N - E) c') T) := fun wx hw c' => by
      have := (W6.later hw).part E (N - E) (by rw [← HN.out]; omega) c'
      rw [Nat.zero_add] at this
      have e : ((frms rs).drop E).take (N - E) = T := by
        rw [frms_parts rs k hk, ← List.append_assoc, List.drop_left' (by rw [List.length_append, frm_length, ← HF.out, ← HM.out, hE]; omega), ← hT]
        exact List.take_of_length_le (by omega)
      rw [e] at this
      exact this
    have SC : Hid (∀ wx g8 L c8, L = (P ++ X ++ T).length → wx.ownsRow w6.heap.size 5 1 (.slice (some ⟨g8, 0, none⟩) L c8) L (bc (P ++ X ++ T)) → Calls Try.prog 12 #[.slice (some ⟨g8, 0, none⟩) L c8] wx fun e w' => ∃ ma mc, e = .returned (.tuple #[.slice ma k mc, .int .i64 (F : Int), .int .i64 6]) ∧ Below wx.heap.size wx w' ∧ RecsAt w' (.slice ma k mc) (rs.take k)) := fun wx g8 L c8 hL ho => by
      have hll : (P ++ X ++ T).length ≤ 1000000000 := by rw [List.length_append, List.length_append, lP, LX.out]; omega
      have hcc := (own_cap ho).1
      subst hL
      refine (fscan_any wx (some ⟨g8, 0, none⟩) c8 (P ++ X ++ T) (bytes_of_own ho (by omega)) hcc hll).mono ?_
      rintro e w' ⟨u, us, rfl, hR, hb⟩
      rw [hP, hT, SX.out] at *
      obtain ⟨ma, mc, rfl, _, _⟩ := hR.shape
      have hat := hR.at
      have hlk : (rs.take k).length = k := by rw [List.length_take]; omega
      rw [hlk] at hat ⊢
      exact ⟨ma, mc, rfl, hb, hat⟩
    have SR : Hid (∀ wx u u', RecsAt wx u (rs.take k) → RecsAt wx u' (rs.take k) → Calls Try.prog 21 #[u, u'] wx fun e w' => e = .returned (.bool true) ∧ Below wx.heap.size wx w') := fun wx u u' x y => sameRecs_any wx u u' (rs.take k) x y (fun r hr => by have := S3.out r (List.mem_of_mem_take hr); omega)
    have HC : Hid (∀ wx, Below w6.heap.size w6 wx → RecsAt wx (.slice (some ⟨la, loff, none⟩) k cap) (rs.take k)) := fun wx hw => (H1.out.later (B6.trans (hw.mono B6.size))).cut k (by omega)
    have Y1 : Hid (P.length + X.length ≤ 140737488355328) := by show _ ≤ _; rw [lP, LX.out]; omega
    have Y2 : Hid ((P ++ X).length + T.length ≤ 140737488355328) := by show _ ≤ _; rw [List.length_append, lP, LX.out]; omega
    have LP : Hid (F = P.length) := lP.symm
    have LX2 : Hid (m + 12 = X.length) := LX.out.symm
    have LT : Hid (N - E = T.length) := by show _ = _; omega
    have V6' : Hid (∀ wx, Below w6.heap.size w6 wx → BytesIn wx (.slice (some ⟨g6, 0, none⟩) (m + 12) c6) X) := fun wx hw => V6.later hw
    clear hP hT lP hsum W6 V5' SX HN HF HM S3 H1 LX V6 e1 b6
    have k1 : (F : Int) ≤ (c : Int) := by omega
    have k3 : (E : Int) ≤ (N : Int) := by omega
    have k4 : (N : Int) ≤ (c : Int) := by omega
    clear hE
    have j1 : (k : Int) ≤ (cap : Int) := by omega
    by_cases hce : c = E
    · have hz : N = c := by omega
      have ht : T = [] := List.eq_nil_of_length_eq_zero (by rw [← LT.out]; omega)
      have T0 : Hid (0 = T.length) := by show _ = _; rw [ht]; rfl
      have TB2 : Hid (∀ wx ao c', BytesIn wx (.slice ao 0 c') T) := fun wx ao c' => by
        rw [ht]
        exact ⟨⟨ao, c', rfl, fun h => absurd rfl h⟩, by decide⟩
      clear TB ht LT
      have TB : Hid True := trivial
      subst hce
      subst hz
      go_region_held3 (fun w' => w'.cell? ⟨eg, k, none⟩ = some (.int .i64 (N : Int)))
        (first | exact keepC hbx E6 | (go_keep; done))
        (first
          | (go_at_call 28; (first | refine (CP.out _ (Below.refl _ _)).mono ?_ | refine (CP.out _ (Below.refl _ _).drew).mono ?_); rintro e w7 ⟨g7, cap7, rfl, hbx, O7⟩)
          | (refine step_app_bytes _ (by rfl) _ _ (by rfl) w6.heap.size g7 cap7 P X F (m + 12) c6 LP.out LX2.out (by rfl) O7 _ (by rfl) (V6'.out _ hbx) (fun e => by cases e) Y1.out hbx.size ?_; intro g8 cap8 L8 w8 HL8 x8; have hbx := hbx.trans (x8.below hbx.size (by intro q hq; exact (O7.lt q hq).1)); have O8 : w8.ownsRow w6.heap.size 5 1 (.slice (some ⟨g8, 0, none⟩) L8 cap8) L8 (bc (P ++ X)) := (by have := x8.own; rw [← HL8.out] at this; exact this); clear O7 x8)
          | (refine step_app_bytes _ (by rfl) _ _ (by rfl) w6.heap.size g8 cap8 (P ++ X) T L8 0 0 HL8.out T0.out (by rfl) O8 (some ⟨g, 0, none⟩) (by rfl) (TB2.out _ _ _) (fun e => by cases e) Y2.out hbx.size ?_; intro g9 cap9 L9 w9 HL9 x9; have hbx := hbx.trans (x9.below hbx.size (by intro q hq; exact (O8.lt q hq).1)); have O9 : w9.ownsRow w6.heap.size 5 1 (.slice (some ⟨g9, 0, none⟩) L9 cap9) L9 (bc (P ++ X ++ T)) := (by have := x9.own; rw [← HL9.out] at this; exact this); clear O8 x9))
      have B9 := B6.trans (hbx.mono B6.size)
      have RC := HC.out _ hbx
      have QS := SC.out _ _ _ _ HL9.out O9
      clear SC HC O9 CP TB V6'
      go_wp2_with (first
        | (go_at_call 12; refine QS.mono ?_; rintro e w10 ⟨ma, mc, rfl, b10, R10⟩; have C10 := RC.later b10; have B10 := B9.trans (b10.mono B9.size); clear QS RC b10)
        | (go_at_call 21; refine (SR.out _ _ _ R10 C10).mono ?_; rintro e w11 ⟨rfl, b11⟩; have B11 := B10.trans (b11.mono B10.size); clear R10 C10 b11 SR))
      go_ret
      exact ⟨rfl, B11⟩
    · go_region_held3 (fun w' => w'.cell? ⟨eg, k, none⟩ = some (.int .i64 (E : Int)))
        (first | exact keepC hbx E6 | (go_keep; done))
        (first
          | (go_at_call 28; (first | refine (CP.out _ (Below.refl _ _)).mono ?_ | refine (CP.out _ (Below.refl _ _).drew).mono ?_); rintro e w7 ⟨g7, cap7, rfl, hbx, O7⟩)
          | (refine step_app_bytes _ (by rfl) _ _ (by rfl) w6.heap.size g7 cap7 P X F (m + 12) c6 LP.out LX2.out (by rfl) O7 _ (by rfl) (V6'.out _ hbx) (fun e => by cases e) Y1.out hbx.size ?_; intro g8 cap8 L8 w8 HL8 x8; have hbx := hbx.trans (x8.below hbx.size (by intro q hq; exact (O7.lt q hq).1)); have O8 : w8.ownsRow w6.heap.size 5 1 (.slice (some ⟨g8, 0, none⟩) L8 cap8) L8 (bc (P ++ X)) := (by have := x8.own; rw [← HL8.out] at this; exact this); clear O7 x8)
          | (refine step_app_bytes _ (by rfl) _ _ (by rfl) w6.heap.size g8 cap8 (P ++ X) T L8 (N - E) _ HL8.out LT.out (by rfl) O8 _ (by rfl) (TB.out _ hbx _) (fun e => by cases e) Y2.out hbx.size ?_; intro g9 cap9 L9 w9 HL9 x9; have hbx := hbx.trans (x9.below hbx.size (by intro q hq; exact (O8.lt q hq).1)); have O9 : w9.ownsRow w6.heap.size 5 1 (.slice (some ⟨g9, 0, none⟩) L9 cap9) L9 (bc (P ++ X ++ T)) := (by have := x9.own; rw [← HL9.out] at this; exact this); clear O8 x9))
      have B9 := B6.trans (hbx.mono B6.size)
      have RC := HC.out _ hbx
      have QS := SC.out _ _ _ _ HL9.out O9
      clear SC HC O9 CP TB V6'
      go_wp2_with (first
        | (go_at_call 12; refine QS.mono ?_; rintro e w10 ⟨ma, mc, rfl, b10, R10⟩; have C10 := RC.later b10; have B10 := B9.trans (b10.mono B9.size); clear QS RC b10)
        | (go_at_call 21; refine (SR.out _ _ _ R10 C10).mono ?_; rintro e w11 ⟨rfl, b11⟩; have B11 := B10.trans (b11.mono B10.size); clear R10 C10 b11 SR))
      go_ret
      exact ⟨rfl, B11⟩

theorem walk (w : World) (v : Value) (rs : List (List UInt8)) (which at' : Int) (bits : Nat) (h : RecsAt w v rs) (h1 : -9223372036854775808 ≤ which) (h2 : which ≤ 9223372036854775807) (ha : at' ≤ 9223372036854775807) (hbt : bits < 4294967296) :
    Calls Try.prog 8 #[v, .int .i64 which, .int .i64 at', .int .u32 (bits : Int)] w fun e w' => e = .returned (.bool true) ∧ Below w.heap.size w w' := by
  by_cases hoff : smallB rs = false ∨ rs = [] ∨ bits = 0
  · exact walk_off w v rs which at' bits h hoff
  · have hs : smallB rs = true := by
      cases e : smallB rs
      · exact absurd (.inl e) hoff
      · rfl
    have h' := h
    obtain ⟨a, cap, rfl, g2, g3, -, -⟩ := h
    exact walk_on w a cap rs which at' bits h' h1 h2 ha hbt hs (fun e => hoff (.inr (.inl e))) (fun e => hoff (.inr (.inr e))) g2 g3

set_option maxRecDepth 100000 in
theorem lifted (os : Os) (started : os.Started) (H : Type) (enc : TypeId × Value → H) :
    ReturnsInHanded {} Try.checked os 8 .any (Rows.frameKeepsSpec.pre6 enc Try.prog Try.f8 Rows.frameKeepsRow.domain false) (Rows.frameKeepsSpec.post enc Try.prog Try.f8 false true false false) := by
  refine returnsInHanded_of_change_sized (C := Try.checked) own started (by kernel_rfl) Try.func8
    (ChangeSpec.witness6 (enc := enc) (C := Try.checked) false ⟨#[], #[.slice none 0 0, .int .i64 0, .int .i64 0, .int .u32 0], []⟩ 8 (by kernel_rfl) (by kernel_rfl) (by kernel_rfl) (by kernel_rfl)) ?_
  intro W base args ds gs before hval0 hW hcnd hsz0 _
  have hsz : (DataW.weightsEach Try.prog (Try.f8.params.toList ++ Rows.frameKeepsSpec.plain.varTypes Try.prog) (ds ++ gs)).all (· ≤ reachBytes) = true := hsz0
  have hval : ∀ (j : Nat) t v, Try.f8.params[j]? = some t → args[j]? = some v → Value.okWide Try.prog W .any base t v := hval0
  have hW' := hW
  obtain ⟨p, q, hA0, hV, rfl, hfz, hnd⟩ := hW
  have hA : DataW.TrodAll enc Try.prog W 0 (fun _ => true) true Try.f8.params.toList args.toList ds p := hA0
  rw [Try.params8] at hA hval hsz
  obtain ⟨v0, vs0, d0, ds0, p0, q0, hargs, rfl, rfl, h0, r0⟩ := trodAll_cons hA
  obtain ⟨v1, vs1, d1, ds1, p1, q1, rfl, rfl, rfl, h1, r1⟩ := trodAll_cons r0
  obtain ⟨v2, vs2, d2, ds2, p2, q2, rfl, rfl, rfl, h2, r2⟩ := trodAll_cons r1
  obtain ⟨v3, vs3, d3, ds3, p3, q3, rfl, rfl, rfl, h3, r3⟩ := trodAll_cons r2
  obtain ⟨rfl, rfl, rfl⟩ := trodAll_nil r3
  obtain rfl : args = #[v0, v1, v2, v3] := by cases args; simp_all
  obtain ⟨rfl, rfl⟩ := trodVars_none hV
  have k0 := h0
  have lt0 : ∀ x ∈ p0, x.block < W.heap.size := by obtain ⟨m, hm⟩ := k0; exact DataW.trod_lt m _ _ _ hm
  obtain ⟨a0, len0, cap0, rfl⟩ := okWide_slice Try.underlying29 (hval 0 29 v0 rfl rfl)
  obtain ⟨x1, rfl, rfl, rfl, w1⟩ := open_int Try.underlying3 (hval 1 3 v1 rfl rfl) h1
  have bx1 := bounds_i64 w1
  obtain ⟨x2, rfl, rfl, rfl, w2⟩ := open_int Try.underlying3 (hval 2 3 v2 rfl rfl) h2
  have bx2 := bounds_i64 w2
  obtain ⟨X3, rfl, rfl, rfl, w3⟩ := open_int Try.underlying47 (hval 3 47 v3 rfl rfl) h3
  have bx3 := bounds_u32 w3
  obtain ⟨x3, rfl⟩ : ∃ x : Nat, X3 = x := ⟨X3.toNat, by omega⟩
  obtain ⟨l0, rfl, hb0⟩ := recs_in h0
  clear hA0 hval0
  refine (walk W _ l0 x1 x2 x3 hb0 (by omega) (by omega) (by omega) (by omega)).mono fun e W' ⟨he, bel⟩ => ?_
  subst he
  exact ⟨_, rfl, _, _, _, [], _, [], hW', trodAll_mk1 (shut_bool Try.underlying4 _), (trodAll_cons_mk (Below.trod laidOut (by kernel_rfl) (of_decide_eq_true (by kernel_rfl)) k0 bel lt0) (trodAll_cons_mk (shut_int Try.underlying3 w1) (trodAll_cons_mk (shut_int Try.underlying3 w2) (trodAll_cons_mk (shut_int Try.underlying47 w3) trodAll_mk0)))), rfl, bel.frame _, fun h => by cases h⟩

theorem over : Rows.frameKeepsRow.holds Try.pinned (OpenSpec.ofChange Rows.frameKeepsSpec) :=
  OpenClaim.holds_of_wide 8 Try.f8 rfl rfl rfl rfl rfl rfl rfl ⟨rfl, rfl, rfl, rfl, rfl⟩ rfl rfl rfl rfl rfl (by kernel_rfl) Try.func8 (by kernel_rfl)
    (of_decide_eq_true (by kernel_rfl)) (by unfold Func.isWrapper; first | (rw [if_pos (by decide +kernel)]; kernel_rfl) | (rw [if_neg (by decide +kernel)]; exact ⟨rfl, rfl⟩))
    (fun os started H enc _ => lifted os started H enc)
end Go.Proofs.Ytmhehohiodggcaa.frameKeeps

namespace Go.Proofs.Ytmhehohiodggcaa
/-- THE STATEMENT. -/
theorem frameKeeps_holds : Rows.FrameKeepsSaid := frameKeeps.over
#print axioms frameKeeps_holds
end Go.Proofs.Ytmhehohiodggcaa
