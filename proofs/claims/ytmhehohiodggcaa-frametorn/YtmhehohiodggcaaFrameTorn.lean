/-
  Proved: for all records l and every place cut the call FrameTorn(l, cut) returns true and leaves its arguments as they were: a torn end harms nothing ahead of it, and is never taken for altered bytes.
  Conditions: none beyond the form's own reach.
-/
import Derived.Test.YtmhehohiodggcaaKRecsArg
import Derived.Test.YtmhehohiodggcaaFLives
import Derived.Test.YtmhehohiodggcaaFScan
import Derived.Test.YtmhehohiodggcaaFRows
import Derived.Test.YtmhehohiodggcaaCPick
namespace Go.Proofs.Ytmhehohiodggcaa.frameTorn
open Go.ChangeShapes Go.WideShapes Go.ChangeAt Go.RowKit
open Go.Proofs.Ytmhehohiodggcaa

theorem frms_take_le (rs : List (List UInt8)) (n : Nat) : (frms (rs.take n)).length ≤ (frms rs).length := by
  have e : frms rs = frms (rs.take n) ++ frms (rs.drop n) := by rw [← frms_append, List.take_append_drop]
  rw [e, List.length_append]
  omega

set_option maxHeartbeats 4000000 in
theorem walk (w : World) (v : Value) (rs : List (List UInt8)) (cut : Int) (h : RecsAt w v rs) (h1 : -9223372036854775808 ≤ cut) (h2 : cut ≤ 9223372036854775807) :
    Calls Try.prog 6 #[v, .int .i64 cut] w fun e w' => e = .returned (.bool true) ∧ Below w.heap.size w w' := by
  have SM : Hid (∀ wx, Below w.heap.size w wx → Calls Try.prog 25 #[v] wx fun e w' => e = .returned (.bool (smallB rs)) ∧ w' = wx) := fun wx hw => small_any wx v rs (h.later hw)
  have H1 : Hid (RecsAt w v rs) := h
  obtain ⟨a, cap, rfl, g2, g3, -, -⟩ := h
  cases hs : smallB rs
  · rw [hs] at SM
    clear hs H1
    go_enter Try.func6, Try.ntmps6
    go_wp2_with (first
      | (go_at_call 13; refine (lives_any _).mono ?_; rintro e w1 ⟨rfl, B1⟩)
      | (go_at_call 25; refine (SM.out _ B1).mono ?_; rintro e w2 ⟨rfl, rfl⟩))
    go_ret
    exact ⟨rfl, B1⟩
  · rw [hs] at SM
    obtain ⟨s1, s2⟩ := smallB_all hs
    obtain ⟨N, hN⟩ : ∃ N, N = (frms rs).length := ⟨_, rfl⟩
    have hN2 : N ≤ 412 * 40 := by have := frms_small rs s1; omega
    have s3 : ∀ r ∈ rs, r.length ≤ 1048576 := fun r hr => by have := s1 r hr; omega
    have RW : Hid (∀ wx, Below w.heap.size w wx → Calls Try.prog 26 #[.slice a rs.length cap] wx fun e w' => ∃ ad c ea en ec, e = .returned (.tuple #[.slice ad N c, .slice ea en ec, .bool true]) ∧ w'.ownsRow wx.heap.size 5 1 (.slice ad N c) N (bc (frms rs)) ∧ w'.ownsRow wx.heap.size 3 1 (.slice ea en ec) rs.length (endsV rs rs.length) ∧ Below wx.heap.size wx w') := fun wx hw => by
      rw [hN]
      refine (rows_any wx _ rs (H1.out.later hw) hs).mono ?_
      rintro e w' ⟨ad, c, ve, rfl, o1, o2, b⟩
      have : ∃ ea en ec, ve = .slice ea en ec := by
        rcases o2.2 with ⟨rfl, _⟩ | ⟨g, cap, cur, rfl, _⟩
        · exact ⟨_, _, _, rfl⟩
        · exact ⟨_, _, _, rfl⟩
      obtain ⟨ea, en, ec, rfl⟩ := this
      exact ⟨ad, c, ea, en, ec, rfl, o1, o2, b⟩
    have PK : Hid (∀ wx, Calls Try.prog 23 #[.int .i64 cut, .int .i64 ((N : Int) + 1)] wx fun e w' => ∃ k : Nat, k < N + 1 ∧ e = .returned (.int .i64 (k : Int)) ∧ w' = wx) := fun wx => by
      have := pick_any wx cut (N + 1) (by omega) (by omega) h1 h2
      rwa [show ((N + 1 : Nat) : Int) = (N : Int) + 1 from by omega] at this
    have HN : Hid (N = (frms rs).length) := hN
    have S3 : Hid (∀ r ∈ rs, r.length ≤ 1048576) := s3
    clear hs s1 s3 hN h1 h2
    go_enter Try.func6, Try.ntmps6
    go_wp2_with (first
      | (go_at_call 13; refine (lives_any _).mono ?_; rintro e w1 ⟨rfl, B1⟩)
      | (go_at_call 25; refine (SM.out _ B1).mono ?_; rintro e w2 ⟨rfl, rfl⟩; clear SM)
      | (go_at_call 26; refine (RW.out _ B1).mono ?_; rintro e w3 ⟨ad, c, ea, en, ec, rfl, o3, n3, b3⟩; have B3 := B1.trans (b3.mono B1.size); have O3 : Hid (w3.ownsRow w2.heap.size 5 1 (.slice ad N c) N (bc (frms rs))) := o3; have N3 : Hid (w3.ownsRow w2.heap.size 3 1 (.slice ea en ec) rs.length (endsV rs rs.length)) := n3; clear RW b3 o3 n3)
      | (go_at_call 23; refine (PK.out _).mono ?_; rintro e w4 ⟨k, hk, rfl, rfl⟩; clear PK))
    have hcap : N ≤ c := by
      obtain ⟨ad', c', e1, hc1, _⟩ := RecAt.of_own (r := frms rs) (by rw [← HN.out]; exact O3.out)
      simp only [Value.slice.injEq] at e1
      obtain ⟨-, -, rfl⟩ := e1
      rw [HN.out]
      exact hc1
    have KB : Hid (BytesIn w4 (.slice ad N c) (frms rs)) := bytes_of_own (l := frms rs) (by rw [← HN.out]; exact O3.out) (by rw [← HN.out]; omega)
    have C1 : Hid (∀ n G E, scn ((frms rs).take k) = (rs.take n, G, E) → n ≤ rs.length → ∀ wx, Below w4.heap.size w4 wx → Calls Try.prog 12 #[.slice ad k c] wx fun e w' => ∃ ma mc, e = .returned (.tuple #[.slice ma n mc, .int .i64 (G : Int), .int .i64 E]) ∧ Below wx.heap.size wx w' ∧ RecsAt w' (.slice ma n mc) (rs.take n)) := fun n G E hE hn wx hw => by
      have hlk : ((frms rs).take k).length = k := by rw [List.length_take, ← HN.out]; omega
      have hln : (rs.take n).length = n := by rw [List.length_take]; omega
      have := fscan_any wx ad c ((frms rs).take k) (by rw [hlk]; exact (KB.out.later hw).cut k (by rw [← HN.out]; omega) c) (by omega) (by omega)
      rw [hlk] at this
      refine this.mono ?_
      rintro e w' ⟨u, us, rfl, hR, hb⟩
      rw [hE] at hR ⊢
      obtain ⟨ma, mc, rfl, _, _⟩ := hR.shape
      have hat := hR.at
      rw [hln] at hat ⊢
      exact ⟨ma, mc, rfl, hb, hat⟩
    have C2 : Hid (∀ wx, Below w4.heap.size w4 wx → Calls Try.prog 12 #[.slice ad N c] wx fun e w' => ∃ ma mc, e = .returned (.tuple #[.slice ma rs.length mc, .int .i64 (N : Int), .int .i64 0]) ∧ Below wx.heap.size wx w' ∧ RecsAt w' (.slice ma rs.length mc) rs) := fun wx hw => by
      have := fscan_any wx ad c (frms rs) (by rw [← HN.out]; exact KB.out.later hw) (by rw [← HN.out]; omega) (by rw [← HN.out]; omega)
      rw [← HN.out] at this
      refine this.mono ?_
      rintro e w' ⟨u, us, rfl, hR, hb⟩
      rw [scn_all rs S3.out, ← HN.out] at *
      obtain ⟨ma, mc, rfl, _, _⟩ := hR.shape
      exact ⟨ma, mc, rfl, hb, hR.at⟩
    have SR : Hid (∀ (ms : List (List UInt8)) wx u u', RecsAt wx u ms → RecsAt wx u' ms → (∀ r ∈ ms, r.length ≤ 140737488355328) → Calls Try.prog 21 #[u, u'] wx fun e w' => e = .returned (.bool true) ∧ Below wx.heap.size wx w') := fun ms wx u u' x y z => sameRecs_any wx u u' ms x y z
    have HL : Hid (∀ wx, Below w4.heap.size w4 wx → RecsAt wx (.slice a rs.length cap) rs) := fun wx hw => H1.out.later (B3.trans (hw.mono B3.size))
    clear H1 KB O3
    go_loopw [9, 10] (fun x y wr => ∃ (n G : Nat), n ≤ rs.length ∧ x = .int .i64 n ∧ y = .int .i64 G ∧ Hid (G = (frms (rs.take n)).length) ∧ G ≤ k ∧ wr = w4) (fun x _ _ => rs.length - (intOf x).toNat)
    case atStart => exact ⟨0, 0, Nat.zero_le _, rfl, rfl, rfl, Nat.zero_le _, rfl⟩
    case round =>
      obtain ⟨n, G, hn, rfl, rfl, HG, hGk, rfl⟩ := hrel
      have hnn : ∀ hlt : n < rs.length, (frms (rs.take (n + 1))).length = G + (rs[n]).length + 12 := fun hlt => by rw [frms_take_succ rs n hlt, List.length_append, frm_length, HG.out]; omega
      by_cases hgo : n < rs.length ∧ (frms (rs.take (n + 1))).length ≤ k
      · obtain ⟨hlt, hle⟩ := hgo
        have hlti : (n : Int) < (rs.length : Int) := by omega
        obtain ⟨X, hX⟩ : ∃ X, X = (frms (rs.take (n + 1))).length := ⟨_, rfl⟩
        have hc0 : ∃ eg, ea = some ⟨eg, 0, none⟩ ∧ en = rs.length ∧ wr.cell? ⟨eg, n, none⟩ = some (.int .i64 (X : Int)) := by
          rcases N3.out.2 with ⟨_, h0⟩ | ⟨eg, ecp, cur, e1, _⟩
          · omega
          · simp only [Value.slice.injEq] at e1
            obtain ⟨rfl, rfl, rfl⟩ := e1
            refine ⟨eg, rfl, rfl, ?_⟩
            rw [N3.out.cellAt n (by omega), endsV_get rs _ n hlt, hX]
        obtain ⟨eg, rfl, rfl, d0⟩ := hc0
        rw [← hX] at hle
        have i2 : (X : Int) ≤ (k : Int) := by omega
        have HX : Hid (X = (frms (rs.take (n + 1))).length) := hX
        clear hX hnn HG
        go_wp2_with (fail)
        exact ⟨⟨n + 1, X, by omega, by go_num, rfl, HX, hle, trivial⟩, by simp [intOf]; omega⟩
      · have HE : Hid (scn ((frms rs).take k) = (rs.take n, G, if G = k then 0 else 4)) := by
          have := scn_torn rs S3.out k n hn (by rw [← HG.out]; exact hGk) (by rw [← HN.out]; omega) (fun hlt => by
            have h1 := hnn hlt
            have h2 : ¬ (frms (rs.take (n + 1))).length ≤ k := fun e => hgo ⟨hlt, e⟩
            rw [← HG.out]
            omega)
          rw [← HG.out] at this
          exact this
        have T1 : Hid (∀ r ∈ rs.take n, r.length ≤ 140737488355328) := fun r hr => by have := S3.out r (List.mem_of_mem_take hr); omega
        have T2 : Hid (∀ r ∈ rs, r.length ≤ 140737488355328) := fun r hr => by have := S3.out r hr; omega
        have HC : Hid (∀ wx, Below wr.heap.size wr wx → RecsAt wx (.slice a n cap) (rs.take n)) := fun wx hw => (HL.out wx hw).cut n hn
        have j1 : (n : Int) ≤ (cap : Int) := by omega
        have j2 : (k : Int) ≤ (c : Int) := by omega
        have hcond : ¬ n < rs.length ∨ ∃ eg X : Nat, n < rs.length ∧ ea = some ⟨eg, 0, none⟩ ∧ en = rs.length ∧ wr.cell? ⟨eg, n, none⟩ = some (.int .i64 (X : Int)) ∧ k < X := by
          by_cases hlt : n < rs.length
          · right
            rcases N3.out.2 with ⟨_, h0⟩ | ⟨eg, ecp, cur, e1, _⟩
            · omega
            · simp only [Value.slice.injEq] at e1
              obtain ⟨rfl, rfl, rfl⟩ := e1
              refine ⟨eg, _, hlt, rfl, rfl, by rw [N3.out.cellAt n (by omega), endsV_get rs _ n hlt], ?_⟩
              have h2 : ¬ (frms (rs.take (n + 1))).length ≤ k := fun e => hgo ⟨hlt, e⟩
              omega
          · exact .inl hlt
        clear hgo hnn HG N3 S3 HN
        rcases Nat.eq_or_lt_of_le hGk with hg | hg
        · have D1 : Hid (∀ wx, Below wr.heap.size wr wx → Calls Try.prog 12 #[.slice ad k c] wx fun e w' => ∃ ma mc, e = .returned (.tuple #[.slice ma n mc, .int .i64 (G : Int), .int .i64 0]) ∧ Below wx.heap.size wx w' ∧ RecsAt w' (.slice ma n mc) (rs.take n)) := C1.out n G 0 (by rw [HE.out, if_pos hg]) hn
          clear C1 HE
          rcases hcond with hx | ⟨eg, X, hx, rfl, rfl, d0, hX⟩
          all_goals
            go_wp2_with (first
              | (go_at_call 12; have tok := D1; refine (D1.out _ (Below.refl _ _)).mono ?_; rintro e w5 ⟨ma, mc, rfl, b5, R5⟩; have L5 := HC.out _ b5; clear tok D1 HC)
              | (go_at_call 12; refine (C2.out _ b5).mono ?_; rintro e w6 ⟨na, nc, rfl, b6, R6⟩; have M5 := R5.later b6; have L6 := L5.later b6; have K6 := b5.trans (b6.mono b5.size); have LL := HL.out _ K6; clear C2 R5 L5 b5 b6)
              | (go_at_call 21; have tok := M5; refine (SR.out _ _ _ _ M5 L6 T1.out).mono ?_; rintro e w7 ⟨rfl, b7⟩; have R7 := R6.later b7; have LM := LL.later b7; have K7 := K6.trans (b7.mono K6.size); clear tok M5 L6 R6 LL)
              | (go_at_call 21; refine (SR.out _ _ _ _ R7 LM T2.out).mono ?_; rintro e w8 ⟨rfl, b8⟩; have K8 := K7.trans (b8.mono K7.size)))
            go_ret
            exact ⟨rfl, B3.trans (K8.mono B3.size)⟩
        · have D1 : Hid (∀ wx, Below wr.heap.size wr wx → Calls Try.prog 12 #[.slice ad k c] wx fun e w' => ∃ ma mc, e = .returned (.tuple #[.slice ma n mc, .int .i64 (G : Int), .int .i64 4]) ∧ Below wx.heap.size wx w' ∧ RecsAt w' (.slice ma n mc) (rs.take n)) := C1.out n G 4 (by rw [HE.out, if_neg (by omega)]) hn
          have q1 : ((G : Int) == (k : Int)) = false := by simp; omega
          have q2 : ((G : Int) != (k : Int)) = true := by simp; omega
          clear C1 HE
          rcases hcond with hx | ⟨eg, X, hx, rfl, rfl, d0, hX⟩
          all_goals
            go_wp2_with (first
              | (go_at_call 12; have tok := D1; refine (D1.out _ (Below.refl _ _)).mono ?_; rintro e w5 ⟨ma, mc, rfl, b5, R5⟩; have L5 := HC.out _ b5; clear tok D1 HC)
              | (go_at_call 12; refine (C2.out _ b5).mono ?_; rintro e w6 ⟨na, nc, rfl, b6, R6⟩; have M5 := R5.later b6; have L6 := L5.later b6; have K6 := b5.trans (b6.mono b5.size); have LL := HL.out _ K6; clear C2 R5 L5 b5 b6)
              | (go_at_call 21; have tok := M5; refine (SR.out _ _ _ _ M5 L6 T1.out).mono ?_; rintro e w7 ⟨rfl, b7⟩; have R7 := R6.later b7; have LM := LL.later b7; have K7 := K6.trans (b7.mono K6.size); clear tok M5 L6 R6 LL)
              | (go_at_call 21; refine (SR.out _ _ _ _ R7 LM T2.out).mono ?_; rintro e w8 ⟨rfl, b8⟩; have K8 := K7.trans (b8.mono K7.size)))
            go_ret
            exact ⟨rfl, B3.trans (K8.mono B3.size)⟩
set_option maxRecDepth 100000 in
theorem lifted (os : Os) (started : os.Started) (H : Type) (enc : TypeId × Value → H) :
    ReturnsInHanded {} Try.checked os 6 .any (Rows.frameTornSpec.pre6 enc Try.prog Try.f6 Rows.frameTornRow.domain false) (Rows.frameTornSpec.post enc Try.prog Try.f6 false true false false) := by
  refine returnsInHanded_of_change_sized (C := Try.checked) own started (by kernel_rfl) Try.func6
    (ChangeSpec.witness6 (enc := enc) (C := Try.checked) false ⟨#[], #[.slice none 0 0, .int .i64 0], []⟩ 8 (by kernel_rfl) (by kernel_rfl) (by kernel_rfl) (by kernel_rfl)) ?_
  intro W base args ds gs before hval0 hW hcnd hsz0 _
  have hsz : (DataW.weightsEach Try.prog (Try.f6.params.toList ++ Rows.frameTornSpec.plain.varTypes Try.prog) (ds ++ gs)).all (· ≤ reachBytes) = true := hsz0
  have hval : ∀ (j : Nat) t v, Try.f6.params[j]? = some t → args[j]? = some v → Value.okWide Try.prog W .any base t v := hval0
  have hW' := hW
  obtain ⟨p, q, hA0, hV, rfl, hfz, hnd⟩ := hW
  have hA : DataW.TrodAll enc Try.prog W 0 (fun _ => true) true Try.f6.params.toList args.toList ds p := hA0
  rw [Try.params6] at hA hval hsz
  obtain ⟨v0, vs0, d0, ds0, p0, q0, hargs, rfl, rfl, h0, r0⟩ := trodAll_cons hA
  obtain ⟨v1, vs1, d1, ds1, p1, q1, rfl, rfl, rfl, h1, r1⟩ := trodAll_cons r0
  obtain ⟨rfl, rfl, rfl⟩ := trodAll_nil r1
  obtain rfl : args = #[v0, v1] := by cases args; simp_all
  obtain ⟨rfl, rfl⟩ := trodVars_none hV
  have k0 := h0
  have lt0 : ∀ x ∈ p0, x.block < W.heap.size := by obtain ⟨m, hm⟩ := k0; exact DataW.trod_lt m _ _ _ hm
  obtain ⟨a0, len0, cap0, rfl⟩ := okWide_slice Try.underlying29 (hval 0 29 v0 rfl rfl)
  obtain ⟨x1, rfl, rfl, rfl, w1⟩ := open_int Try.underlying3 (hval 1 3 v1 rfl rfl) h1
  have bx1 := bounds_i64 w1
  obtain ⟨l0, rfl, hb0⟩ := recs_in h0
  clear hA0 hval0
  refine (walk W _ l0 x1 hb0 (by omega) (by omega)).mono fun e W' ⟨he, bel⟩ => ?_
  subst he
  exact ⟨_, rfl, _, _, _, [], _, [], hW', trodAll_mk1 (shut_bool Try.underlying4 _), (trodAll_cons_mk (Below.trod laidOut (by kernel_rfl) (of_decide_eq_true (by kernel_rfl)) k0 bel lt0) (trodAll_cons_mk (shut_int Try.underlying3 w1) trodAll_mk0)), rfl, bel.frame _, fun h => by cases h⟩

theorem over : Rows.frameTornRow.holds Try.pinned (OpenSpec.ofChange Rows.frameTornSpec) :=
  OpenClaim.holds_of_wide 6 Try.f6 rfl rfl rfl rfl rfl rfl rfl ⟨rfl, rfl, rfl, rfl, rfl⟩ rfl rfl rfl rfl rfl (by kernel_rfl) Try.func6 (by kernel_rfl)
    (of_decide_eq_true (by kernel_rfl)) (by unfold Func.isWrapper; first | (rw [if_pos (by decide +kernel)]; kernel_rfl) | (rw [if_neg (by decide +kernel)]; exact ⟨rfl, rfl⟩))
    (fun os started H enc _ => lifted os started H enc)
end Go.Proofs.Ytmhehohiodggcaa.frameTorn

namespace Go.Proofs.Ytmhehohiodggcaa
/-- THE STATEMENT. -/
theorem frameTorn_holds : Rows.FrameTornSaid := frameTorn.over
#print axioms frameTorn_holds
end Go.Proofs.Ytmhehohiodggcaa
