/-
  Texts are cut into tokens, and tokens told, as the document says: the law's walk.
-/
import Derived.Test.YtjddhakaebkkeaaDoorLyK
import Derived.Test.YtjddhakaebkkeaaDoorLxPB
namespace Go.Proofs.YtjddhakaebkkeaaDoor
open Go.RowKit
attribute [local go_sem ↓] Go.wp_at_zero Go.wp_at_succ

theorem rlex_long (w : World) (s : ByteArray) (hs : 65536 < s.size) : Calls Tryd.prog 6 #[.string s] w fun e w' => e = .returned (.tuple #[.slice none 0 0, .agg #[.int .i64 3, .int .i64 (-1)]]) ∧ Below w.heap.size w w' := by
  have hsi : (s.size : Int) > 65536 := by omega
  go_enter Tryd.func6, Tryd.ntmps6
  go_wp2
  exact bodyPost_ret (v := .tuple #[.slice none 0 0, .agg #[.int .i64 3, .int .i64 (-1)]]) (by simp [results, Tryd.results6, go_sem]; try rfl) rfl ⟨rfl, (Below.refl _ _).alloc (Nat.le_refl _) _⟩
theorem nil_tks (w : World) : TksIn w (.slice none 0 0) [] := ⟨⟨none, 0, rfl, fun _ => rfl, fun h => absurd rfl h⟩, by simp⟩
/-- Of any text both Lexes tell the same. -/
theorem lex_both (s : ByteArray) : ∃ (q : List Lx.Tk) (x p : Int), q.length ≤ 1000000 ∧
    (∀ w, Tab2 w → Calls Tryd.prog 5 #[.string s] w fun e w' => ∃ v, e = .returned (.tuple #[v, .agg #[.int .i64 x, .int .i64 p]]) ∧ TksIn w' v q ∧ Below w.heap.size w w') ∧
    (∀ w, Tab2 w → Calls Tryd.prog 6 #[.string s] w fun e w' => ∃ v, e = .returned (.tuple #[v, .agg #[.int .i64 x, .int .i64 p]]) ∧ TksIn w' v q ∧ Below w.heap.size w w') := by
  by_cases hs : s.size ≤ 65536
  · cases hq : Lx.lexA s.data.toList 0 with
    | ok q =>
      have hg := gs_wf s.data.toList (by rw [l_size]; exact hs) q 0 (lex_gs hq)
      have hw : ∀ x ∈ q, Twf x := fun x hx => (hg.1 x hx).1
      have fin : ∀ (w w' : World) (e : Ending) (v : Value), lexV w s.data.toList v e w' → Below w.heap.size w w' → ∃ v, e = .returned (.tuple #[v, .agg #[.int .i64 0, .int .i64 0]]) ∧ TksIn w' v q ∧ Below w.heap.size w w' := fun w w' e v hv hb => by
        unfold lexV at hv
        rw [hq] at hv
        exact ⟨v, hv.1, TksIn.own hv.2 hw, hb⟩
      exact ⟨q, 0, 0, by have := hg.2; rw [l_size] at this; omega, fun w h => (lex_any w s hs h).mono (by rintro e w' ⟨v, hv, hb⟩; exact fin w w' e v hv hb), fun w h => (rlex_any w s hs h).mono (by rintro e w' ⟨v, hv, hb⟩; exact fin w w' e v hv hb)⟩
    | error y =>
      obtain ⟨x, p⟩ := y
      have fin : ∀ (w w' : World) (e : Ending) (v : Value), lexV w s.data.toList v e w' → Below w.heap.size w w' → ∃ v, e = .returned (.tuple #[v, .agg #[.int .i64 x, .int .i64 p]]) ∧ TksIn w' v [] ∧ Below w.heap.size w w' := fun w w' e v hv hb => by
        unfold lexV at hv
        rw [hq] at hv
        exact ⟨_, hv, nil_tks _, hb⟩
      exact ⟨[], x, p, by simp, fun w h => (lex_any w s hs h).mono (by rintro e w' ⟨v, hv, hb⟩; exact fin w w' e v hv hb), fun w h => (rlex_any w s hs h).mono (by rintro e w' ⟨v, hv, hb⟩; exact fin w w' e v hv hb)⟩
  · exact ⟨[], 3, -1, by simp, fun w _ => (lex_long w s (by omega)).mono (by rintro e w' ⟨rfl, hb⟩; exact ⟨_, rfl, nil_tks _, hb⟩), fun w _ => (rlex_long w s (by omega)).mono (by rintro e w' ⟨rfl, hb⟩; exact ⟨_, rfl, nil_tks _, hb⟩)⟩
theorem eql_flt (a b : Int) (W : World) : (binOp .eql 30 (.agg #[.int .i64 a, .int .i64 b]) (.agg #[.int .i64 a, .int .i64 b])).run Tryd.prog W = .ok (.bool true) W := by
  have hu : Tryd.prog.underlying 30 = some (.struct (Tryd.prog.fieldsOf 30)) := by kernel_rfl
  have hp : Tryd.prog.stoodInHeld 30 = false := by kernel_rfl
  rw [run_eql_struct, run_equalIn_agg _ _ _ _ _ hu hp]
  clear hu hp
  go_simp
/-- Two cells of a block that was laid behind a world. -/
theorem pair_at {w w2 : World} {x y : Value} {t : TypeId} (hb : Below (w.alloc (.cells #[x, y] t)).heap.size (w.alloc (.cells #[x, y] t)) w2) : w2.cell? ⟨w.heap.size, 0, none⟩ = some x ∧ w2.cell? ⟨w.heap.size, 1, none⟩ = some y ∧ w.heap.size < w2.heap.size := by
  obtain ⟨p, _⟩ := mid_any (w := w) (w2 := w2) (by simpa using hb)
  obtain ⟨a, b, _, _, c⟩ := slot2 p
  exact ⟨a, b, c⟩
/-- They stay. -/
theorem pair_on {w w2 : World} {b : Nat} {x y : Value} (h : w.cell? ⟨b, 0, none⟩ = some x ∧ w.cell? ⟨b, 1, none⟩ = some y ∧ b < w.heap.size) (hb : Below w.heap.size w w2) : w2.cell? ⟨b, 0, none⟩ = some x ∧ w2.cell? ⟨b, 1, none⟩ = some y ∧ b < w2.heap.size :=
  ⟨(hb.cell (p := ⟨b, 0, none⟩) h.2.2).trans h.1, (hb.cell (p := ⟨b, 1, none⟩) h.2.2).trans h.2.1, Nat.lt_of_lt_of_le h.2.2 hb.size⟩

set_option maxRecDepth 20000 in
set_option maxHeartbeats 6400000 in
theorem lexCalls_walk (w : World) (s : ByteArray) (a : Option Addr) (cap : Nat) (l : List Lx.Tk) (h : TksIn w (.slice a l.length cap) l) (wd : ByteArray) (hT : Tabs w) :
    Calls Tryd.prog 3 #[.string s, .slice a l.length cap, .string wd] w fun e w' => e = .returned (.bool true) ∧ Below w.heap.size w w' := by
  have LV : Hid (∀ wx, Tab2 wx → Calls Tryd.prog 4 #[] wx fun e w' => e = .returned (.bool true) ∧ Below wx.heap.size wx w') := fun wx h => lives_any wx h
  have T0 := hide hT.two
  have early : (4000 < s.size ∧ s.size ≤ 65536) ∨ 200 < l.length → Calls Tryd.prog 3 #[.string s, .slice a l.length cap, .string wd] w fun e w' => e = .returned (.bool true) ∧ Below w.heap.size w w' := fun he => by
    rcases he with ⟨h1, h2⟩ | h3
    · have h1i : (4000 : Int) < (s.size : Int) := by omega
      have h2i : (s.size : Int) ≤ 65536 := by omega
      clear h hT h1 h2
      go_enter Tryd.func3, Tryd.ntmps3
      go_wp2_with (go_at_call 4; refine (LV.out _ T0.out).mono ?_; rintro e w1 ⟨rfl, hb1⟩)
      go_ret
      exact ⟨rfl, hb1⟩
    · have h3i : (200 : Int) < (l.length : Int) := by omega
      by_cases h1i : (4000 : Int) < (s.size : Int) <;> by_cases h2i : (s.size : Int) ≤ 65536
      all_goals
        go_enter Tryd.func3, Tryd.ntmps3
        go_wp2_with (go_at_call 4; refine (LV.out _ T0.out).mono ?_; rintro e w1 ⟨rfl, hb1⟩)
        all_goals (go_ret; exact ⟨rfl, hb1⟩)
  by_cases he : (4000 < s.size ∧ s.size ≤ 65536) ∨ 200 < l.length
  · exact early he
  clear early
  have hl2 : l.length ≤ 200 := by omega
  have hli : ¬ (200 : Int) < (l.length : Int) := by omega
  have hsz : (¬ (4000 : Int) < (s.size : Int)) ∨ ((4000 : Int) < (s.size : Int) ∧ ¬ (s.size : Int) ≤ 65536) := by omega
  obtain ⟨q, fx, fp, hql, LA, LB⟩ := lex_both s
  have LA := hide LA
  have LB := hide LB
  have SA := hide (fun wx v v2 h h2 => sameT_any wx v v2 q h h2 hql)
  have SO := hide (fun wx v v2 h h2 => sameT_any wx v v2 l h h2 (by omega))
  obtain ⟨tS, hS⟩ : ∃ tS, tS = textS l := ⟨_, rfl⟩
  obtain ⟨tE, hE⟩ : ∃ tE, tE = textE l := ⟨_, rfl⟩
  obtain ⟨tI, hI⟩ : ∃ tI, tI = textI l := ⟨_, rfl⟩
  have TA := hide (fun wx v h2 h3 => text_any wx v l h2 (by omega) h3)
  have TB := hide (fun wx v h2 h3 h4 => rtext_any wx v l h2 (by omega) h3 h4)
  rw [← hS, ← hE, ← hI] at TA TB
  obtain ⟨R, hR⟩ : ∃ R, R = resL.contains wd.data.toList := ⟨_, rfl⟩
  have RA := hide (fun wx => reserved_any wx wd)
  have RB := hide (fun wx => refReserved_any wx wd)
  rw [← hR] at RA RB
  have EF := eql_flt fx fp
  have ET := eql_flt tE tI
  have HV := hide h
  have TT := hide hT
  clear h hT he hS hE hI hR hql
  have A : Calls Tryd.prog 3 #[.string s, .slice a l.length cap, .string wd] w fun e w' => e = .returned (.bool true) ∧ Below w.heap.size w w' := by
    rcases hsz with h4 | ⟨h4, h5⟩
    all_goals
      go_enter Tryd.func3, Tryd.ntmps3
      go_wp2_with (go_at_call 4; refine (LV.out _ T0.out).mono ?_; rintro e w1 ⟨rfl, hb1⟩)
      go_loopw [7] (fun i wr => ∃ j : Nat, i = .int .i64 j ∧ j ≤ l.length ∧ Hid (Below w.heap.size w wr) ∧ Hid (∀ x ∈ l.take j, x.t.length ≤ 10000)) (fun i _ => l.length - (intOf i).toNat)
      case atStart => exact ⟨0, rfl, Nat.zero_le _, hide hb1, hide (by intro x hx; simp at hx)⟩
      case round =>
        clear hb1
        obtain ⟨j, rfl, hj, HB, HM⟩ := hrel
        by_cases hlt : j < l.length
        · obtain ⟨⟨a', c', hv', _, hf⟩, hwf⟩ := HV.out
          simp only [Value.slice.injEq, true_and] at hv'
          obtain ⟨rfl, rfl⟩ := hv'
          obtain ⟨b, off, rfl, hv⟩ := hf (by intro e; rw [e] at hlt; simp at hlt)
          obtain ⟨c0, c1, c2, c3⟩ := (hv.later HB.out) j hlt
          obtain ⟨x, hx⟩ : ∃ x, x = l[j] := ⟨_, rfl⟩
          rw [← hx] at c0 c1 c2 c3
          obtain ⟨xs, hxs⟩ : ∃ xs : ByteArray, xs = ⟨x.t.toArray⟩ := ⟨_, rfl⟩
          have hxz : xs.size = x.t.length := by rw [hxs]; show x.t.toArray.size = _; simp
          rw [← hxs] at c1
          have hlti : (j : Int) < l.length := by omega
          by_cases hbig : 4000 < xs.size
          · have hbi : (4000 : Int) < (xs.size : Int) := by omega
            clear hv hf hwf hx hxs hxz hbig HM
            go_wp2
            go_ret
            exact ⟨rfl, HB.out⟩
          · have hbi : ¬ (4000 : Int) < (xs.size : Int) := by omega
            have HM2 : Hid (∀ y ∈ l.take (j + 1), y.t.length ≤ 10000) := by
              intro y hy
              rw [List.take_succ_eq_append_getElem hlt] at hy
              simp only [List.mem_append, List.mem_cons, List.not_mem_nil, or_false] at hy
              rcases hy with hy | rfl
              · exact HM.out y hy
              · rw [← hx]; omega
            clear hv hf hwf hx hxs hxz hbig HM
            go_wp2
            go_roundw
            case rel => exact ⟨j + 1, by go_num, by omega, HB, HM2⟩
            case measure => simp [intOf]; omega
        · have hlti : ¬ (j : Int) < l.length := by omega
          have HML : Hid (∀ x ∈ l, x.t.length ≤ 10000) := by
            have := HM.out
            rw [List.take_of_length_le (by omega)] at this
            exact this
          have hT1 := hide (T0.out.later HB.out)
          obtain ⟨⟨a', c', hv', hno, hf⟩, hwf⟩ := HV.out
          simp only [Value.slice.injEq, true_and] at hv'
          obtain ⟨rfl, rfl⟩ := hv'
          have HF := hide hf
          have HNO := hide hno
          have HWF := hide hwf
          have TK1 : Hid True := trivial
          clear hf hno hwf HM hj hlt
          go_wp2_with (first
            | (go_at_call 5; refine (LA.out _ hT1.out).mono ?_; rintro e w2 ⟨va, rfl, hva, hb2⟩; have B2 := HB.out.trans (hb2.mono HB.out.size); have VA := hide hva; have X2 := B2.alloc B2.size (.cells #[.int .i64 fx, .int .i64 fp] 30); have hT2 := hide (T0.out.later X2); clear hva)
            | (go_at_call 6; refine (LB.out _ hT2.out).mono ?_; rintro e w3 ⟨vb, rfl, hvb, hb3⟩; have B3 := X2.trans (hb3.mono X2.size); have P3 := pair_at hb3; have VA3 := hide ((VA.out.later ((Below.refl _ w2).alloc (Nat.le_refl _) (.cells #[.int .i64 fx, .int .i64 fp] 30))).later hb3); have VB := hide hvb; have X3 := B3.alloc B3.size (.cells #[.int .i64 fx, .int .i64 fp] 30); have Y3 := X3.alloc X3.size (.cells #[] 27); have O3 : Hid (((w3.alloc (.cells #[.int .i64 fx, .int .i64 fp] 30)).alloc (.cells #[] 27)).ownsRow w.heap.size 27 4 (.slice (some ⟨w3.heap.size + 1, 0, none⟩) 0 0) 0 (tkcs [])) := (by have h3 := World.ownsRow_lit (size := 4) (e := 27) (base := w.heap.size) (w3.alloc (.cells #[.int .i64 fx, .int .i64 fp] 30)) #[] 0 X3.size (by decide) rfl; show World.ownsRow _ _ _ _ _ _ _; simpa [tkcs] using h3); clear hvb)
            | (at_builtin; refine wpList_app_tks _ rfl _ _ rfl w.heap.size (w3.heap.size + 1) 0 [] l 0 l.length cap rfl rfl rfl O3.out a rfl (fun h0 => by obtain ⟨b, off, ha, hat⟩ := HF.out h0; exact ⟨b, off, ha, hat.later Y3⟩) HNO.out (by omega) Y3.size ?_; intro g4 cap4 w4 o4 g4b; have Q4 := Y3.grown g4b Y3.size (fun k hk => by cases hk; have := B3.size; omega); have a3 : Below w3.heap.size w3 (w3.alloc (.cells #[.int .i64 fx, .int .i64 fp] 30)) := (Below.refl _ _).alloc (Nat.le_refl _) _; have Z4 : Below (w3.alloc (.cells #[.int .i64 fx, .int .i64 fp] 30)).heap.size (w3.alloc (.cells #[.int .i64 fx, .int .i64 fp] 30)) w4 := ((Below.refl _ _).alloc (Nat.le_refl _) _).grown g4b (by simp) (fun k hk => by cases hk; simp); have P1 := pair_on (pair_on P3 a3) Z4; have P2 := pair_at Z4; have VA4 := hide ((VA3.out.later a3).later Z4); have VB4 := hide ((VB.out.later a3).later Z4); have OI : Hid (TksIn w4 (.slice (some ⟨g4, 0, none⟩) l.length cap4) l) := hide (TksIn.own (base := w.heap.size) (by simpa using o4) HWF.out); have TT4 := hide (TT.out.later Q4); clear o4 g4b Z4 a3 P3)
            | (go_at_call 7; refine (TA.out _ _ OI.out TT4.out).mono ?_; rintro e w5 ⟨rfl, hb5⟩; have B5 := Q4.trans (hb5.mono Q4.size); have X5 := B5.alloc B5.size (.cells #[.int .i64 tE, .int .i64 tI] 30); have a5 : Below w5.heap.size w5 (w5.alloc (.cells #[.int .i64 tE, .int .i64 tI] 30)) := (Below.refl _ _).alloc (Nat.le_refl _) _; have P1b := pair_on (pair_on P1 hb5) a5; have P2b := pair_on (pair_on P2 hb5) a5; have VA5 := hide ((VA4.out.later hb5).later a5); have VB5 := hide ((VB4.out.later hb5).later a5); have OI5 := hide ((OI.out.later hb5).later a5); have T05 := hide (T0.out.later X5); have HV5 := hide (HV.out.later X5); clear P1 P2)
            | (go_at_call 8; refine (TB.out _ _ HV5.out HML.out T05.out).mono ?_; rintro e w6 ⟨rfl, hb6⟩; have B6 := X5.trans (hb6.mono X5.size); have X6 := B6.alloc B6.size (.cells #[.int .i64 tE, .int .i64 tI] 30); have a6 : Below w6.heap.size w6 (w6.alloc (.cells #[.int .i64 tE, .int .i64 tI] 30)) := (Below.refl _ _).alloc (Nat.le_refl _) _; have P3c := pair_on (pair_at hb6) a6; obtain ⟨d0, d1, d2⟩ := pair_on (pair_on P1b hb6) a6; obtain ⟨e0, e1, e2⟩ := pair_on (pair_on P2b hb6) a6; have VA6 := hide ((VA5.out.later hb6).later a6); have VB6 := hide ((VB5.out.later hb6).later a6); have OI6 := hide ((OI5.out.later hb6).later a6); clear P1b P2b)
            | (go_at_call 9; have ta := TK1.out; refine (SA.out _ _ _ VA6.out VB6.out).mono ?_; rintro e w7 ⟨rfl, hb7⟩; clear TK1 ta; have B7 := X6.trans (hb7.mono X6.size); obtain ⟨f0, f1, f2⟩ := pair_on P3c hb7; obtain ⟨h0, h1, h2⟩ := pair_at hb7; have OI7 := hide (OI6.out.later hb7); have HV7 := hide (HV.out.later B7))
            | (go_at_call 9; refine (SO.out _ _ _ OI7.out HV7.out).mono ?_; rintro e w8 ⟨rfl, hb8⟩; have B8 := B7.trans (hb8.mono B7.size))
            | (go_at_call 10; refine (RA.out _).mono ?_; rintro e w9 ⟨rfl, h9⟩; subst h9)
            | (go_at_call 11; refine (RB.out _).mono ?_; rintro e w10 ⟨rfl, hb10⟩; have B10 := B8.trans (hb10.mono B8.size)))
          go_ret
          exact ⟨rfl, B10⟩
  exact A
end Go.Proofs.YtjddhakaebkkeaaDoor
