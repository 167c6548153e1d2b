/-
  Package parser: the teller's operations of one. .. and what follows from it.
-/
import Derived.Test.YtedamaccflhmfaaGreatDoorXTb
import Derived.Test.YtedamaccflhmfaaGreatDoorXPe
namespace Go.Proofs.YtedamaccflhmfaaGreatDoor
open Go.RowKit
attribute [local go_sem ↓] Go.wp_at_zero Go.wp_at_succ

/-- What stands behind the - of OpNeg. -/
def negT (x : Ps.Ex) (r : List Lx.Tk) : List Lx.Tk := Ps.kw [45] :: Ps.par (Ps.posLit x || decide (Ps.rank (Ps.opX x) < 6)) r
set_option maxRecDepth 100000 in
set_option maxHeartbeats 1600000 in
theorem negated_told (o k n : Int) (t : ByteArray) (tb nm : List UInt8) (sl kd : Int) (ag : List Ps.Ex) (HX : TellsE (.mk o ⟨k, n, t⟩ tb nm sl kd ag)) (w : World) (base T : Nat) (vv : Value) (l : List Lx.Tk) (c : Nat) (a : Option Addr) (cap : Nat) (h : Tl w base T vv l c) (hx : ExAt (fun b => b < base) w (.mk o ⟨k, n, t⟩ tb nm sl kd ag) (.slice a ag.length cap)) (hr : rngE (.mk o ⟨k, n, t⟩ tb nm sl kd ag))
    (hl : l.length + wtE (.mk o ⟨k, n, t⟩ tb nm sl kd ag) + 3 ≤ 990000) (hc : c + wtE (.mk o ⟨k, n, t⟩ tb nm sl kd ag) ≤ 1000000000) :
    Calls Tryz.prog 114 #[.pointer (some ⟨T, 0, none⟩), .agg (bx o k n t tb nm sl kd (.slice a ag.length cap))] w (Told1 base T vv l c w (negT (.mk o ⟨k, n, t⟩ tb nm sl kd ag) (Ps.tellE (.mk o ⟨k, n, t⟩ tb nm sl kd ag) c).1) (Ps.tellE (.mk o ⟨k, n, t⟩ tb nm sl kd ag) c).2) := by
  have H0 := hide (h.alloc (.cells (bx o k n t tb nm sl kd (.slice a ag.length cap)) 34))
  have T0 := hide ((Ts.refl T vv w).alloc (.cells (bx o k n t tb nm sl kd (.slice a ag.length cap)) 34))
  have F0 := h.far (Nat.le_refl w.heap.size)
  have B0 := hide (heap_new (w := w) (cs := bx o k n t tb nm sl kd (.slice a ag.length cap)) (T := 34) rfl)
  have X0 := hide (ExAt.keep (Kept.of ((Below.refl w.heap.size w).alloc (Nat.le_refl _) (.cells (bx o k n t tb nm sl kd (.slice a ag.length cap)) 34))) (fun _ hk _ => hk) _ _ hx)
  obtain ⟨ts, c', W, EX, hl2, hc2, hts, hW⟩ : ∃ ts c' W, Hid (∀ (w : World) (vv : Value) (l : List Lx.Tk), Tl w base T vv l c → ExAt (fun b => b < base) w (.mk o ⟨k, n, t⟩ tb nm sl kd ag) (.slice a ag.length cap) → l.length + W ≤ 990000 → Calls Tryz.prog 46 #[.pointer (some ⟨T, 0, none⟩), .agg (bx o k n t tb nm sl kd (.slice a ag.length cap))] w (Told1 base T vv l c w ts c')) ∧ (Ps.tellE (.mk o ⟨k, n, t⟩ tb nm sl kd ag) c).1 = ts ∧ (Ps.tellE (.mk o ⟨k, n, t⟩ tb nm sl kd ag) c).2 = c' ∧ ts.length ≤ W ∧ wtE (.mk o ⟨k, n, t⟩ tb nm sl kd ag) = W := ⟨_, _, _, fun w vv l h1 h2 h3 => HX w base T vv l c a cap h1 h2 hr h3 hc, rfl, rfl, tell_len _ _, rfl⟩
  have OP : Hid (∀ (w : World) (vv : Value) (l : List Lx.Tk) (least : Nat), Tl w base T vv l c → ExAt (fun b => b < base) w (.mk o ⟨k, n, t⟩ tb nm sl kd ag) (.slice a ag.length cap) → l.length + W + 2 ≤ 990000 → Calls Tryz.prog 113 #[.pointer (some ⟨T, 0, none⟩), .agg (bx o k n t tb nm sl kd (.slice a ag.length cap)), .int .i64 least] w (Told1 base T vv l c w (Ps.par (decide (Ps.rank o < least)) ts) c')) := fun wx vx lx least h1 h2 h3 => by
    have := operand_told o k n t tb nm sl kd ag HX wx base T vx lx c a cap h1 h2 hr least (by rw [hW]; exact h3) hc
    rw [hl2, hc2] at this
    exact this
  rw [hW] at hl
  rw [hl2, hc2]
  clear HX hr hc hl2 hc2 h hx hW
  by_cases o1 : o = 1
  · subst o1
    by_cases k2 : k = 2
    · subst k2
      by_cases n0 : 0 ≤ n
      · rw [show negT (.mk 1 ⟨2, n, t⟩ tb nm sl kd ag) ts = [Ps.kw [45]] ++ ([Ps.kw [40]] ++ (ts ++ [Ps.kw [41]])) from by rw [negT, show Ps.posLit (.mk 1 ⟨2, n, t⟩ tb nm sl kd ag) = true from by simp [Ps.posLit, n0]]; rfl]
        clear OP
        go_enter Tryz.func114, Tryz.ntmps114
        go_wp2_with (first
          | (go_at_call 88; refine (say_new _ base T v3 _ c' H3.out [[41]] _ rfl (by decide) (by simp only [List.length_append, List.length_map, List.length_cons, List.length_nil]; omega) (by simp only [List.length_cons, List.length_nil]; decide) rfl rfl).mono ?_; rintro e w4 ⟨rfl, v4, h4, t4⟩; have H4 := hide h4; have T4 := hide (T3.out.trans t4); clear h4)
          | (go_at_call 46; refine (EX.out _ _ _ H2.out X2.out (by simp only [List.length_append, List.length_map, List.length_cons, List.length_nil]; omega)).mono ?_; rintro e w3 ⟨rfl, v3, h3, t3⟩; have H3 := hide h3; have T3 := hide (T2.out.trans t3); clear h3)
          | (go_at_call 88; refine (say_new _ base T v1 _ c H1.out [[40]] _ rfl (by decide) (by simp only [List.length_append, List.length_map, List.length_cons, List.length_nil]; omega) (by simp only [List.length_cons, List.length_nil]; decide) rfl rfl).mono ?_; rintro e w2 ⟨rfl, v2, h2, t2⟩; have H2 := hide h2; have T2 := hide (T1.out.trans t2); have X2 := hide (ExAt.keep (t2.kept H1.out) (fun _ hk _ => hk) _ _ X1.out); have B2 := t2.keeps B1 F1; have F2 := t2.far (Array.getElem?_eq_some_iff.1 B1).1 F1; obtain ⟨⟨xa0, xa1, xa2, xa3, xa4, xa5, xa6, xa7, xa8⟩, _, _⟩ := sl9 B2; clear h2)
          | (go_at_call 88; refine (say_new _ base T vv l c H0.out [[45]] _ rfl (by decide) (by omega) (by simp only [List.length_cons, List.length_nil]; decide) rfl (by simp)).mono ?_; rintro e w1 ⟨rfl, v1, h1, t1⟩; have H1 := hide h1; have T1 := hide (T0.out.trans t1); have X1 := hide (ExAt.keep (t1.kept H0.out) (fun _ hk _ => hk) _ _ X0.out); have B1 := t1.keeps B0.out F0; have F1 := t1.far (Array.getElem?_eq_some_iff.1 B0.out).1 F0; obtain ⟨⟨xa0, xa1, xa2, xa3, xa4, xa5, xa6, xa7, xa8⟩, _, _⟩ := sl9 B1; clear h1))
        exact bodyPost_end (v := .tuple #[]) (by simp [results, Tryz.results114]) rfl ⟨rfl, _, by have := H4.out; rw [List.append_assoc, List.append_assoc, List.append_assoc] at this; simpa using this, T4.out⟩
      · rw [show negT (.mk 1 ⟨2, n, t⟩ tb nm sl kd ag) ts = [Ps.kw [45]] ++ Ps.par (decide (Ps.rank 1 < 6)) ts from by rw [negT, show Ps.posLit (.mk 1 ⟨2, n, t⟩ tb nm sl kd ag) = false from by simp [Ps.posLit]; omega]; rfl]
        clear EX
        go_enter Tryz.func114, Tryz.ntmps114
        go_wp2_with (first
          | (go_at_call 113; refine (OP.out _ _ _ 6 H1.out X1.out (by simp only [List.length_append, List.length_map, List.length_cons, List.length_nil]; omega)).mono ?_; rintro e w2 ⟨rfl, v2, h2, t2⟩; have H2 := hide h2; have T2 := hide (T1.out.trans t2); clear h2)
          | (go_at_call 88; refine (say_new _ base T vv l c H0.out [[45]] _ rfl (by decide) (by omega) (by simp only [List.length_cons, List.length_nil]; decide) rfl (by simp)).mono ?_; rintro e w1 ⟨rfl, v1, h1, t1⟩; have H1 := hide h1; have T1 := hide (T0.out.trans t1); have X1 := hide (ExAt.keep (t1.kept H0.out) (fun _ hk _ => hk) _ _ X0.out); have B1 := t1.keeps B0.out F0; have F1 := t1.far (Array.getElem?_eq_some_iff.1 B0.out).1 F0; obtain ⟨⟨xa0, xa1, xa2, xa3, xa4, xa5, xa6, xa7, xa8⟩, _, _⟩ := sl9 B1; clear h1))
        exact bodyPost_end (v := .tuple #[]) (by simp [results, Tryz.results114]) rfl ⟨rfl, _, by have := H2.out; rw [List.append_assoc] at this; simpa using this, T2.out⟩
    · rw [show negT (.mk 1 ⟨k, n, t⟩ tb nm sl kd ag) ts = [Ps.kw [45]] ++ Ps.par (decide (Ps.rank 1 < 6)) ts from by rw [negT, show Ps.posLit (.mk 1 ⟨k, n, t⟩ tb nm sl kd ag) = false from by simp [Ps.posLit, k2]]; rfl]
      clear EX
      go_enter Tryz.func114, Tryz.ntmps114
      go_wp2_with (first
        | (go_at_call 113; refine (OP.out _ _ _ 6 H1.out X1.out (by simp only [List.length_append, List.length_map, List.length_cons, List.length_nil]; omega)).mono ?_; rintro e w2 ⟨rfl, v2, h2, t2⟩; have H2 := hide h2; have T2 := hide (T1.out.trans t2); clear h2)
        | (go_at_call 88; refine (say_new _ base T vv l c H0.out [[45]] _ rfl (by decide) (by omega) (by simp only [List.length_cons, List.length_nil]; decide) rfl (by simp)).mono ?_; rintro e w1 ⟨rfl, v1, h1, t1⟩; have H1 := hide h1; have T1 := hide (T0.out.trans t1); have X1 := hide (ExAt.keep (t1.kept H0.out) (fun _ hk _ => hk) _ _ X0.out); have B1 := t1.keeps B0.out F0; have F1 := t1.far (Array.getElem?_eq_some_iff.1 B0.out).1 F0; obtain ⟨⟨xa0, xa1, xa2, xa3, xa4, xa5, xa6, xa7, xa8⟩, _, _⟩ := sl9 B1; clear h1))
      exact bodyPost_end (v := .tuple #[]) (by simp [results, Tryz.results114]) rfl ⟨rfl, _, by have := H2.out; rw [List.append_assoc] at this; simpa using this, T2.out⟩
  · rw [show negT (.mk o ⟨k, n, t⟩ tb nm sl kd ag) ts = [Ps.kw [45]] ++ Ps.par (decide (Ps.rank o < 6)) ts from by rw [negT, show Ps.posLit (.mk o ⟨k, n, t⟩ tb nm sl kd ag) = false from by simp [Ps.posLit, o1]]; rfl]
    clear EX
    go_enter Tryz.func114, Tryz.ntmps114
    go_wp2_with (first
      | (go_at_call 113; refine (OP.out _ _ _ 6 H1.out X1.out (by simp only [List.length_append, List.length_map, List.length_cons, List.length_nil]; omega)).mono ?_; rintro e w2 ⟨rfl, v2, h2, t2⟩; have H2 := hide h2; have T2 := hide (T1.out.trans t2); clear h2)
      | (go_at_call 88; refine (say_new _ base T vv l c H0.out [[45]] _ rfl (by decide) (by omega) (by simp only [List.length_cons, List.length_nil]; decide) rfl (by simp)).mono ?_; rintro e w1 ⟨rfl, v1, h1, t1⟩; have H1 := hide h1; have T1 := hide (T0.out.trans t1); have X1 := hide (ExAt.keep (t1.kept H0.out) (fun _ hk _ => hk) _ _ X0.out); have B1 := t1.keeps B0.out F0; have F1 := t1.far (Array.getElem?_eq_some_iff.1 B0.out).1 F0; obtain ⟨⟨xa0, xa1, xa2, xa3, xa4, xa5, xa6, xa7, xa8⟩, _, _⟩ := sl9 B1; clear h1))
    exact bodyPost_end (v := .tuple #[]) (by simp [results, Tryz.results114]) rfl ⟨rfl, _, by have := H2.out; rw [List.append_assoc] at this; simpa using this, T2.out⟩
/-- What an aggregate is told as. -/
def aggT (z : Option (Int × List UInt8)) (r : List Lx.Tk) : List Lx.Tk := match z with
  | some a => Ps.kw a.2 :: Ps.par true r
  | none => []
theorem aggs_once (j : Nat) (hj : j < 4) (o : Int) (s : List UInt8) (h : Ps.aggs[j]? = some (o, s)) : (Ps.aggs.drop (j + 1)).find? (fun a => a.1 == o) = none ∧ s ≠ [] := by
  match j, hj with
  | 0, _ => injection h with h; injection h with h1 h2; subst h1 h2; exact ⟨rfl, by decide⟩
  | 1, _ => injection h with h; injection h with h1 h2; subst h1 h2; exact ⟨rfl, by decide⟩
  | 2, _ => injection h with h; injection h with h1 h2; subst h1 h2; exact ⟨rfl, by decide⟩
  | 3, _ => injection h with h; injection h with h1 h2; subst h1 h2; exact ⟨rfl, by decide⟩
  | n + 4, h => omega
set_option maxRecDepth 100000 in
set_option maxHeartbeats 1600000 in
theorem aggregate_told (op : Int) (o k n : Int) (t : ByteArray) (tb nm : List UInt8) (sl kd : Int) (ag : List Ps.Ex) (HX : TellsE (.mk o ⟨k, n, t⟩ tb nm sl kd ag)) (w : World) (base T : Nat) (vv : Value) (l : List Lx.Tk) (c : Nat) (a : Option Addr) (cap : Nat) (h : Tl w base T vv l c) (hx : ExAt (fun b => b < base) w (.mk o ⟨k, n, t⟩ tb nm sl kd ag) (.slice a ag.length cap)) (hr : rngE (.mk o ⟨k, n, t⟩ tb nm sl kd ag))
    (hl : l.length + wtE (.mk o ⟨k, n, t⟩ tb nm sl kd ag) + 3 ≤ 990000) (hc : c + wtE (.mk o ⟨k, n, t⟩ tb nm sl kd ag) ≤ 1000000000) :
    Calls Tryz.prog 115 #[.pointer (some ⟨T, 0, none⟩), .int .u8 op, .agg (bx o k n t tb nm sl kd (.slice a ag.length cap))] w (Told1 base T vv l c w (aggT (Ps.aggs.find? fun a => a.1 == op) (Ps.tellE (.mk o ⟨k, n, t⟩ tb nm sl kd ag) c).1) (match Ps.aggs.find? fun a => a.1 == op with | some _ => (Ps.tellE (.mk o ⟨k, n, t⟩ tb nm sl kd ag) c).2 | none => c)) := by
  have H0 := hide (h.alloc (.cells (bx o k n t tb nm sl kd (.slice a ag.length cap)) 34))
  have T0 := hide ((Ts.refl T vv w).alloc (.cells (bx o k n t tb nm sl kd (.slice a ag.length cap)) 34))
  have F0 := h.far (Nat.le_refl w.heap.size)
  have B0 := hide (heap_new (w := w) (cs := bx o k n t tb nm sl kd (.slice a ag.length cap)) (T := 34) rfl)
  have X0 := hide (ExAt.keep (Kept.of ((Below.refl w.heap.size w).alloc (Nat.le_refl _) (.cells (bx o k n t tb nm sl kd (.slice a ag.length cap)) 34))) (fun _ hk _ => hk) _ _ hx)
  obtain ⟨ts, c', W, EX, hl2, hc2, hts, hW⟩ : ∃ ts c' W, Hid (∀ (w : World) (vv : Value) (l : List Lx.Tk), Tl w base T vv l c → ExAt (fun b => b < base) w (.mk o ⟨k, n, t⟩ tb nm sl kd ag) (.slice a ag.length cap) → l.length + W ≤ 990000 → Calls Tryz.prog 46 #[.pointer (some ⟨T, 0, none⟩), .agg (bx o k n t tb nm sl kd (.slice a ag.length cap))] w (Told1 base T vv l c w ts c')) ∧ (Ps.tellE (.mk o ⟨k, n, t⟩ tb nm sl kd ag) c).1 = ts ∧ (Ps.tellE (.mk o ⟨k, n, t⟩ tb nm sl kd ag) c).2 = c' ∧ ts.length ≤ W ∧ wtE (.mk o ⟨k, n, t⟩ tb nm sl kd ag) = W := ⟨_, _, _, fun w vv l h1 h2 h3 => HX w base T vv l c a cap h1 h2 hr h3 hc, rfl, rfl, tell_len _ _, rfl⟩
  rw [hW] at hl
  rw [hl2, hc2]
  clear HX hr hc hl2 hc2 h hx hW
  obtain ⟨z, hz⟩ : ∃ z, z = Ps.aggs.find? fun a => a.1 == op := ⟨_, rfl⟩
  have HZ : Hid (z = (Ps.aggs.drop 0).find? fun a => a.1 == op) := hz
  rw [← hz]
  clear hz
  go_enter Tryz.func115, Tryz.ntmps115
  go_wp2_with (refine wpList_load_row rfl 201 (.global 4) rfl 4 rfl _ _ _ _ H0.out.tab.aggs Tryz.underlying201 rfl info_aggs ?_)
  obtain ⟨A, hA⟩ : ∃ A, A = aggsA := ⟨_, rfl⟩
  have HA := hide hA
  rw [show Value.agg aggsC.toArray = aggsA from rfl, ← hA]
  clear hA
  go_loopw [9] (fun i wr => ∃ (j : Nat) (v2 : Value), i = .int .i64 j ∧ j ≤ 4 ∧ Ts T vv v2 w wr ∧ wr.heap[w.heap.size]? = some (.cells (bx o k n t tb nm sl kd (.slice a ag.length cap)) 34 (0, 0)) ∧ (w.heap.size ≠ T ∧ v2.ownBlock ≠ some w.heap.size) ∧ ExAt (fun b => b < base) wr (.mk o ⟨k, n, t⟩ tb nm sl kd ag) (.slice a ag.length cap) ∧ ((Tl wr base T v2 l c ∧ Hid (z = (Ps.aggs.drop j).find? fun a => a.1 == op)) ∨ (∃ s, z = some s ∧ Tl wr base T v2 (l ++ aggT z ts) c' ∧ Hid ((Ps.aggs.drop j).find? (fun a => a.1 == op) = none)))) (fun i _ => 4 - (intOf i).toNat)
  case atStart => exact ⟨0, vv, rfl, by omega, T0.out, B0.out, F0, X0.out, .inl ⟨H0.out, HZ⟩⟩
  case round =>
    clear HZ H0 T0 B0 X0 F0
    obtain ⟨j, v2, rfl, hj, hT, hB, hF, hX, hcase⟩ := hrel
    have T0 := hide hT
    have X0 := hide hX
    have hlt0 := (Array.getElem?_eq_some_iff.1 hB).1
    have n1 : ¬ w.heap.size = wr.heap.size := Nat.ne_of_lt hlt0
    have n2 : ¬ wr.heap.size = w.heap.size := fun e => n1 e.symm
    have B0 := hB
    obtain ⟨⟨xa0, xa1, xa2, xa3, xa4, xa5, xa6, xa7, xa8⟩, _, _⟩ := sl9 B0
    clear hT hX hB
    by_cases hlt : j < 4
    · obtain ⟨oo, s, hg, hix⟩ := aggs_index j hlt
      rw [← HA.out] at hix
      obtain ⟨honce, hs0⟩ := aggs_once j hlt oo s hg
      have hd : Ps.aggs.drop j = (oo, s) :: Ps.aggs.drop (j + 1) := by
        obtain ⟨h1, h2⟩ := List.getElem?_eq_some_iff.1 hg
        rw [List.drop_eq_getElem_cons h1, h2]
      have hj0 : ((j : Nat) : Int) < 4 := by omega
      rcases hcase with ⟨hH, HZ⟩ | ⟨s1, hz1, hH, HZ⟩
      · have HZ2 := HZ.out
        rw [hd, List.find?_cons] at HZ2
        have H0 := hide (hH.alloc (.cells #[.int .u8 oo, .string ⟨s.toArray⟩] 200))
        have TT := hide (T0.out.alloc (.cells #[.int .u8 oo, .string ⟨s.toArray⟩] 200))
        have XX := hide (ExAt.keep (Kept.of ((Below.refl wr.heap.size wr).alloc (Nat.le_refl _) (.cells #[.int .u8 oo, .string ⟨s.toArray⟩] 200))) (fun _ hk _ => hk) _ _ X0.out)
        have BB := alloc_keeps B0 (.cells #[.int .u8 oo, .string ⟨s.toArray⟩] 200)
        clear hH
        by_cases ho : oo = op
        · subst ho
          have HZ3 : z = some (oo, s) := by rw [HZ2]; simp
          subst HZ3
          have HO := hide honce
          have hne : ∀ x ∈ [s, [40]], x ≠ [] := by intro x hx; simp only [List.mem_cons, List.not_mem_nil, or_false] at hx; rcases hx with rfl | rfl; exact hs0; decide
          clear hd HZ HZ2 hg honce
          go_wp2_with (first
            | (go_at_call 88; refine (say_new _ base T v3 _ c' H3.out [[41]] _ rfl (by decide) (by simp only [List.length_append, List.length_map, List.length_cons, List.length_nil]; omega) (by simp only [List.length_cons, List.length_nil]; decide) rfl rfl).mono ?_; rintro e w4 ⟨rfl, v4, h4, t4⟩; have H4 := hide h4; have T4 := hide (T3.out.trans t4); have X4 := hide (ExAt.keep (t4.kept H3.out) (fun _ hk _ => hk) _ _ X3.out); have B4 := t4.keeps B3 F3; have F4 := t4.far (Array.getElem?_eq_some_iff.1 B3).1 F3; clear h4)
            | (go_at_call 46; refine (EX.out _ _ _ H2.out X2.out (by simp only [List.length_append, List.length_map, List.length_cons, List.length_nil]; omega)).mono ?_; rintro e w3 ⟨rfl, v3, h3, t3⟩; have H3 := hide h3; have T3 := hide (T2.out.trans t3); have X3 := hide (ExAt.keep (t3.kept H2.out) (fun _ hk _ => hk) _ _ X2.out); have B3 := t3.keeps B2 F2; have F3 := t3.far (Array.getElem?_eq_some_iff.1 B2).1 F2; clear h3)
            | (go_at_call 88; refine (say_new _ base T v2 l c H0.out [s, [40]] _ rfl hne (by omega) (by simp only [List.length_cons, List.length_nil]; decide) rfl (by simp)).mono ?_; rintro e w2 ⟨rfl, v5, h2, t2⟩; have H2 := hide h2; have T2 := hide (TT.out.trans t2); have X2 := hide (ExAt.keep (t2.kept H0.out) (fun _ hk _ => hk) _ _ XX.out); have B2 := t2.keeps BB hF; have F2 := t2.far (by simp; omega) hF; obtain ⟨⟨ya0, ya1, ya2, ya3, ya4, ya5, ya6, ya7, ya8⟩, _, _⟩ := sl9 B2; clear h2))
          refine ⟨⟨j + 1, v4, by simp, by omega, T4.out, B4, F4, X4.out, .inr ⟨_, rfl, ?_, HO⟩⟩, by simp only [intOf]; omega⟩
          have h9 := H4.out
          rw [List.append_assoc, List.append_assoc] at h9
          simpa [aggT, Ps.par] using h9
        · have HZ4 := hide (show z = (Ps.aggs.drop (j + 1)).find? fun a => a.1 == op by rw [HZ2, show (oo == op) = false from by simpa using ho])
          clear hd HZ HZ2 hg honce EX
          go_wp2_with (fail)
          exact ⟨⟨j + 1, v2, by simp, by omega, TT.out, BB, hF, XX.out, .inl ⟨H0.out, HZ4⟩⟩, by simp only [intOf]; omega⟩
      · have HZ2 := HZ.out
        rw [hd, List.find?_cons] at HZ2
        have ho : ¬ oo = op := fun e => by rw [e] at HZ2; simp at HZ2
        have HZ4 := hide (show (Ps.aggs.drop (j + 1)).find? (fun a => a.1 == op) = none by rw [show (oo == op) = false from by simpa using ho] at HZ2; exact HZ2)
        have H0 := hide (hH.alloc (.cells #[.int .u8 oo, .string ⟨s.toArray⟩] 200))
        have TT := hide (T0.out.alloc (.cells #[.int .u8 oo, .string ⟨s.toArray⟩] 200))
        have XX := hide (ExAt.keep (Kept.of ((Below.refl wr.heap.size wr).alloc (Nat.le_refl _) (.cells #[.int .u8 oo, .string ⟨s.toArray⟩] 200))) (fun _ hk _ => hk) _ _ X0.out)
        have BB := alloc_keeps B0 (.cells #[.int .u8 oo, .string ⟨s.toArray⟩] 200)
        have HZ1 := hide hz1
        clear hd HZ HZ2 hg honce hH EX hz1
        go_wp2_with (fail)
        exact ⟨⟨j + 1, v2, by simp, by omega, TT.out, BB, hF, XX.out, .inr ⟨_, HZ1.out, H0.out, HZ4⟩⟩, by simp only [intOf]; omega⟩
    · obtain rfl : j = 4 := by omega
      rcases hcase with ⟨hH, HZ⟩ | ⟨s1, hz1, hH, HZ⟩
      · have HZ3 : z = none := HZ.out
        subst HZ3
        have H0 := hide hH
        clear HZ hH EX
        go_wp2_with (fail)
        exact bodyPost_end (v := .tuple #[]) (by simp [results, Tryz.results115]) rfl ⟨rfl, _, by rw [show aggT none ts = [] from rfl, List.append_nil]; exact H0.out, T0.out⟩
      · subst hz1
        have H0 := hide hH
        clear HZ hH EX
        go_wp2_with (fail)
        exact bodyPost_end (v := .tuple #[]) (by simp [results, Tryz.results115]) rfl ⟨rfl, _, H0.out, T0.out⟩
end Go.Proofs.YtedamaccflhmfaaGreatDoor
namespace Go.Proofs.YtedamaccflhmfaaGreatDoor
open Go.RowKit
attribute [local go_sem ↓] Go.wp_at_zero Go.wp_at_succ

/-- What an operation of one is told as. -/
def oneT (op : Int) (x : Ps.Ex) (c : Nat) : List Lx.Tk × Nat :=
  let r := Ps.tellE x c
  if op = 17 then (Ps.kw [110, 111, 116] :: Ps.par (decide (Ps.rank (Ps.opX x) < 2)) r.1, r.2)
  else if op = 18 then (negT x r.1, r.2)
  else if op = 19 then (Ps.par (decide (Ps.rank (Ps.opX x) < 4)) r.1 ++ [Ps.kw [105, 115], Ps.kw [110, 117, 108, 108]], r.2)
  else if op = 20 then (Ps.par (decide (Ps.rank (Ps.opX x) < 4)) r.1 ++ [Ps.kw [105, 115], Ps.kw [110, 111, 116], Ps.kw [110, 117, 108, 108]], r.2)
  else (aggT (Ps.aggs.find? fun a => a.1 == op) r.1, match Ps.aggs.find? fun a => a.1 == op with | some _ => r.2 | none => c)
set_option maxRecDepth 100000 in
set_option maxHeartbeats 1600000 in
theorem ofOne_told (op : Int) (o k n : Int) (t : ByteArray) (tb nm : List UInt8) (sl kd : Int) (ag : List Ps.Ex) (HX : TellsE (.mk o ⟨k, n, t⟩ tb nm sl kd ag)) (w : World) (base T : Nat) (vv : Value) (l : List Lx.Tk) (c : Nat) (a : Option Addr) (cap : Nat) (h : Tl w base T vv l c) (hx : ExAt (fun b => b < base) w (.mk o ⟨k, n, t⟩ tb nm sl kd ag) (.slice a ag.length cap)) (hr : rngE (.mk o ⟨k, n, t⟩ tb nm sl kd ag))
    (hl : l.length + wtE (.mk o ⟨k, n, t⟩ tb nm sl kd ag) + 5 ≤ 990000) (hc : c + wtE (.mk o ⟨k, n, t⟩ tb nm sl kd ag) ≤ 1000000000) :
    Calls Tryz.prog 70 #[.pointer (some ⟨T, 0, none⟩), .int .u8 op, .agg (bx o k n t tb nm sl kd (.slice a ag.length cap))] w (Told1 base T vv l c w (oneT op (.mk o ⟨k, n, t⟩ tb nm sl kd ag) c).1 (oneT op (.mk o ⟨k, n, t⟩ tb nm sl kd ag) c).2) := by
  have H0 := hide (h.alloc (.cells (bx o k n t tb nm sl kd (.slice a ag.length cap)) 34))
  have T0 := hide ((Ts.refl T vv w).alloc (.cells (bx o k n t tb nm sl kd (.slice a ag.length cap)) 34))
  have F0 := h.far (Nat.le_refl w.heap.size)
  have B0 := hide (heap_new (w := w) (cs := bx o k n t tb nm sl kd (.slice a ag.length cap)) (T := 34) rfl)
  have X0 := hide (ExAt.keep (Kept.of ((Below.refl w.heap.size w).alloc (Nat.le_refl _) (.cells (bx o k n t tb nm sl kd (.slice a ag.length cap)) 34))) (fun _ hk _ => hk) _ _ hx)
  obtain ⟨ts, c', W, EX, hl2, hc2, hts, hW⟩ : ∃ ts c' W, Hid (∀ (w : World) (vv : Value) (l : List Lx.Tk), Tl w base T vv l c → ExAt (fun b => b < base) w (.mk o ⟨k, n, t⟩ tb nm sl kd ag) (.slice a ag.length cap) → l.length + W ≤ 990000 → Calls Tryz.prog 46 #[.pointer (some ⟨T, 0, none⟩), .agg (bx o k n t tb nm sl kd (.slice a ag.length cap))] w (Told1 base T vv l c w ts c')) ∧ (Ps.tellE (.mk o ⟨k, n, t⟩ tb nm sl kd ag) c).1 = ts ∧ (Ps.tellE (.mk o ⟨k, n, t⟩ tb nm sl kd ag) c).2 = c' ∧ ts.length ≤ W ∧ wtE (.mk o ⟨k, n, t⟩ tb nm sl kd ag) = W := ⟨_, _, _, fun w vv l h1 h2 h3 => HX w base T vv l c a cap h1 h2 hr h3 hc, rfl, rfl, tell_len _ _, rfl⟩
  have OP : Hid (∀ (w : World) (vv : Value) (l : List Lx.Tk) (least : Nat), Tl w base T vv l c → ExAt (fun b => b < base) w (.mk o ⟨k, n, t⟩ tb nm sl kd ag) (.slice a ag.length cap) → l.length + W + 2 ≤ 990000 → Calls Tryz.prog 113 #[.pointer (some ⟨T, 0, none⟩), .agg (bx o k n t tb nm sl kd (.slice a ag.length cap)), .int .i64 least] w (Told1 base T vv l c w (Ps.par (decide (Ps.rank o < least)) ts) c')) := fun wx vx lx least h1 h2 h3 => by
    have := operand_told o k n t tb nm sl kd ag HX wx base T vx lx c a cap h1 h2 hr least (by rw [hW]; exact h3) hc
    rw [hl2, hc2] at this
    exact this
  have NG : Hid (∀ (w : World) (vv : Value) (l : List Lx.Tk), Tl w base T vv l c → ExAt (fun b => b < base) w (.mk o ⟨k, n, t⟩ tb nm sl kd ag) (.slice a ag.length cap) → l.length + W + 3 ≤ 990000 → Calls Tryz.prog 114 #[.pointer (some ⟨T, 0, none⟩), .agg (bx o k n t tb nm sl kd (.slice a ag.length cap))] w (Told1 base T vv l c w (negT (.mk o ⟨k, n, t⟩ tb nm sl kd ag) ts) c')) := fun wx vx lx h1 h2 h3 => by
    have := negated_told o k n t tb nm sl kd ag HX wx base T vx lx c a cap h1 h2 hr (by rw [hW]; exact h3) hc
    rw [hl2, hc2] at this
    exact this
  have AG : Hid (∀ (w : World) (vv : Value) (l : List Lx.Tk), Tl w base T vv l c → ExAt (fun b => b < base) w (.mk o ⟨k, n, t⟩ tb nm sl kd ag) (.slice a ag.length cap) → l.length + W + 3 ≤ 990000 → Calls Tryz.prog 115 #[.pointer (some ⟨T, 0, none⟩), .int .u8 op, .agg (bx o k n t tb nm sl kd (.slice a ag.length cap))] w (Told1 base T vv l c w (aggT (Ps.aggs.find? fun a => a.1 == op) ts) (match Ps.aggs.find? fun a => a.1 == op with | some _ => c' | none => c))) := fun wx vx lx h1 h2 h3 => by
    have := aggregate_told op o k n t tb nm sl kd ag HX wx base T vx lx c a cap h1 h2 hr (by rw [hW]; exact h3) hc
    rw [hl2, hc2] at this
    exact this
  have HT := hide (show oneT op (.mk o ⟨k, n, t⟩ tb nm sl kd ag) c = if op = 17 then (Ps.kw [110, 111, 116] :: Ps.par (decide (Ps.rank o < 2)) ts, c') else if op = 18 then (negT (.mk o ⟨k, n, t⟩ tb nm sl kd ag) ts, c') else if op = 19 then (Ps.par (decide (Ps.rank o < 4)) ts ++ [Ps.kw [105, 115], Ps.kw [110, 117, 108, 108]], c') else if op = 20 then (Ps.par (decide (Ps.rank o < 4)) ts ++ [Ps.kw [105, 115], Ps.kw [110, 111, 116], Ps.kw [110, 117, 108, 108]], c') else (aggT (Ps.aggs.find? fun a => a.1 == op) ts, match Ps.aggs.find? fun a => a.1 == op with | some _ => c' | none => c) by rw [oneT, hl2, hc2]; rfl)
  rw [hW] at hl
  clear HX hr hc hl2 hc2 h hx EX hW
  obtain ⟨cz, hcz⟩ : ∃ cz, cz = (match Ps.aggs.find? fun a => a.1 == op with | some _ => c' | none => c) := ⟨_, rfl⟩
  rw [← hcz] at AG HT
  clear hcz
  obtain ⟨z, hz⟩ : ∃ z, z = oneT op (.mk o ⟨k, n, t⟩ tb nm sl kd ag) c := ⟨_, rfl⟩
  rw [← hz] at HT ⊢
  clear hz
  by_cases o17 : op = 17
  · subst o17
    have e := HT.out
    rw [if_pos rfl] at e
    subst e
    clear HT NG AG
    go_enter Tryz.func70, Tryz.ntmps70
    go_wp2_with (first
      | (go_at_call 113; refine (OP.out _ _ _ 2 H1.out X1.out (by simp only [List.length_append, List.length_map, List.length_cons, List.length_nil]; omega)).mono ?_; rintro e w2 ⟨rfl, v2, h2, t2⟩; have H2 := hide h2; have T2 := hide (T1.out.trans t2); clear h2)
      | (go_at_call 88; refine (say_new _ base T vv l c H0.out [[110, 111, 116]] _ rfl (by decide) (by omega) (by simp only [List.length_cons, List.length_nil]; decide) rfl (by simp)).mono ?_; rintro e w1 ⟨rfl, v1, h1, t1⟩; have H1 := hide h1; have T1 := hide (T0.out.trans t1); have X1 := hide (ExAt.keep (t1.kept H0.out) (fun _ hk _ => hk) _ _ X0.out); have B1 := t1.keeps B0.out F0; have F1 := t1.far (Array.getElem?_eq_some_iff.1 B0.out).1 F0; obtain ⟨⟨xa0, xa1, xa2, xa3, xa4, xa5, xa6, xa7, xa8⟩, _, _⟩ := sl9 B1; clear h1))
    exact bodyPost_end (v := .tuple #[]) (by simp [results, Tryz.results70]) rfl ⟨rfl, _, by have := H2.out; rw [List.append_assoc] at this; simpa using this, T2.out⟩
  by_cases o18 : op = 18
  · subst o18
    have e := HT.out
    rw [if_neg (by decide), if_pos rfl] at e
    subst e
    clear HT OP AG
    go_enter Tryz.func70, Tryz.ntmps70
    go_wp2_with (first
      | (go_at_call 114; refine (NG.out _ _ _ H0.out X0.out (by omega)).mono ?_; rintro e w1 ⟨rfl, v1, h1, t1⟩; have H1 := hide h1; have T1 := hide (T0.out.trans t1); clear h1))
    exact bodyPost_end (v := .tuple #[]) (by simp [results, Tryz.results70]) rfl ⟨rfl, _, by have := H1.out; simpa using this, T1.out⟩
  by_cases o19 : op = 19
  · subst o19
    have e := HT.out
    rw [if_neg (by decide), if_neg (by decide), if_pos rfl] at e
    subst e
    clear HT NG AG
    go_enter Tryz.func70, Tryz.ntmps70
    go_wp2_with (first
      | (go_at_call 88; refine (say_new _ base T v1 _ c' H1.out [[105, 115], [110, 117, 108, 108]] _ rfl (by decide) (by have := par_le (decide (Ps.rank o < 4)) ts; simp only [List.length_append]; omega) (by simp only [List.length_cons, List.length_nil]; decide) rfl rfl).mono ?_; rintro e w2 ⟨rfl, v2, h2, t2⟩; have H2 := hide h2; have T2 := hide (T1.out.trans t2); clear h2)
      | (go_at_call 113; refine (OP.out _ _ _ 4 H0.out X0.out (by omega)).mono ?_; rintro e w1 ⟨rfl, v1, h1, t1⟩; have H1 := hide h1; have T1 := hide (T0.out.trans t1); clear h1))
    exact bodyPost_end (v := .tuple #[]) (by simp [results, Tryz.results70]) rfl ⟨rfl, _, by have := H2.out; rw [List.append_assoc] at this; simpa using this, T2.out⟩
  by_cases o20 : op = 20
  · subst o20
    have e := HT.out
    rw [if_neg (by decide), if_neg (by decide), if_neg (by decide), if_pos rfl] at e
    subst e
    clear HT NG AG
    go_enter Tryz.func70, Tryz.ntmps70
    go_wp2_with (first
      | (go_at_call 88; refine (say_new _ base T v1 _ c' H1.out [[105, 115], [110, 111, 116], [110, 117, 108, 108]] _ rfl (by decide) (by have := par_le (decide (Ps.rank o < 4)) ts; simp only [List.length_append]; omega) (by simp only [List.length_cons, List.length_nil]; decide) rfl rfl).mono ?_; rintro e w2 ⟨rfl, v2, h2, t2⟩; have H2 := hide h2; have T2 := hide (T1.out.trans t2); clear h2)
      | (go_at_call 113; refine (OP.out _ _ _ 4 H0.out X0.out (by omega)).mono ?_; rintro e w1 ⟨rfl, v1, h1, t1⟩; have H1 := hide h1; have T1 := hide (T0.out.trans t1); clear h1))
    exact bodyPost_end (v := .tuple #[]) (by simp [results, Tryz.results70]) rfl ⟨rfl, _, by have := H2.out; rw [List.append_assoc] at this; simpa using this, T2.out⟩
  · have e := HT.out
    rw [if_neg o17, if_neg o18, if_neg o19, if_neg o20] at e
    subst e
    clear HT NG OP
    go_enter Tryz.func70, Tryz.ntmps70
    go_wp2_with (first
      | (go_at_call 115; refine (AG.out _ _ _ H0.out X0.out (by omega)).mono ?_; rintro e w1 ⟨rfl, v1, h1, t1⟩; have H1 := hide h1; have T1 := hide (T0.out.trans t1); clear h1))
    exact bodyPost_end (v := .tuple #[]) (by simp [results, Tryz.results70]) rfl ⟨rfl, _, by have := H1.out; simpa using this, T1.out⟩
/-- What an operation of two is told as. -/
def twoT (op : Int) (x y : Ps.Ex) (c : Nat) : List Lx.Tk × Nat := match Ps.opOf op with
  | none => ([], c)
  | some o =>
    let a := Ps.tellE x c
    let b := Ps.tellE y a.2
    (Ps.par (decide (Ps.rank (Ps.opX x) < (if o.2 = 3 then 4 else o.2))) a.1 ++ [Ps.kw o.1] ++ Ps.par (decide (Ps.rank (Ps.opX y) < o.2 + 1)) b.1, b.2)
theorem ops_ne (op : Int) (s : List UInt8) (k : Nat) (h : Ps.opOf op = some (s, k)) : s ≠ [] := by
  unfold Ps.opOf at h
  rw [Option.map_eq_some_iff] at h
  obtain ⟨⟨a, b⟩, h1, h2⟩ := h
  have hm := List.mem_of_find?_eq_some h1
  subst h2
  have hall : ∀ x ∈ Ps.ops, x.2.1 ≠ [] := by decide
  exact hall _ hm
set_option maxRecDepth 100000 in
set_option maxHeartbeats 3200000 in
theorem ofTwo_told (op : Int) (o k n : Int) (t : ByteArray) (tb nm : List UInt8) (sl kd : Int) (ag : List Ps.Ex) (HX : TellsE (.mk o ⟨k, n, t⟩ tb nm sl kd ag)) (o2 k2 n2 : Int) (t2 : ByteArray) (tb2 nm2 : List UInt8) (sl2 kd2 : Int) (ag2 : List Ps.Ex) (HX2 : TellsE (.mk o2 ⟨k2, n2, t2⟩ tb2 nm2 sl2 kd2 ag2)) (w : World) (base T : Nat) (vv : Value) (l : List Lx.Tk) (c : Nat) (a : Option Addr) (cap : Nat) (a2 : Option Addr) (cap2 : Nat) (h : Tl w base T vv l c) (hx : ExAt (fun b => b < base) w (.mk o ⟨k, n, t⟩ tb nm sl kd ag) (.slice a ag.length cap)) (hr : rngE (.mk o ⟨k, n, t⟩ tb nm sl kd ag)) (hx2 : ExAt (fun b => b < base) w (.mk o2 ⟨k2, n2, t2⟩ tb2 nm2 sl2 kd2 ag2) (.slice a2 ag2.length cap2)) (hr2 : rngE (.mk o2 ⟨k2, n2, t2⟩ tb2 nm2 sl2 kd2 ag2))
    (hl : l.length + wtE (.mk o ⟨k, n, t⟩ tb nm sl kd ag) + wtE (.mk o2 ⟨k2, n2, t2⟩ tb2 nm2 sl2 kd2 ag2) + 6 ≤ 990000) (hc : c + wtE (.mk o ⟨k, n, t⟩ tb nm sl kd ag) ≤ 1000000000) (hc3 : (Ps.tellE (.mk o ⟨k, n, t⟩ tb nm sl kd ag) c).2 + wtE (.mk o2 ⟨k2, n2, t2⟩ tb2 nm2 sl2 kd2 ag2) ≤ 1000000000) :
    Calls Tryz.prog 71 #[.pointer (some ⟨T, 0, none⟩), .int .u8 op, .agg (bx o k n t tb nm sl kd (.slice a ag.length cap)), .agg (bx o2 k2 n2 t2 tb2 nm2 sl2 kd2 (.slice a2 ag2.length cap2))] w (Told1 base T vv l c w (twoT op (.mk o ⟨k, n, t⟩ tb nm sl kd ag) (.mk o2 ⟨k2, n2, t2⟩ tb2 nm2 sl2 kd2 ag2) c).1 (twoT op (.mk o ⟨k, n, t⟩ tb nm sl kd ag) (.mk o2 ⟨k2, n2, t2⟩ tb2 nm2 sl2 kd2 ag2) c).2) := by
  have HB := (((Below.refl w.heap.size w).alloc (Nat.le_refl _) (.cells (bx o k n t tb nm sl kd (.slice a ag.length cap)) 34)).alloc (by simp) (.cells (bx o2 k2 n2 t2 tb2 nm2 sl2 kd2 (.slice a2 ag2.length cap2)) 34))
  have H0 := hide (h.later HB)
  have T0 := hide ((Ts.refl T vv w).later HB)
  have F0 := h.far (Nat.le_refl w.heap.size)
  have G0 := h.far (Nat.le_succ w.heap.size)
  have B0 := hide (alloc_keeps (heap_new (w := w) (cs := (bx o k n t tb nm sl kd (.slice a ag.length cap))) (T := 34) rfl) (.cells (bx o2 k2 n2 t2 tb2 nm2 sl2 kd2 (.slice a2 ag2.length cap2)) 34))
  have D0 : Hid (((w.alloc (.cells (bx o k n t tb nm sl kd (.slice a ag.length cap)) 34)).alloc (.cells (bx o2 k2 n2 t2 tb2 nm2 sl2 kd2 (.slice a2 ag2.length cap2)) 34)).heap[w.heap.size + 1]? = _) := hide (heap_new (w := w.alloc (.cells (bx o k n t tb nm sl kd (.slice a ag.length cap)) 34)) (cs := (bx o2 k2 n2 t2 tb2 nm2 sl2 kd2 (.slice a2 ag2.length cap2))) (T := 34) (by simp))
  have X0 := hide (ExAt.keep (Kept.of HB) (fun _ hk _ => hk) _ _ hx)
  have Y0 := hide (ExAt.keep (Kept.of HB) (fun _ hk _ => hk) _ _ hx2)
  obtain ⟨ts, c', W, _, hl2, hc2, hts, hW⟩ : ∃ ts c' W, Hid (∀ (w : World) (vv : Value) (l : List Lx.Tk), Tl w base T vv l c → ExAt (fun b => b < base) w (.mk o ⟨k, n, t⟩ tb nm sl kd ag) (.slice a ag.length cap) → l.length + W ≤ 990000 → Calls Tryz.prog 46 #[.pointer (some ⟨T, 0, none⟩), .agg (bx o k n t tb nm sl kd (.slice a ag.length cap))] w (Told1 base T vv l c w ts c')) ∧ (Ps.tellE (.mk o ⟨k, n, t⟩ tb nm sl kd ag) c).1 = ts ∧ (Ps.tellE (.mk o ⟨k, n, t⟩ tb nm sl kd ag) c).2 = c' ∧ ts.length ≤ W ∧ wtE (.mk o ⟨k, n, t⟩ tb nm sl kd ag) = W := ⟨_, _, _, fun w vv l h1 h2 h3 => HX w base T vv l c a cap h1 h2 hr h3 hc, rfl, rfl, tell_len _ _, rfl⟩
  obtain ⟨ts2, c2, W2, hl3, hc4, hts2, hW2⟩ : ∃ ts2 c2 W2, (Ps.tellE (.mk o2 ⟨k2, n2, t2⟩ tb2 nm2 sl2 kd2 ag2) c').1 = ts2 ∧ (Ps.tellE (.mk o2 ⟨k2, n2, t2⟩ tb2 nm2 sl2 kd2 ag2) c').2 = c2 ∧ ts2.length ≤ W2 ∧ wtE (.mk o2 ⟨k2, n2, t2⟩ tb2 nm2 sl2 kd2 ag2) = W2 := ⟨_, _, _, rfl, rfl, tell_len _ _, rfl⟩
  have OP : Hid (∀ (w : World) (vv : Value) (l : List Lx.Tk) (least : Nat), Tl w base T vv l c → ExAt (fun b => b < base) w (.mk o ⟨k, n, t⟩ tb nm sl kd ag) (.slice a ag.length cap) → l.length + W + 2 ≤ 990000 → Calls Tryz.prog 113 #[.pointer (some ⟨T, 0, none⟩), .agg (bx o k n t tb nm sl kd (.slice a ag.length cap)), .int .i64 least] w (Told1 base T vv l c w (Ps.par (decide (Ps.rank o < least)) ts) c')) := fun wx vx lx least h1 h2 h3 => by
    have := operand_told o k n t tb nm sl kd ag HX wx base T vx lx c a cap h1 h2 hr least (by rw [hW]; exact h3) hc
    rw [hl2, hc2] at this
    exact this
  have OQ : Hid (∀ (w : World) (vv : Value) (l : List Lx.Tk) (least : Nat), Tl w base T vv l c' → ExAt (fun b => b < base) w (.mk o2 ⟨k2, n2, t2⟩ tb2 nm2 sl2 kd2 ag2) (.slice a2 ag2.length cap2) → l.length + W2 + 2 ≤ 990000 → Calls Tryz.prog 113 #[.pointer (some ⟨T, 0, none⟩), .agg (bx o2 k2 n2 t2 tb2 nm2 sl2 kd2 (.slice a2 ag2.length cap2)), .int .i64 least] w (Told1 base T vv l c' w (Ps.par (decide (Ps.rank o2 < least)) ts2) c2)) := fun wx vx lx least h1 h2 h3 => by
    have := operand_told o2 k2 n2 t2 tb2 nm2 sl2 kd2 ag2 HX2 wx base T vx lx c' a2 cap2 h1 h2 hr2 least (by rw [hW2]; exact h3) (by rw [← hc2]; exact hc3)
    rw [hl3, hc4] at this
    exact this
  have HT := hide (show twoT op (.mk o ⟨k, n, t⟩ tb nm sl kd ag) (.mk o2 ⟨k2, n2, t2⟩ tb2 nm2 sl2 kd2 ag2) c = match Ps.opOf op with | none => ([], c) | some o' => (Ps.par (decide (Ps.rank o < (if o'.2 = 3 then 4 else o'.2))) ts ++ [Ps.kw o'.1] ++ Ps.par (decide (Ps.rank o2 < o'.2 + 1)) ts2, c2) by rw [twoT]; simp only [hl2, hc2, hl3, hc4]; rfl)
  have HNE := hide (ops_ne op)
  have OF := hide (fun wx hx => operationOf_any wx hx op)
  unfold OpOf at OF
  obtain ⟨z, hz⟩ : ∃ z, z = Ps.opOf op := ⟨_, rfl⟩
  rw [← hz] at HT OF HNE
  obtain ⟨R, hR⟩ : ∃ R, R = twoT op (.mk o ⟨k, n, t⟩ tb nm sl kd ag) (.mk o2 ⟨k2, n2, t2⟩ tb2 nm2 sl2 kd2 ag2) c := ⟨_, rfl⟩
  rw [← hR] at HT ⊢
  rw [hW, hW2] at hl
  clear HX hr hc hl2 hc2 h hx hz HX2 hr2 hc3 hl3 hc4 hR hx2 HB hW hW2
  rcases z with _ | ⟨s, kk⟩
  · have e : R = ([], c) := HT.out
    subst e
    clear HT OP OQ HNE
    go_enter Tryz.func71, Tryz.ntmps71
    go_wp2_with (go_at_call 116; refine (OF.out _ H0.out.tab).mono ?_; rintro e w1 ⟨hb, rfl⟩; have H1 := hide (H0.out.later (hb.alloc hb.size (.cells #[.int .u8 0, .string ⟨#[]⟩, .int .i64 0] 156))); have T1 := hide (T0.out.later (hb.alloc hb.size (.cells #[.int .u8 0, .string ⟨#[]⟩, .int .i64 0] 156))))
    exact bodyPost_end (v := .tuple #[]) (by simp [results, Tryz.results71]) rfl ⟨rfl, _, by rw [List.append_nil]; exact H1.out, T1.out⟩
  · have e : R = (Ps.par (decide (Ps.rank o < (if kk = 3 then 4 else kk))) ts ++ [Ps.kw s] ++ Ps.par (decide (Ps.rank o2 < kk + 1)) ts2, c2) := HT.out
    subst e
    have hs0 := HNE.out s kk rfl
    have hne : ∀ x ∈ [s], x ≠ [] := by intro x hx; rw [List.mem_singleton] at hx; subst hx; exact hs0
    clear HT HNE hs0
    have hp1 := par_le (decide (Ps.rank o < (if kk = 3 then 4 else kk))) ts
    by_cases k3 : kk = 3
    · subst k3
      rw [if_pos rfl] at hp1 ⊢
      go_enter Tryz.func71, Tryz.ntmps71
      go_wp2_with (first
        | (go_at_call 113; refine (OQ.out _ _ _ 4 H3.out Y3.out (by simp only [List.length_append, List.length_map, List.length_cons, List.length_nil]; omega)).mono ?_; rintro e w4 ⟨rfl, v4, h4, t4⟩; have H4 := hide h4; have T4 := hide (T3.out.trans t4); clear h4)
        | (go_at_call 88; refine (say_new _ base T v2 _ c' H2.out [s] _ rfl hne (by simp only [List.length_append]; omega) (by simp only [List.length_cons, List.length_nil]; decide) rfl rfl).mono ?_; rintro e w3 ⟨rfl, v3, h3, t3⟩; have H3 := hide h3; have T3 := hide (T2.out.trans t3); have Y3 := hide (ExAt.keep (t3.kept H2.out) (fun _ hk _ => hk) _ _ Y2.out); have D3 := t3.keeps D2 K2; have E3 := t3.keeps E2 L2; obtain ⟨ga0, ga1, ga2, _⟩ := sl3 E3; obtain ⟨⟨ya0, ya1, ya2, ya3, ya4, ya5, ya6, ya7, ya8⟩, _, _⟩ := sl9 D3; clear h3)
        | (go_at_call 113; refine (OP.out _ _ _ 4 H1.out X1.out (by omega)).mono ?_; rintro e w2 ⟨rfl, v2, h2, t2⟩; have H2 := hide h2; have T2 := hide (T1.out.trans t2); have Y2 := hide (ExAt.keep (t2.kept H1.out) (fun _ hk _ => hk) _ _ Y1.out); have D2 := t2.keeps D1 G0; have E2 := t2.keeps E1 G1; have K2 := t2.far (Array.getElem?_eq_some_iff.1 D1).1 G0; have L2 := t2.far (Array.getElem?_eq_some_iff.1 E1).1 G1; obtain ⟨fa0, fa1, fa2, _⟩ := sl3 E2; clear h2)
        | (go_at_call 116; refine (OF.out _ H0.out.tab).mono ?_; rintro e w1 ⟨hb, hk5, rfl⟩; have HB1 := (hb.alloc hb.size (.cells #[.int .u8 op, .string ⟨s.toArray⟩, .int .i64 3] 156)); have H1 := hide (H0.out.later HB1); have T1 := hide (T0.out.later HB1); have X1 := hide (ExAt.keep (Kept.of HB1) (fun _ hk _ => hk) _ _ X0.out); have Y1 := hide (ExAt.keep (Kept.of HB1) (fun _ hk _ => hk) _ _ Y0.out); have B1 := (HB1.block _ (by simp; omega)).trans B0.out; have D1 := (HB1.block _ (by simp)).trans D0.out; have E1 : (w1.alloc (.cells #[.int .u8 op, .string ⟨s.toArray⟩, .int .i64 3] 156)).heap[w1.heap.size]? = _ := (heap_new (w := w1) (cs := #[.int .u8 op, .string ⟨s.toArray⟩, .int .i64 3]) (T := 156) rfl); have G1 := (H0.out.later hb).far (Nat.le_refl w1.heap.size); obtain ⟨⟨xa0, xa1, xa2, xa3, xa4, xa5, xa6, xa7, xa8⟩, _, _⟩ := sl9 B1; obtain ⟨ea0, ea1, ea2, _⟩ := sl3 E1; clear hb HB1))
      exact bodyPost_end (v := .tuple #[]) (by simp [results, Tryz.results71]) rfl ⟨rfl, _, by have := H4.out; rw [List.append_assoc, List.append_assoc] at this; simpa using this, T4.out⟩
    · have k3i : ¬ (kk : Int) = 3 := by omega
      rw [if_neg k3] at hp1 ⊢
      go_enter Tryz.func71, Tryz.ntmps71
      go_wp2_with (first
        | (go_at_call 113; refine (OQ.out _ _ _ (kk + 1) H3.out Y3.out (by simp only [List.length_append, List.length_map, List.length_cons, List.length_nil]; omega)).mono ?_; rintro e w4 ⟨rfl, v4, h4, t4⟩; have H4 := hide h4; have T4 := hide (T3.out.trans t4); clear h4)
        | (go_at_call 88; refine (say_new _ base T v2 _ c' H2.out [s] _ rfl hne (by simp only [List.length_append]; omega) (by simp only [List.length_cons, List.length_nil]; decide) rfl rfl).mono ?_; rintro e w3 ⟨rfl, v3, h3, t3⟩; have H3 := hide h3; have T3 := hide (T2.out.trans t3); have Y3 := hide (ExAt.keep (t3.kept H2.out) (fun _ hk _ => hk) _ _ Y2.out); have D3 := t3.keeps D2 K2; have E3 := t3.keeps E2 L2; obtain ⟨ga0, ga1, ga2, _⟩ := sl3 E3; obtain ⟨⟨ya0, ya1, ya2, ya3, ya4, ya5, ya6, ya7, ya8⟩, _, _⟩ := sl9 D3; clear h3)
        | (go_at_call 113; refine (OP.out _ _ _ kk H1.out X1.out (by omega)).mono ?_; rintro e w2 ⟨rfl, v2, h2, t2⟩; have H2 := hide h2; have T2 := hide (T1.out.trans t2); have Y2 := hide (ExAt.keep (t2.kept H1.out) (fun _ hk _ => hk) _ _ Y1.out); have D2 := t2.keeps D1 G0; have E2 := t2.keeps E1 G1; have K2 := t2.far (Array.getElem?_eq_some_iff.1 D1).1 G0; have L2 := t2.far (Array.getElem?_eq_some_iff.1 E1).1 G1; obtain ⟨fa0, fa1, fa2, _⟩ := sl3 E2; clear h2)
        | (go_at_call 116; refine (OF.out _ H0.out.tab).mono ?_; rintro e w1 ⟨hb, hk5, rfl⟩; have HB1 := (hb.alloc hb.size (.cells #[.int .u8 op, .string ⟨s.toArray⟩, .int .i64 kk] 156)); have H1 := hide (H0.out.later HB1); have T1 := hide (T0.out.later HB1); have X1 := hide (ExAt.keep (Kept.of HB1) (fun _ hk _ => hk) _ _ X0.out); have Y1 := hide (ExAt.keep (Kept.of HB1) (fun _ hk _ => hk) _ _ Y0.out); have B1 := (HB1.block _ (by simp; omega)).trans B0.out; have D1 := (HB1.block _ (by simp)).trans D0.out; have E1 : (w1.alloc (.cells #[.int .u8 op, .string ⟨s.toArray⟩, .int .i64 kk] 156)).heap[w1.heap.size]? = _ := (heap_new (w := w1) (cs := #[.int .u8 op, .string ⟨s.toArray⟩, .int .i64 kk]) (T := 156) rfl); have G1 := (H0.out.later hb).far (Nat.le_refl w1.heap.size); obtain ⟨⟨xa0, xa1, xa2, xa3, xa4, xa5, xa6, xa7, xa8⟩, _, _⟩ := sl9 B1; obtain ⟨ea0, ea1, ea2, _⟩ := sl3 E1; clear hb HB1))
      exact bodyPost_end (v := .tuple #[]) (by simp [results, Tryz.results71]) rfl ⟨rfl, _, by have := H4.out; rw [List.append_assoc, List.append_assoc] at this; simpa using this, T4.out⟩
end Go.Proofs.YtedamaccflhmfaaGreatDoor
