/-
  Package parser: the teller's literals, columns and the like; as. .. and what follows from it.
-/
import Derived.Test.YtedamaccflhmfaaGreatDoorXTa
namespace Go.Proofs.YtedamaccflhmfaaGreatDoor
open Go.RowKit
attribute [local go_sem ↓] Go.wp_at_zero Go.wp_at_succ

theorem say_new (w : World) (base T : Nat) (v : Value) (l : List Lx.Tk) (c : Nat) (h : Tl w base T v l c) (ss : List (List UInt8)) (n : Nat) (hn : n = ss.length) (hne : ∀ s ∈ ss, s ≠ []) (hl : l.length ≤ 999000) (hs : ss.length ≤ 10) {cs : Array Value} (hc : cs = (ss.map strV).toArray) {b : Nat} (hb : b = w.heap.size) : Calls Tryz.prog 88 #[.pointer (some ⟨T, 0, none⟩), .slice (some ⟨b, 0, none⟩) n n] (w.alloc (.cells cs 9)) (Told1 base T v l c w (ss.map Ps.kw) c) := by
  subst hn hc hb
  refine (say_told _ base T v l c (h.alloc _) ss w.heap.size ss.length (heap_new rfl) (h.far (Nat.le_refl _)) hne (by omega)).mono ?_
  rintro e w2 ⟨rfl, v2, h2, h3⟩
  exact ⟨rfl, v2, h2, ((Ts.refl T v w).alloc _).trans h3⟩
theorem number_said (w : World) (base T : Nat) (v : Value) (l : List Lx.Tk) (c : Nat) (h : Tl w base T v l c) (hl : l.length ≤ 1000000) (x : Int) (m : Nat) (hx : x = m) : Calls Tryz.prog 146 #[.pointer (some ⟨T, 0, none⟩), .int .u64 x] w (Told1 base T v l c w [Ps.nu m] c) := by
  subst hx
  exact number_told w base T v l c h hl m
/-- A number that may be an Int. -/
def inR (v : Val) : Prop := v.k = 2 → -9223372036854775808 ≤ v.n ∧ v.n ≤ 9223372036854775807
theorem litT_null (n : Int) (t : ByteArray) : Ps.litT ⟨0, n, t⟩ = [Ps.kw [110, 117, 108, 108]] := by simp only [Ps.litT, if_true]
theorem litT_false (t : ByteArray) : Ps.litT ⟨1, 0, t⟩ = [Ps.kw [102, 97, 108, 115, 101]] := by unfold Ps.litT; rw [if_neg (show ¬ (1 : Int) = 0 by decide), if_pos rfl, if_pos rfl]
theorem litT_true {n : Int} (h : ¬ n = 0) (t : ByteArray) : Ps.litT ⟨1, n, t⟩ = [Ps.kw [116, 114, 117, 101]] := by unfold Ps.litT; rw [if_neg (show ¬ (1 : Int) = 0 by decide), if_pos rfl]; show [Ps.kw (if n = 0 then _ else _)] = _; rw [if_neg h]
theorem litT_neg {n : Int} (h : n < 0) (t : ByteArray) : Ps.litT ⟨2, n, t⟩ = [Ps.kw [45], Ps.nu (-n).toNat] := by unfold Ps.litT; rw [if_neg (show ¬ (2 : Int) = 0 by decide), if_neg (show ¬ (2 : Int) = 1 by decide), if_pos rfl]; exact if_pos h
theorem litT_pos {n : Int} (h : ¬ n < 0) (t : ByteArray) : Ps.litT ⟨2, n, t⟩ = [Ps.nu n.toNat] := by unfold Ps.litT; rw [if_neg (show ¬ (2 : Int) = 0 by decide), if_neg (show ¬ (2 : Int) = 1 by decide), if_pos rfl]; exact if_neg h
theorem litT_text (n : Int) (t : ByteArray) : Ps.litT ⟨3, n, t⟩ = [⟨3, t.data.toList, 0, 0⟩] := by unfold Ps.litT; rw [if_neg (show ¬ (3 : Int) = 0 by decide), if_neg (show ¬ (3 : Int) = 1 by decide), if_neg (show ¬ (3 : Int) = 2 by decide), if_pos rfl]
theorem litT_no {k : Int} (h0 : ¬ k = 0) (h1 : ¬ k = 1) (h2 : ¬ k = 2) (h3 : ¬ k = 3) (n : Int) (t : ByteArray) : Ps.litT ⟨k, n, t⟩ = [] := by unfold Ps.litT; rw [if_neg h0, if_neg h1, if_neg h2, if_neg h3]
set_option maxRecDepth 100000 in
set_option maxHeartbeats 800000 in
theorem literal_told (w : World) (base T : Nat) (v : Value) (l : List Lx.Tk) (c : Nat) (h : Tl w base T v l c) (hl : l.length ≤ 999000) (k n : Int) (t : ByteArray) (hr : inR ⟨k, n, t⟩) : Calls Tryz.prog 112 #[.pointer (some ⟨T, 0, none⟩), .agg #[.int .u8 k, .int .i64 n, .string t]] w (Told1 base T v l c w (Ps.litT ⟨k, n, t⟩) c) := by
  have H0 := hide (h.alloc (.cells #[.int .u8 k, .int .i64 n, .string t] 31))
  have T0 := hide ((Ts.refl T v w).alloc (.cells #[.int .u8 k, .int .i64 n, .string t] 31))
  have F0 := h.far (Nat.le_refl w.heap.size)
  clear h
  have hr2 : k = 2 → -9223372036854775808 ≤ n ∧ n ≤ 9223372036854775807 := hr
  clear hr
  by_cases k0 : k = 0
  · subst k0
    rw [litT_null]
    clear hr2
    go_enter Tryz.func112, Tryz.ntmps112
    go_wp2_with (go_at_call 88; refine (say_new _ base T v l c H0.out [[110, 117, 108, 108]] _ rfl (by decide) hl (by decide) rfl (by simp)).mono ?_; rintro e w2 ⟨rfl, v2, h2, h3⟩; have H2 := hide h2; clear h2)
    exact bodyPost_end (v := .tuple #[]) (by simp [results, Tryz.results112]) rfl ⟨rfl, _, H2.out, T0.out.trans h3⟩
  by_cases k1 : k = 1
  · subst k1
    clear hr2
    by_cases n0 : n = 0
    · subst n0
      rw [litT_false]
      go_enter Tryz.func112, Tryz.ntmps112
      go_wp2_with (go_at_call 88; refine (say_new _ base T v l c H0.out [[102, 97, 108, 115, 101]] _ rfl (by decide) hl (by decide) rfl (by simp)).mono ?_; rintro e w2 ⟨rfl, v2, h2, h3⟩; have H2 := hide h2; clear h2)
      exact bodyPost_end (v := .tuple #[]) (by simp [results, Tryz.results112]) rfl ⟨rfl, _, H2.out, T0.out.trans h3⟩
    · rw [litT_true n0]
      go_enter Tryz.func112, Tryz.ntmps112
      go_wp2_with (go_at_call 88; refine (say_new _ base T v l c H0.out [[116, 114, 117, 101]] _ rfl (by decide) hl (by decide) rfl (by simp)).mono ?_; rintro e w2 ⟨rfl, v2, h2, h3⟩; have H2 := hide h2; clear h2)
      exact bodyPost_end (v := .tuple #[]) (by simp [results, Tryz.results112]) rfl ⟨rfl, _, H2.out, T0.out.trans h3⟩
  by_cases k2 : k = 2
  · subst k2
    obtain ⟨hr3, hr4⟩ := hr2 rfl
    by_cases n0 : n < 0
    · rw [litT_neg n0]
      have hw1 : IntKind.u64.wrap n = n + 18446744073709551616 := by simp [IntKind.wrap, IntKind.bits, IntKind.signed]; omega
      have hw2 : IntKind.u64.wrap (-(n + 18446744073709551616)) = -n := by simp [IntKind.wrap, IntKind.bits, IntKind.signed]; omega
      go_enter Tryz.func112, Tryz.ntmps112
      go_wp2_with (first
        | (go_at_call 88; refine (say_new _ base T v l c H0.out [[45]] _ rfl (by decide) hl (by decide) rfl (by simp)).mono ?_; rintro e w2 ⟨rfl, v2, h2, h3⟩; have H2 := hide h2; have C2 := h3.keeps (heap_new rfl) F0; have c20 := Joins.cell_of_block C2 0; have c21 := Joins.cell_of_block C2 1; have c22 := Joins.cell_of_block C2 2; clear h2)
        | (go_at_call 146; refine (number_said _ base T v2 _ c H2.out (by simp only [List.length_append, List.length_map, List.length_cons, List.length_nil]; omega) (-n) (-n).toNat (by omega)).mono ?_; rintro e w3 ⟨rfl, v3, h4, h5⟩; have H4 := hide h4; clear h4))
      exact bodyPost_end (v := .tuple #[]) (by simp [results, Tryz.results112]) rfl ⟨rfl, _, by have := H4.out; rw [List.append_assoc] at this; exact this, T0.out.trans (h3.trans h5)⟩
    · rw [litT_pos n0]
      have hw1 : IntKind.u64.wrap n = n := by simp [IntKind.wrap, IntKind.bits, IntKind.signed]; omega
      go_enter Tryz.func112, Tryz.ntmps112
      go_wp2_with (go_at_call 146; refine (number_said _ base T v _ c H0.out (by omega) n n.toNat (by omega)).mono ?_; rintro e w3 ⟨rfl, v3, h4, h5⟩; have H4 := hide h4; clear h4)
      exact bodyPost_end (v := .tuple #[]) (by simp [results, Tryz.results112]) rfl ⟨rfl, _, H4.out, T0.out.trans h5⟩
  by_cases k3 : k = 3
  · subst k3
    rw [litT_text]
    have A := hide (fun wx hx => add_any wx base T v l c hx (by omega) 3 t.data.toList 0 0)
    rw [show (⟨t.data.toList.toArray⟩ : ByteArray) = t from by simp] at A
    go_enter Tryz.func112, Tryz.ntmps112
    go_wp2_with (go_at_call 150; refine (A.out _ H0.out).mono ?_; rintro e w3 ⟨rfl, v3, h4, h5⟩; have H4 := hide h4; clear h4)
    exact bodyPost_end (v := .tuple #[]) (by simp [results, Tryz.results112]) rfl ⟨rfl, _, H4.out, T0.out.trans h5⟩
  · rw [litT_no k0 k1 k2 k3]
    go_enter Tryz.func112, Tryz.ntmps112
    go_wp2_with (fail)
    exact bodyPost_end (v := .tuple #[]) (by simp [results, Tryz.results112]) rfl ⟨rfl, v, by rw [List.append_nil]; exact H0.out, T0.out⟩
set_option maxHeartbeats 800000 in
theorem as_told (w : World) (base T : Nat) (v : Value) (l : List Lx.Tk) (c : Nat) (h : Tl w base T v l c) (hl : l.length ≤ 999000) (t : List UInt8) : Calls Tryz.prog 142 #[.pointer (some ⟨T, 0, none⟩), .string ⟨t.toArray⟩] w (Told1 base T v l c w (Ps.asT t) c) := by
  have H0 := hide h
  clear h
  by_cases ht : t = []
  · subst ht
    rw [show Ps.asT [] = [] from rfl]
    go_enter Tryz.func142, Tryz.ntmps142
    go_wp2_with (fail)
    exact bodyPost_end (v := .tuple #[]) (by simp [results, Tryz.results142]) rfl ⟨rfl, v, by rw [List.append_nil]; exact H0.out, Ts.refl _ _ _⟩
  · rw [show Ps.asT t = [Ps.kw [97, 115], Ps.wd t] from if_neg ht]
    obtain ⟨sb, hsb⟩ : ∃ sb : ByteArray, sb = ⟨t.toArray⟩ := ⟨_, rfl⟩
    have hE : sb.toList.isEmpty = false := by
      rw [ByteArray.toList_eq, hsb]
      rcases t with _ | ⟨x, r⟩
      · exact absurd rfl ht
      · rfl
    have N := hide (fun wx v2 l2 hx h2 => name_told wx base T v2 l2 c hx h2 t)
    rw [← hsb] at N ⊢
    clear hsb
    go_enter Tryz.func142, Tryz.ntmps142
    go_wp2_with (first
      | (go_at_call 88; refine (say_new _ base T v l c H0.out [[97, 115]] _ rfl (by decide) hl (by decide) rfl rfl).mono ?_; rintro e w2 ⟨rfl, v2, h2, h3⟩; have H2 := hide h2; clear h2)
      | (go_at_call 89; refine (N.out _ _ _ H2.out (by simp only [List.length_append, List.length_map, List.length_cons, List.length_nil]; omega)).mono ?_; rintro e w3 ⟨rfl, v3, h4, h5⟩; have H4 := hide h4; clear h4))
    exact bodyPost_end (v := .tuple #[]) (by simp [results, Tryz.results142]) rfl ⟨rfl, _, by have := H4.out; rw [List.append_assoc] at this; exact this, h3.trans h5⟩
set_option maxRecDepth 100000 in
set_option maxHeartbeats 1600000 in
theorem ofNone_told (w : World) (base T : Nat) (v : Value) (l : List Lx.Tk) (c : Nat) (h : Tl w base T v l c) (hl : l.length ≤ 998000) (op k n : Int) (t : ByteArray) (tb nm : List UInt8) (sl kd : Int) (S : Value) (hr : inR ⟨k, n, t⟩) : Calls Tryz.prog 69 #[.pointer (some ⟨T, 0, none⟩), .agg #[.int .u8 op, .int .u8 k, .int .i64 n, .string t, .string ⟨tb.toArray⟩, .string ⟨nm.toArray⟩, .int .i64 sl, .int .u8 kd, S]] w (Told1 base T v l c w (Ps.noneT op ⟨k, n, t⟩ tb nm) c) := by
  have H0 := hide (h.alloc (.cells #[.int .u8 op, .int .u8 k, .int .i64 n, .string t, .string ⟨tb.toArray⟩, .string ⟨nm.toArray⟩, .int .i64 sl, .int .u8 kd, S] 34))
  have T0 := hide ((Ts.refl T v w).alloc (.cells #[.int .u8 op, .int .u8 k, .int .i64 n, .string t, .string ⟨tb.toArray⟩, .string ⟨nm.toArray⟩, .int .i64 sl, .int .u8 kd, S] 34))
  have F0 := h.far (Nat.le_refl w.heap.size)
  clear h
  have hl2 : l.length ≤ 999000 := by omega
  have hl3 : l.length ≤ 1000000 := by omega
  have LT := hide (fun wx hx => literal_told wx base T v l c hx hl2 k n t hr)
  clear hr
  by_cases o1 : op = 1
  · subst o1
    rw [show Ps.noneT 1 ⟨k, n, t⟩ tb nm = Ps.litT ⟨k, n, t⟩ from if_pos rfl]
    go_enter Tryz.func69, Tryz.ntmps69
    go_wp2_with (go_at_call 112; refine (LT.out _ H0.out).mono ?_; rintro e w3 ⟨rfl, v3, h4, h5⟩; have H4 := hide h4; clear h4)
    exact bodyPost_end (v := .tuple #[]) (by simp [results, Tryz.results69]) rfl ⟨rfl, _, H4.out, T0.out.trans h5⟩
  clear LT
  by_cases o2 : op = 2
  · subst o2
    have N := hide (fun wx v2 l2 hx h2 => name_told wx base T v2 l2 c hx h2 nm)
    by_cases ht : tb = []
    · subst ht
      rw [show Ps.noneT 2 ⟨k, n, t⟩ [] nm = [Ps.wd nm] from (if_neg (by decide)).trans ((if_pos rfl).trans (if_pos rfl))]
      go_enter Tryz.func69, Tryz.ntmps69
      go_wp2_with (go_at_call 89; refine (N.out _ _ _ H0.out hl3).mono ?_; rintro e w3 ⟨rfl, v3, h4, h5⟩; have H4 := hide h4; clear h4)
      exact bodyPost_end (v := .tuple #[]) (by simp [results, Tryz.results69]) rfl ⟨rfl, _, H4.out, T0.out.trans h5⟩
    · rw [show Ps.noneT 2 ⟨k, n, t⟩ tb nm = [Ps.wd tb, Ps.kw [46], Ps.wd nm] from (if_neg (by decide)).trans ((if_pos rfl).trans (if_neg ht))]
      have M := hide (fun wx v2 l2 hx h2 => name_told wx base T v2 l2 c hx h2 tb)
      obtain ⟨sb, hsb⟩ : ∃ sb : ByteArray, sb = ⟨tb.toArray⟩ := ⟨_, rfl⟩
      have hE : sb.toList.isEmpty = false := by
        rw [ByteArray.toList_eq, hsb]
        rcases tb with _ | ⟨x, r⟩
        · exact absurd rfl ht
        · rfl
      rw [← hsb] at M H0 T0 ⊢
      clear hsb
      go_enter Tryz.func69, Tryz.ntmps69
      go_wp2_with (first
        | (go_at_call 88; refine (say_new _ base T v2 _ c H2.out [[46]] _ rfl (by decide) (by simp only [List.length_append, List.length_cons, List.length_nil]; omega) (by decide) rfl rfl).mono ?_; rintro e w3 ⟨rfl, v3, h4, h5⟩; have H4 := hide h4; have C3 := h5.keeps C2 F2; obtain ⟨⟨ya0, ya1, ya2, ya3, ya4, ya5, ya6, ya7, ya8⟩, _, _⟩ := sl9 C3; clear h4)
        | (go_at_call 89; refine (M.out _ _ _ H0.out hl3).mono ?_; rintro e w2 ⟨rfl, v2, h2, h3⟩; have H2 := hide h2; have C2 := h3.keeps (heap_new rfl) F0; have F2 := h3.far (by simp) F0; obtain ⟨⟨xa0, xa1, xa2, xa3, xa4, xa5, xa6, xa7, xa8⟩, _, _⟩ := sl9 C2; clear h2)
        | (go_at_call 89; refine (N.out _ _ _ H4.out (by simp only [List.length_append, List.length_map, List.length_cons, List.length_nil]; omega)).mono ?_; rintro e w4 ⟨rfl, v4, h6, h7⟩; have H6 := hide h6; clear h6))
      exact bodyPost_end (v := .tuple #[]) (by simp [results, Tryz.results69]) rfl ⟨rfl, _, by have := H6.out; rw [List.append_assoc, List.append_assoc] at this; exact this, T0.out.trans (h3.trans (h5.trans h7))⟩
  by_cases o3 : op = 21
  · subst o3
    rw [show Ps.noneT 21 ⟨k, n, t⟩ tb nm = [Ps.kw [99, 111, 117, 110, 116], Ps.kw [40], Ps.kw [42], Ps.kw [41]] from (if_neg (by decide)).trans ((if_neg (by decide)).trans (if_pos rfl))]
    go_enter Tryz.func69, Tryz.ntmps69
    go_wp2_with (go_at_call 88; refine (say_new _ base T v l c H0.out [[99, 111, 117, 110, 116], [40], [42], [41]] _ rfl (by decide) hl2 (by decide) rfl (by simp)).mono ?_; rintro e w2 ⟨rfl, v2, h2, h3⟩; have H2 := hide h2; clear h2)
    exact bodyPost_end (v := .tuple #[]) (by simp [results, Tryz.results69]) rfl ⟨rfl, _, H2.out, T0.out.trans h3⟩
  · rw [show Ps.noneT op ⟨k, n, t⟩ tb nm = [] from (if_neg o1).trans ((if_neg o2).trans (if_neg o3))]
    go_enter Tryz.func69, Tryz.ntmps69
    go_wp2_with (fail)
    exact bodyPost_end (v := .tuple #[]) (by simp [results, Tryz.results69]) rfl ⟨rfl, v, by rw [List.append_nil]; exact H0.out, T0.out⟩
end Go.Proofs.YtedamaccflhmfaaGreatDoor
namespace Go.Proofs.YtedamaccflhmfaaGreatDoor
open Go.RowKit
attribute [local go_sem ↓] Go.wp_at_zero Go.wp_at_succ

mutual
/-- All numbers in an expression may be Ints, and no operation has more than two operands. -/
def rngE : Ps.Ex → Prop
  | .mk _ v _ _ _ _ ag => inR v ∧ rngL ag ∧ ag.length ≤ 2
def rngL : List Ps.Ex → Prop
  | [] => True
  | x :: r => rngE x ∧ rngL r
end
mutual
/-- So many tokens at most. -/
def wtE : Ps.Ex → Nat
  | .mk _ _ _ _ _ _ ag => 6 + wtL ag
def wtL : List Ps.Ex → Nat
  | [] => 0
  | x :: r => wtE x + wtL r
end
theorem par_len (b : Bool) (l : List Lx.Tk) : (Ps.par b l).length = l.length + (if b then 2 else 0) := by cases b <;> simp [Ps.par]
theorem par_le (b : Bool) (l : List Lx.Tk) : (Ps.par b l).length ≤ l.length + 2 := by rw [par_len]; split <;> omega
theorem litT_len (v : Val) : (Ps.litT v).length ≤ 2 := by
  unfold Ps.litT
  repeat' split
  all_goals simp
theorem noneT_len (op : Int) (v : Val) (tb nm : List UInt8) : (Ps.noneT op v tb nm).length ≤ 4 := by
  have := litT_len v
  unfold Ps.noneT
  repeat' split
  all_goals first | omega | simp
theorem tell_len : ∀ (x : Ps.Ex) (c : Nat), (Ps.tellE x c).1.length ≤ wtE x
  | .mk op v tb nm _ _ [], c => by
    have := noneT_len op v tb nm
    rw [Ps.tellE, wtE, wtL]
    split
    · simp
    · show (Ps.noneT op v tb nm).length ≤ _; omega
  | .mk op _ _ _ _ _ [x], c => by
    have h1 := tell_len x (c + 1)
    have h2 := fun b => par_le b (Ps.tellE x (c + 1)).1
    rw [Ps.tellE, wtE, wtL, wtL]
    split
    · simp
    · have h3 := h2 (decide (Ps.rank (Ps.opX x) < 2)); have h4 := h2 (Ps.posLit x || decide (Ps.rank (Ps.opX x) < 6)); have h5 := h2 (decide (Ps.rank (Ps.opX x) < 4)); have h6 := h2 true
      repeat' split
      all_goals simp only [List.length_cons, List.length_append, List.length_nil]
      all_goals omega
  | .mk op _ _ _ _ _ [x, y], c => by
    have h1 := tell_len x (c + 1)
    have h2 := tell_len y (Ps.tellE x (c + 1)).2
    rw [Ps.tellE, wtE, wtL, wtL, wtL]
    split
    · simp
    · split
      · simp
      · rename_i o _
        have h3 := par_le (decide (Ps.rank (Ps.opX x) < (if o.2 = 3 then 4 else o.2))) (Ps.tellE x (c + 1)).1
        have h4 := par_le (decide (Ps.rank (Ps.opX y) < o.2 + 1)) (Ps.tellE y (Ps.tellE x (c + 1)).2).1
        simp only [List.length_cons, List.length_append, List.length_nil]
        omega
  | .mk _ _ _ _ _ _ (_ :: _ :: _ :: _), c => by rw [Ps.tellE]; simp
abbrev bx (o k n : Int) (t : ByteArray) (tb nm : List UInt8) (sl kd : Int) (S : Value) : Array Value := #[.int .u8 o, .int .u8 k, .int .i64 n, .string t, .string ⟨tb.toArray⟩, .string ⟨nm.toArray⟩, .int .i64 sl, .int .u8 kd, S]
/-- expr tells that expression so. -/
def TellsE : Ps.Ex → Prop
  | .mk o v tb nm sl kd ag => ∀ (w : World) (base T : Nat) (vv : Value) (l : List Lx.Tk) (c : Nat) (a : Option Addr) (cap : Nat), Tl w base T vv l c → ExAt (fun b => b < base) w (.mk o v tb nm sl kd ag) (.slice a ag.length cap) → rngE (.mk o v tb nm sl kd ag) →
    l.length + wtE (.mk o v tb nm sl kd ag) ≤ 990000 → c + wtE (.mk o v tb nm sl kd ag) ≤ 1000000000 →
    Calls Tryz.prog 46 #[.pointer (some ⟨T, 0, none⟩), .agg (bx o v.k v.n v.t tb nm sl kd (.slice a ag.length cap))] w (Told1 base T vv l c w (Ps.tellE (.mk o v tb nm sl kd ag) c).1 (Ps.tellE (.mk o v tb nm sl kd ag) c).2)
theorem Told1.open {base T : Nat} {v : Value} {l : List Lx.Tk} {c : Nat} {w : World} {ts : List Lx.Tk} {c' : Nat} {e : Ending} {w' : World} (h : Told1 base T v l c w ts c' e w') : e = .returned (.tuple #[]) ∧ ∃ v', Hid (Tl w' base T v' (l ++ ts) c') ∧ Ts T v v' w w' := h
set_option maxRecDepth 100000 in
set_option maxHeartbeats 1600000 in
theorem operand_told (o k n : Int) (t : ByteArray) (tb nm : List UInt8) (sl kd : Int) (ag : List Ps.Ex) (HX : TellsE (.mk o ⟨k, n, t⟩ tb nm sl kd ag)) (w : World) (base T : Nat) (vv : Value) (l : List Lx.Tk) (c : Nat) (a : Option Addr) (cap : Nat) (h : Tl w base T vv l c) (hx : ExAt (fun b => b < base) w (.mk o ⟨k, n, t⟩ tb nm sl kd ag) (.slice a ag.length cap)) (hr : rngE (.mk o ⟨k, n, t⟩ tb nm sl kd ag)) (least : Nat)
    (hl : l.length + wtE (.mk o ⟨k, n, t⟩ tb nm sl kd ag) + 2 ≤ 990000) (hc : c + wtE (.mk o ⟨k, n, t⟩ tb nm sl kd ag) ≤ 1000000000) :
    Calls Tryz.prog 113 #[.pointer (some ⟨T, 0, none⟩), .agg (bx o k n t tb nm sl kd (.slice a ag.length cap)), .int .i64 least] w (Told1 base T vv l c w (Ps.par (decide (Ps.rank o < least)) (Ps.tellE (.mk o ⟨k, n, t⟩ tb nm sl kd ag) c).1) (Ps.tellE (.mk o ⟨k, n, t⟩ tb nm sl kd ag) c).2) := by
  have H0 := hide (h.alloc (.cells (bx o k n t tb nm sl kd (.slice a ag.length cap)) 34))
  have T0 := hide ((Ts.refl T vv w).alloc (.cells (bx o k n t tb nm sl kd (.slice a ag.length cap)) 34))
  have F0 := h.far (Nat.le_refl w.heap.size)
  have B0 := hide (heap_new (w := w) (cs := bx o k n t tb nm sl kd (.slice a ag.length cap)) (T := 34) rfl)
  have X0 := hide (ExAt.keep (Kept.of ((Below.refl w.heap.size w).alloc (Nat.le_refl _) (.cells (bx o k n t tb nm sl kd (.slice a ag.length cap)) 34))) (fun _ hk _ => hk) _ _ hx)
  have RK := hide (fun wx ht => rankOf_any wx ht o)
  obtain ⟨r, hrk⟩ : ∃ r, r = Ps.rank o := ⟨_, rfl⟩
  rw [← hrk] at RK ⊢
  clear hrk h hx
  obtain ⟨ts, c', W, EX, hl2, hc2, hts, hW⟩ : ∃ ts c' W, Hid (∀ (w : World) (vv : Value) (l : List Lx.Tk), Tl w base T vv l c → ExAt (fun b => b < base) w (.mk o ⟨k, n, t⟩ tb nm sl kd ag) (.slice a ag.length cap) → l.length + W ≤ 990000 → Calls Tryz.prog 46 #[.pointer (some ⟨T, 0, none⟩), .agg (bx o k n t tb nm sl kd (.slice a ag.length cap))] w (Told1 base T vv l c w ts c')) ∧ (Ps.tellE (.mk o ⟨k, n, t⟩ tb nm sl kd ag) c).1 = ts ∧ (Ps.tellE (.mk o ⟨k, n, t⟩ tb nm sl kd ag) c).2 = c' ∧ ts.length ≤ W ∧ wtE (.mk o ⟨k, n, t⟩ tb nm sl kd ag) = W := ⟨_, _, _, fun w vv l h1 h2 h3 => HX w base T vv l c a cap h1 h2 hr h3 hc, rfl, rfl, tell_len _ _, rfl⟩
  rw [hW] at hl
  rw [hl2, hc2]
  clear HX hr hc hl2 hc2 hW
  by_cases hle : least ≤ r
  · rw [show decide (r < least) = false from decide_eq_false (by omega), show Ps.par false ts = ts from rfl]
    have hle2 : (least : Int) ≤ (r : Int) := by omega
    go_enter Tryz.func113, Tryz.ntmps113
    go_wp2_with (first
      | (go_at_call 158; refine (RK.out _ H0.out.tab).mono ?_; rintro e w2 ⟨rfl, hb⟩; have H2 := hide (H0.out.later hb); have T2 := hide (T0.out.later hb); have X2 := hide (ExAt.keep (Kept.of hb) (fun _ hk _ => hk) _ _ X0.out); have B2 := (hb.block _ (by simp)).trans B0.out; obtain ⟨⟨xa0, xa1, xa2, xa3, xa4, xa5, xa6, xa7, xa8⟩, _, _⟩ := sl9 B2)
      | (go_at_call 46; refine (EX.out _ _ _ H2.out X2.out (by omega)).mono ?_; rintro e w3 ⟨rfl, v3, h4, h5⟩; have H4 := hide h4; clear h4))
    exact bodyPost_end (v := .tuple #[]) (by simp [results, Tryz.results113]) rfl ⟨rfl, _, H4.out, T2.out.trans h5⟩
  · rw [show decide (r < least) = true from decide_eq_true (by omega), show Ps.par true ts = [Ps.kw [40]] ++ ts ++ [Ps.kw [41]] from rfl]
    have hle2 : ¬ (least : Int) ≤ (r : Int) := by omega
    go_enter Tryz.func113, Tryz.ntmps113
    go_wp2_with (first
      | (go_at_call 88; refine (say_new _ base T v4 _ c' H4.out [[41]] _ rfl (by decide) (by simp only [List.length_append, List.length_map, List.length_cons, List.length_nil]; omega) (by decide) rfl rfl).mono ?_; rintro e w5 ⟨rfl, v5, h5, t5⟩; have H5 := hide h5; have T5 := hide (T4.out.trans t5); clear h5)
      | (go_at_call 46; refine (EX.out _ _ _ H3.out X3.out (by simp only [List.length_append, List.length_map, List.length_cons, List.length_nil]; omega)).mono ?_; rintro e w4 ⟨rfl, v4, h4, t4⟩; have H4 := hide h4; have T4 := hide (T3.out.trans t4); clear h4)
      | (go_at_call 88; refine (say_new _ base T vv l c H2.out [[40]] _ rfl (by decide) (by omega) (by decide) rfl rfl).mono ?_; rintro e w3 ⟨rfl, v3, h3, t3⟩; have H3 := hide h3; have T3 := hide (T2.out.trans t3); have X3 := hide (ExAt.keep (t3.kept H2.out) (fun _ hk _ => hk) _ _ X2.out); have B3 := t3.keeps B2 F0; have F3 := t3.far (Array.getElem?_eq_some_iff.1 B2).1 F0; obtain ⟨⟨xa0, xa1, xa2, xa3, xa4, xa5, xa6, xa7, xa8⟩, _, _⟩ := sl9 B3; clear h3)
      | (go_at_call 158; refine (RK.out _ H0.out.tab).mono ?_; rintro e w2 ⟨rfl, hb⟩; have H2 := hide (H0.out.later hb); have T2 := hide (T0.out.later hb); have X2 := hide (ExAt.keep (Kept.of hb) (fun _ hk _ => hk) _ _ X0.out); have B2 := (hb.block _ (by simp)).trans B0.out))
    exact bodyPost_end (v := .tuple #[]) (by simp [results, Tryz.results113]) rfl ⟨rfl, _, by have := H5.out; rw [List.append_assoc, List.append_assoc] at this; simpa using this, T5.out⟩
end Go.Proofs.YtedamaccflhmfaaGreatDoor
