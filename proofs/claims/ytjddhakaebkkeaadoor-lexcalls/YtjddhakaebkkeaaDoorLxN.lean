/-
  The law's small calls: tokens that are the same, tokens without their places, the chapter's first example.
-/
import Derived.Test.YtjddhakaebkkeaaDoorLxM
namespace Go.Proofs.YtjddhakaebkkeaaDoor
open Go.RowKit
attribute [local go_sem ↓] Go.wp_at_zero Go.wp_at_succ

/-! ### What tokens that are read are like -/
theorem tkcs_get : ∀ (l : List Lx.Tk) (j : Nat) (hj : j < l.length), (tkcs l)[j * 4]? = some (.int .u8 (l[j]).k) ∧ (tkcs l)[j * 4 + 1]? = some (.string ⟨(l[j]).t.toArray⟩) ∧ (tkcs l)[j * 4 + 2]? = some (.int .u64 (l[j]).n) ∧ (tkcs l)[j * 4 + 3]? = some (.int .i64 (l[j]).at')
  | x :: r, 0, _ => ⟨rfl, rfl, rfl, rfl⟩
  | x :: r, j + 1, hj => by
    have ih := tkcs_get r j (by simpa using hj)
    have e : ∀ i, (tkcs (x :: r))[(j + 1) * 4 + i]? = (tkcs r)[j * 4 + i]? := fun i => by
      show (tkc x ++ tkcs r)[(j + 1) * 4 + i]? = _
      rw [List.getElem?_append_right (by show 4 ≤ _; omega)]
      congr 1
      show (j + 1) * 4 + i - 4 = _
      omega
    have e0 := e 0
    rw [Nat.add_zero, Nat.add_zero] at e0
    rw [e0, e 1, e 2, e 3]
    exact ih
theorem TksAt.own {w : World} {base : Nat} {g cap : Nat} {l : List Lx.Tk} (h : w.ownsRow base 27 4 (.slice (some ⟨g, 0, none⟩) l.length cap) l.length (tkcs l)) : TksAt w g 0 l := fun j hj => by
  obtain ⟨e0, e1, e2, e3⟩ := tkcs_get l j hj
  rw [Nat.zero_add, h.cellAt (j * 4) (by omega), h.cellAt (j * 4 + 1) (by omega), h.cellAt (j * 4 + 2) (by omega), h.cellAt (j * 4 + 3) (by omega)]
  exact ⟨e0, e1, e2, e3⟩
theorem TksIn.own {w : World} {base : Nat} {v : Value} {l : List Lx.Tk} (h : w.ownsRow base 27 4 v l.length (tkcs l)) (hw : ∀ x ∈ l, Twf x) : TksIn w v l := by
  rcases h.2 with ⟨rfl, h0⟩ | ⟨g, cap, cur, rfl, _⟩
  · have : l = [] := List.eq_nil_of_length_eq_zero h0
    subst this
    exact ⟨⟨none, 0, rfl, fun _ => rfl, fun h => absurd rfl h⟩, hw⟩
  · exact ⟨⟨_, cap, rfl, (fun e => by cases e), fun _ => ⟨g, 0, rfl, TksAt.own h⟩⟩, hw⟩
theorem may_wf {x : Lx.Tk} (h : Lx.mayT (Lx.unp x) = true) (a0 : 0 ≤ x.at') (a1 : x.at' ≤ 65536) : Twf x := by
  obtain ⟨k, t, n, a⟩ := x
  unfold Lx.mayT Lx.unp at h
  simp only [Bool.and_eq_true, beq_iff_eq, Bool.or_eq_true] at h
  obtain ⟨⟨_, hn⟩, h⟩ := h
  simp only at hn a0 a1
  have hml : (64 : Nat) ≤ maxLen := by unfold maxLen; omega
  split at h
  · rename_i hk
    subst hk
    rw [Lx.isWd_is] at h
    simp only [Bool.and_eq_true, decide_eq_true_eq] at h
    exact ⟨by simp, by simp, by simp only; omega, by simp only; omega, by simp only; omega, by simp only; omega⟩
  · split at h
    · rename_i hk
      subst hk
      simp only [Bool.and_eq_true, decide_eq_true_eq, List.isEmpty_iff] at h
      obtain ⟨rfl, h⟩ := h
      exact ⟨by simp, by simp, by simp only; omega, by simp only; omega, by simp only; omega, by simp⟩
    · split at h
      · rename_i hk
        subst hk
        simp only [Bool.and_eq_true, decide_eq_true_eq] at h
        exact ⟨by simp, by simp, by simp only; omega, by simp only; omega, by simp only; omega, by simp only; omega⟩
      · split at h
        · rename_i hk
          subst hk
          have hl : t ∈ Lx.signs := by unfold Lx.isS at h; simpa using h
          have h2 : t.length ≤ 64 := by
            unfold Lx.signs at hl
            simp only [List.mem_cons, List.not_mem_nil, or_false] at hl
            rcases hl with rfl | rfl | rfl | rfl | rfl | rfl | rfl | rfl | rfl | rfl | rfl | rfl | rfl | rfl | rfl | rfl | rfl <;> decide
          exact ⟨by simp, by simp, by simp only; omega, by simp only; omega, by simp only; omega, by simp only; omega⟩
        · cases h
theorem gs_wf (l : List UInt8) (hl : l.length ≤ 65536) : ∀ (q : List Lx.Tk) (p : Nat), Lx.Gs l q p → (∀ x ∈ q, Twf x ∧ Lx.mayT (Lx.unp x) = true) ∧ q.length ≤ l.length - p
  | [], p, _ => ⟨by simp, by simp⟩
  | x :: r, p, h => by
    unfold Lx.Gs at h
    obtain ⟨s, n, hs, hx, _, hn, hz, hg⟩ := h
    have hm := Lx.next_may hn
    have hw := Lx.next_width hn
    obtain ⟨ih, ihl⟩ := gs_wf l hl r (s + n) hg
    refine ⟨fun y hy => ?_, by simp only [List.length_cons]; omega⟩
    simp only [List.mem_cons] at hy
    rcases hy with rfl | hy
    · exact ⟨may_wf hm (by rw [hx]; omega) (by rw [hx]; omega), hm⟩
    · exact ih y hy
theorem lex_gs {l : List UInt8} {q : List Lx.Tk} (h : Lx.lexA l 0 = .ok q) : Lx.Gs l q 0 :=
  Lx.gs_of l l.length 0 q (by omega) (Nat.zero_le _) (by rw [List.drop_zero]; exact h)

/-! ### The same tokens -/
set_option maxHeartbeats 1600000 in
theorem same_some (w : World) (b off cap b2 off2 cap2 : Nat) (l : List Lx.Tk) (hv : TksAt w b off l) (hv2 : TksAt w b2 off2 l) (hlen : l.length ≤ 1000000) :
    Calls Tryd.prog 9 #[.slice (some ⟨b, off, none⟩) l.length cap, .slice (some ⟨b2, off2, none⟩) l.length cap2] w fun e w' => e = .returned (.bool true) ∧ Below w.heap.size w w' := by
  go_enter Tryd.func9, Tryd.ntmps9
  go_wp2
  go_loopw [5] (fun i wr => ∃ j : Nat, j ≤ l.length ∧ i = .int .i64 j ∧ Below w.heap.size w wr) (fun i _ => l.length - (intOf i).toNat)
  case atStart => exact ⟨0, Nat.zero_le _, rfl, Below.refl _ _⟩
  case round =>
    obtain ⟨j, hj, rfl, hbel⟩ := hrel
    by_cases hlt : j < l.length
    · obtain ⟨d0, d1, d2, d3⟩ := (hv.later hbel) j hlt
      obtain ⟨e0, e1, e2, e3⟩ := (hv2.later hbel) j hlt
      generalize l[j] = c at d0 d1 d2 d3 e0 e1 e2 e3
      obtain ⟨ck, ct, cn, ca⟩ := c
      simp only at d0 d1 d2 d3 e0 e1 e2 e3
      generalize (⟨ct.toArray⟩ : ByteArray) = cs at d1 e1
      clear hv hv2
      go_wp2
      go_quiet (fail)
      go_wp2
      go_roundw
      case rel => exact ⟨j + 1, by omega, by go_num, hbel.trans ⟨rfl, rfl, rfl, Nat.le_refl _, fun _ _ => rfl⟩⟩
      case measure => simp [intOf]; omega
    · go_wp2
      go_ret
      exact ⟨rfl, hbel⟩
set_option maxHeartbeats 800000 in
theorem same_none (w : World) (a a2 : Option Addr) (cap cap2 : Nat) :
    Calls Tryd.prog 9 #[.slice a 0 cap, .slice a2 0 cap2] w fun e w' => e = .returned (.bool true) ∧ w' = w := by
  go_enter Tryd.func9, Tryd.ntmps9
  go_wp2
  refine wp_loop_rounds 1 ?_
  rw [rounds_succ]
  go_wp2
  go_ret
  exact ⟨rfl, rfl⟩
theorem sameT_any (w : World) (v v2 : Value) (l : List Lx.Tk) (h : TksIn w v l) (h2 : TksIn w v2 l) (hlen : l.length ≤ 1000000) :
    Calls Tryd.prog 9 #[v, v2] w fun e w' => e = .returned (.bool true) ∧ Below w.heap.size w w' := by
  obtain ⟨⟨a, cap, rfl, _, hf⟩, _⟩ := h
  obtain ⟨⟨a2, cap2, rfl, _, hf2⟩, _⟩ := h2
  by_cases h0 : l = []
  · subst h0
    refine (same_none w a a2 cap cap2).mono ?_
    rintro e w' ⟨rfl, rfl⟩
    exact ⟨rfl, Below.refl _ _⟩
  · obtain ⟨b, off, rfl, hv⟩ := hf h0
    obtain ⟨b2, off2, rfl, hv2⟩ := hf2 h0
    exact same_some w b off cap b2 off2 cap2 l hv hv2 hlen

/-! ### Tokens without their places -/
theorem tks_cells {w : World} {b off : Nat} {l : List Lx.Tk} (h : TksAt w b off l) : ∀ j u, (tkcs l)[j]? = some u → w.cell? ((⟨b, off, none⟩ : Addr).add j) = some u := by
  intro j u hu
  have hj : j < (tkcs l).length := (List.getElem?_eq_some_iff.1 hu).1
  rw [tkcs_len] at hj
  have hadd : (⟨b, off, none⟩ : Addr).add j = ⟨b, off + j, none⟩ := by unfold Addr.add; split <;> simp_all
  rw [hadd]
  have hq : j / 4 < l.length := by omega
  obtain ⟨e0, e1, e2, e3⟩ := tkcs_get l (j / 4) hq
  obtain ⟨c0, c1, c2, c3⟩ := h (j / 4) hq
  have hr : j % 4 < 4 := Nat.mod_lt _ (by decide)
  have hd : j = j / 4 * 4 + j % 4 := by omega
  generalize j / 4 = q at *
  generalize j % 4 = r at *
  subst hd
  rw [← hu]
  match r, hr with
  | 0, _ => rw [Nat.add_zero, c0, e0]
  | 1, _ => rw [← Nat.add_assoc, c1, e1]
  | 2, _ => rw [← Nat.add_assoc, c2, e2]
  | 3, _ => rw [← Nat.add_assoc, c3, e3]
theorem tkcs_append (a b : List Lx.Tk) : tkcs (a ++ b) = tkcs a ++ tkcs b := by simp [tkcs]
theorem tkcs_one (l : List Lx.Tk) : ∀ u ∈ tkcs l, u.oneCell' = true := by
  intro u hu
  obtain ⟨x, _, hx⟩ := List.mem_flatMap.1 hu
  exact tkc_one x u hx
theorem wpList_app_tks (w : World) {ops : Array Oper} {rest : List Oper} {o : Oper} {a : Act} {Q : Exit → Act → World → Prop} (hg : o.guard = none) (s x : Operand)
    (hop : o.op = .call { callee := .builtin .append, args := #[s, x], argTypes := #[22, 22] })
    (base g cap : Nat) (A B : List Lx.Tk) (n k c : Nat) (hn : n = A.length) (hk : k = B.length) (hs : a.eval s = .slice (some ⟨g, 0, none⟩) n cap) (hown : w.ownsRow base 27 4 (.slice (some ⟨g, 0, none⟩) n cap) n (tkcs A))
    (ao : Option Addr) (hx : a.eval x = .slice ao k c) (hin : B ≠ [] → ∃ b off, ao = some ⟨b, off, none⟩ ∧ TksAt w b off B) (hno : ao = none → c = 0) (hroom : n + k ≤ 1000000) (hbase : base ≤ w.heap.size)
    (h : ∀ g' cap' w', w'.ownsRow base 27 4 (.slice (some ⟨g', 0, none⟩) (n + k) cap') (n + k) (tkcs (A ++ B)) → w.grownBy w' (some g) → wpList Tryd.prog ops Q rest (a.put o.dst (.slice (some ⟨g', 0, none⟩) (n + k) cap')) w') :
    wpList Tryd.prog ops Q (o :: rest) a w := by
  obtain ⟨i0, hi, hz0, hz1, hz2⟩ := info_parts info_tk
  by_cases hb0 : B = []
  · subst hb0
    subst hk
    have hnc : n ≤ cap := by
      rcases hown.2 with ⟨e, _⟩ | ⟨g', cap', cur, e, _, _, hnc, _⟩
      · cases e
      · simp only [Value.slice.injEq] at e; omega
    refine wpList_append_fits_any w hg s x 22 hop base 27 i0 4 Tryd.underlying22 hi hz1 g n cap (tkcs A) hs hown ao 0 c [] hx rfl (fun e => ⟨rfl, hno e⟩) (fun ad _ j u hj => by simp at hj) (by simp) (by omega) ?_
    intro w' h1 h2
    refine h g cap w' ?_ h2
    rw [tkcs_append]
    exact h1
  · obtain ⟨b, off, rfl, ht⟩ := hin hb0
    refine wpList_append_lies w hg s x 22 hop base 27 i0 _ 4 40 Tryd.underlying22 hi hz0 hz1 hz2 rfl (by decide) _ n (tkcs A) hs hown _ k c (tkcs B) hx (by rw [tkcs_len, hk]) (fun j u hu => tks_cells ht j u hu) (tkcs_one B) (by rw [hk]; exact List.length_pos_iff.2 hb0) (by unfold maxLen; omega) (by omega) hbase w.heap.size rfl ?_
    intro g' cap' w' h1 h2 _ _
    refine h g' cap' w' ?_ h2
    rw [tkcs_append]
    exact h1
theorem map_set (l : List Lx.Tk) (j : Nat) (hj : j < l.length) : ((tkcs ((l.take j).map Lx.unp ++ l.drop j)).set (j * 4 + 3) (.int .i64 0)) = tkcs ((l.take (j + 1)).map Lx.unp ++ l.drop (j + 1)) := by
  have hd : l.drop j = l[j] :: l.drop (j + 1) := List.drop_eq_getElem_cons hj
  have ht : l.take (j + 1) = l.take j ++ [l[j]] := List.take_succ_eq_append_getElem hj
  rw [hd, ht, List.map_append, tkcs_append, tkcs_append, tkcs_append]
  have hlen : (tkcs ((l.take j).map Lx.unp)).length = j * 4 := by rw [tkcs_len, List.length_map, List.length_take]; omega
  rw [List.set_append_right _ _ (by omega), hlen, show j * 4 + 3 - j * 4 = 3 from by omega, List.append_assoc]
  rfl

end Go.Proofs.YtjddhakaebkkeaaDoor
