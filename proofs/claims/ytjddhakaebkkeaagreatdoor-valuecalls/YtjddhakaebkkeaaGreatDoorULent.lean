/-
  A list of values that is lent: a copy with three more values behind, in new memory; and whether one is as it was lent.
-/
import Derived.Test.YtjddhakaebkkeaaGreatDoorUSame
import Derived.Test.YtjddhakaebkkeaaGreatDoorUArg
import Derived.Deep.AppendLies
namespace Go.Proofs.YtjddhakaebkkeaaGreatDoor
open Go.RowKit
attribute [local go_sem ↓] Go.wp_at_zero Go.wp_at_succ

theorem Tryz.infoV : (Tryz.prog.info? 29).map (fun i => (i.zero, i.size, i.bytes)) = some (some (.agg #[.int .u8 0, .int .i64 0, .string ByteArray.empty]), 3, 32) := by kernel_rfl

/-- The cells of a list of values. -/
def vc (vs : List Val) : List Value := vs.flatMap fun v => [.int .u8 v.k, .int .i64 v.n, .string v.t]
theorem vc_length (vs : List Val) : (vc vs).length = vs.length * 3 := by
  induction vs with
  | nil => rfl
  | cons v vs ih =>
    have e : vc (v :: vs) = [.int .u8 v.k, .int .i64 v.n, .string v.t] ++ vc vs := by simp [vc]
    rw [e, List.length_append, ih, List.length_cons]; simp; omega
theorem vc_append (a b : List Val) : vc (a ++ b) = vc a ++ vc b := by simp [vc]
theorem vc_get (vs : List Val) (j : Nat) (h : j < vs.length) : (vc vs)[j * 3]? = some (.int .u8 (vs[j]).k) ∧ (vc vs)[j * 3 + 1]? = some (.int .i64 (vs[j]).n) ∧ (vc vs)[j * 3 + 2]? = some (.string (vs[j]).t) := by
  induction vs generalizing j with
  | nil => simp at h
  | cons v vs ih =>
    have e : vc (v :: vs) = [.int .u8 v.k, .int .i64 v.n, .string v.t] ++ vc vs := by simp [vc]
    cases j with
    | zero => rw [e]; exact ⟨rfl, rfl, rfl⟩
    | succ j =>
      have h' : j < vs.length := by simpa using h
      obtain ⟨a, b, c⟩ := ih j h'
      rw [e]
      refine ⟨?_, ?_, ?_⟩
      · rw [List.getElem?_append_right (by simp; omega)]; simpa [show (j + 1) * 3 - 3 = j * 3 from by omega] using a
      · rw [List.getElem?_append_right (by simp; omega)]; simpa [show (j + 1) * 3 + 1 - 3 = j * 3 + 1 from by omega] using b
      · rw [List.getElem?_append_right (by simp; omega)]; simpa [show (j + 1) * 3 + 2 - 3 = j * 3 + 2 from by omega] using c

theorem vals_of_own {w : World} {base : Nat} {v : Value} {vs : List Val} (h : w.ownsRow base 29 3 v vs.length (vc vs)) (hwf : ∀ x ∈ vs, x.wf) (hl : vs.length ≤ 1099511627776000) : ValsIn w v vs := by
  have ho := h
  rcases h.2 with ⟨rfl, h0⟩ | ⟨g, cap, cur, rfl, _⟩
  · exact ⟨⟨none, 0, by rw [h0], fun hne => absurd (List.eq_nil_of_length_eq_zero h0) hne⟩, hwf, hl⟩
  · refine ⟨⟨_, cap, rfl, fun _ => ⟨g, 0, rfl, fun j hj => ?_⟩⟩, hwf, hl⟩
    obtain ⟨a, b, c⟩ := vc_get vs j hj
    rw [Nat.zero_add, ho.cellAt (j * 3) (by omega), ho.cellAt (j * 3 + 1) (by omega), ho.cellAt (j * 3 + 2) (by omega)]
    exact ⟨a, b, c⟩

theorem ValsIn.take {w : World} {a : Option Addr} {cap n : Nat} {vs : List Val} (h : ValsIn w (.slice a vs.length cap) vs) (c : Nat) (hn : n ≤ vs.length) : ValsIn w (.slice a n c) (vs.take n) := by
  obtain ⟨⟨a', cap', e, hf⟩, hwf, hlen⟩ := h
  simp only [Value.slice.injEq, true_and] at e
  obtain ⟨rfl, rfl⟩ := e
  have hl : (vs.take n).length = n := by rw [List.length_take]; omega
  refine ⟨⟨a, c, by rw [hl], fun h0 => ?_⟩, fun v hv => hwf v (List.mem_of_mem_take hv), by omega⟩
  obtain ⟨b, off, ha, hat⟩ := hf (by rintro rfl; simp at h0)
  refine ⟨b, off, ha, fun j hj => ?_⟩
  have hj' : j < vs.length := by omega
  have := hat j hj'
  simpa only [List.getElem_take] using this

theorem vc_one (vs : List Val) : ∀ u ∈ vc vs, u.oneCell' = true := by
  intro u hu
  simp only [vc, List.mem_flatMap] at hu
  obtain ⟨v, _, hv⟩ := hu
  simp at hv
  rcases hv with rfl | rfl | rfl <;> rfl

theorem vc_cells {w : World} {b off : Nat} {vs : List Val} (h : ValsAt w b off vs) : ∀ j u, (vc vs)[j]? = some u → w.cell? ((⟨b, off, none⟩ : Addr).add j) = some u := by
  intro j u hj
  have hlt : j < (vc vs).length := by
    rcases Nat.lt_or_ge j (vc vs).length with h | h
    · exact h
    · rw [List.getElem?_eq_none h] at hj; cases hj
  rw [vc_length] at hlt
  have hq : j / 3 < vs.length := by omega
  obtain ⟨g0, g1, g2⟩ := vc_get vs (j / 3) hq
  obtain ⟨h0, h1, h2⟩ := h (j / 3) hq
  rw [add_plain]
  have hr : j % 3 = 0 ∨ j % 3 = 1 ∨ j % 3 = 2 := by omega
  rcases hr with r | r | r
  · have e : j = j / 3 * 3 := by omega
    rw [← e] at g0 h0; rw [g0] at hj; cases hj; exact h0
  · have e : j = j / 3 * 3 + 1 := by omega
    rw [← e] at g1; rw [g1] at hj; cases hj
    have e' : off + j / 3 * 3 + 1 = off + j := by omega
    rw [e'] at h1; exact h1
  · have e : j = j / 3 * 3 + 2 := by omega
    rw [← e] at g2; rw [g2] at hj; cases hj
    have e' : off + j / 3 * 3 + 2 = off + j := by omega
    rw [e'] at h2; exact h2

/-- A slice of values put behind an owned one. -/
theorem wpList_append_vals (w : World) {ops : Array Oper} {rest : List Oper} {o : Oper} {a : Act} {Q : Exit → Act → World → Prop} (hg : o.guard = none) (s x : Operand)
    (hop : o.op = .call { callee := .builtin .append, args := #[s, x], argTypes := #[23, 23] })
    (base g cap : Nat) (vs m : List Val) (n k c : Nat) (hn : n = vs.length) (hk : k = m.length) (hs : a.eval s = .slice (some ⟨g, 0, none⟩) n cap) (hown : w.ownsRow base 29 3 (.slice (some ⟨g, 0, none⟩) n cap) n (vc vs))
    (ao : Option Addr) (hx : a.eval x = .slice ao k c) (hin : ValsIn w (.slice ao k c) m) (hnone : ao = none → c = 0) (hroom : vs.length + m.length ≤ 4398046511104) (hbase : base ≤ w.heap.size)
    (h : ∀ g' cap' w' L, L = (vs ++ m).length → w'.ownsRow base 29 3 (.slice (some ⟨g', 0, none⟩) L cap') L (vc (vs ++ m)) → (∀ B0 w0, Below B0 w0 w → B0 ≤ w.heap.size → B0 ≤ g → Below B0 w0 w' ∧ B0 ≤ g') → wpList Tryz.prog ops Q rest (a.put o.dst (.slice (some ⟨g', 0, none⟩) L cap')) w') :
    wpList Tryz.prog ops Q (o :: rest) a w := by
  subst hn hk
  obtain ⟨i0, hi, hz0, hz1, hz2⟩ := info_parts Tryz.infoV
  obtain ⟨⟨a', cap', e, hf⟩, hwf, hlen⟩ := hin
  simp only [Value.slice.injEq, true_and] at e
  obtain ⟨rfl, rfl⟩ := e
  have hca : vs.length ≤ cap := by
    rcases hown.2 with ⟨e, _⟩ | ⟨g1, cap1, cur, e, _, _, h1, _⟩
    · cases e
    · simp only [Value.slice.injEq, true_and] at e; rw [e.2]; exact h1
  by_cases hm : m = []
  · subst hm
    refine wpList_append_fits_any w hg s x 23 hop base 29 i0 3 Tryz.underlying23 hi hz1 g vs.length cap (vc vs) hs hown ao 0 c [] hx rfl (fun h0 => ⟨rfl, hnone h0⟩) (fun ad _ j u hj => by simp at hj) (by simp) (by simpa using hca) ?_
    intro w' h1 h2
    refine h g cap w' _ (by rw [List.append_nil]; rfl) ?_ (fun B0 w0 k z y => ⟨k.grown h2 z (fun q hq => by cases hq; exact y), y⟩)
    rw [List.append_nil] at h1 ⊢
    exact h1
  · obtain ⟨b, off, rfl, hat⟩ := hf hm
    refine wpList_append_lies w hg s x 23 hop base 29 i0 (.agg #[.int .u8 0, .int .i64 0, .string ByteArray.empty]) 3 32 Tryz.underlying23 hi hz0 hz1 hz2 rfl (by decide) _ _ _ hs hown ⟨b, off, none⟩ m.length c (vc m) hx (vc_length m) (vc_cells hat) (vc_one m) (List.length_pos_iff.mpr hm) (by unfold maxLen; omega) (by omega) hbase _ rfl ?_
    intro g' cap' w' h1 h2 h3 _
    refine h g' cap' w' _ (by rw [List.length_append]) (by rw [vc_append]; exact h1) (fun B0 w0 k z y => ⟨k.grown h2 z (fun q hq => by simp [Value.ownBlock] at hq; omega), ?_⟩)
    rcases h3 with h3 | h3
    · simp [Value.ownBlock] at h3; omega
    · omega
def behind : Val := ⟨2, 99, ByteArray.empty⟩
def lentL (vs : List Val) : List Val := vs ++ [behind, behind, behind]

theorem lent_one (w : World) (v : Val) (hv : v.wf) : ValsIn (w.alloc (.cells #[.int .u8 v.k, .int .i64 v.n, .string v.t] 29)) (.slice (some ⟨w.heap.size, 0, none⟩) 1 1) [v] := by
  refine ⟨⟨_, 1, rfl, fun _ => ⟨_, _, rfl, ?_⟩⟩, by simpa using hv, by simp⟩
  intro j hj
  have e : j = 0 := by simp at hj; omega
  subst e
  simp [go_sem]

theorem behind_wf : behind.wf := ⟨by decide, by decide, by decide, by decide, by decide⟩

set_option maxHeartbeats 1600000 in
theorem lent_any (w : World) (ao : Option Addr) (c : Nat) (vs : List Val) (h : ValsIn w (.slice ao vs.length c) vs) (hn : ao = none → c = 0) (hl : vs.length ≤ 1000000) :
    Calls Tryz.prog 5 #[.slice ao vs.length c] w fun e w' => ∃ g cap, e = .returned (.slice (some ⟨g, 0, none⟩) (vs.length + 3) cap) ∧ vs.length + 3 ≤ cap ∧ ValsIn w' (.slice (some ⟨g, 0, none⟩) (vs.length + 3) cap) (lentL vs) ∧ Below w.heap.size w w' := by
  go_enter Tryz.func5, Tryz.ntmps5
  have O1 := World.ownsRow_lit (size := 3) (e := 29) (base := w.heap.size) w #[] 0 (Nat.le_refl _) (by decide) rfl
  have K1 : Below w.heap.size w (w.alloc (.cells #[] 29)) := (Below.refl _ _).alloc (Nat.le_refl _) _
  have V1 := h.later K1
  have Y1 : ([] : List Val).length + vs.length ≤ 4398046511104 := by rw [List.length_nil]; omega
  go_wp2_with (at_builtin; refine wpList_append_vals _ rfl _ _ rfl w.heap.size w.heap.size 0 [] vs 0 vs.length c rfl rfl rfl O1 ao rfl V1 hn Y1 K1.size ?_; intro g1 cap1 w1 L1 h1 o1 f1; obtain ⟨B1, X1⟩ := f1 w.heap.size w K1 K1.size (Nat.le_refl _); have H1 : Hid (L1 = (([] : List Val) ++ vs).length) := h1; clear O1 V1 h1 f1)
  have N1 : Hid (L1 = vs.length) := by show _ = _; rw [H1.out, List.nil_append]
  rw [List.nil_append] at o1
  have LV : Hid (∀ v ∈ vs, v.wf) := h.wf
  clear H1 h hn Y1 K1
  go_loopw [3, 4] (fun x i wr => ∃ (j g cap L : Nat), j ≤ 3 ∧ i = .int .i64 j ∧ x = .slice (some ⟨g, 0, none⟩) L cap ∧ Hid (L = vs.length + j) ∧ wr.ownsRow w.heap.size 29 3 (.slice (some ⟨g, 0, none⟩) L cap) L (vc (vs ++ List.replicate j behind)) ∧ Below w.heap.size w wr ∧ w.heap.size ≤ g) (fun _ i _ => 3 - (intOf i).toNat)
  case atStart => exact ⟨0, g1, cap1, L1, by omega, rfl, rfl, N1.out, by simpa using o1, B1, X1⟩
  case round =>
    clear o1 B1 X1 N1
    obtain ⟨j, g, cap, L, hj, rfl, rfl, HL, hown, hbel, hg⟩ := hrel
    have hsz := hbel.size
    by_cases hlt : j < 3
    · have E1 : Hid (L = (vs ++ List.replicate j behind).length) := by show _ = _; rw [HL.out, List.length_append, List.length_replicate]
      have K2 : Below w.heap.size w (wr.alloc (.cells #[.int .u8 2, .int .i64 99, .string ⟨#[]⟩] 29)) := hbel.alloc hsz _
      have V2 : ValsIn (wr.alloc (.cells #[.int .u8 2, .int .i64 99, .string ⟨#[]⟩] 29)) (.slice (some ⟨wr.heap.size, 0, none⟩) 1 1) [behind] := lent_one wr behind behind_wf
      have Y2 : (vs ++ List.replicate j behind).length + [behind].length ≤ 4398046511104 := by rw [List.length_append, List.length_replicate, List.length_singleton]; omega
      have E2 : Hid ((vs ++ List.replicate j behind ++ [behind]) = vs ++ List.replicate (j + 1) behind) := by show _ = _; rw [List.append_assoc, List.replicate_succ']
      have hown' := hown.alloc (.cells #[.int .u8 2, .int .i64 99, .string ⟨#[]⟩] 29)
      clear hown
      go_wp2_with (at_builtin; refine wpList_append_vals _ rfl _ _ rfl w.heap.size g cap (vs ++ List.replicate j behind) [behind] L 1 1 E1.out rfl rfl hown' (some ⟨wr.heap.size, 0, none⟩) rfl V2 (fun e => (by cases e)) Y2 K2.size ?_; intro g2 cap2 w2 L2 h2 o2 f2; obtain ⟨B2, X2⟩ := f2 w.heap.size w K2 K2.size hg; have H2 : Hid (L2 = (vs ++ List.replicate j behind ++ [behind]).length) := h2; clear h2 f2 V2 K2 hown')
      rw [E2.out] at o2
      have H3 : Hid (L2 = vs.length + (j + 1)) := by show _ = _; rw [H2.out, E2.out, List.length_append, List.length_replicate]
      go_roundw
      case rel => exact ⟨j + 1, g2, cap2, L2, by omega, by go_num, rfl, H3, o2, B2, X2⟩
      case measure => simp [intOf]; omega
    · have e3 : j = 3 := by omega
      subst e3
      go_wp2
      go_ret
      have e := HL.out
      subst e
      have hc : vs.length + 3 ≤ cap := by
        rcases hown.2 with ⟨e, _⟩ | ⟨g1, cap1, cur, e, _, _, h1, _⟩
        · cases e
        · simp only [Value.slice.injEq, true_and] at e; rw [e.2]; exact h1
      refine ⟨g, cap, rfl, hc, ?_, hbel⟩
      have e2 : (vs ++ List.replicate 3 behind).length = vs.length + 3 := by rw [List.length_append, List.length_replicate]
      have hv : ∀ x ∈ vs ++ List.replicate 3 behind, x.wf := by
        intro x hx
        rcases List.mem_append.mp hx with h | h
        · exact LV.out x h
        · rw [List.eq_of_mem_replicate h]; exact behind_wf
      exact vals_of_own (vs := vs ++ List.replicate 3 behind) (by rw [e2]; exact hown) hv (by omega)

/-- Is the list that was lent as it was? -/
theorem kept_any (w : World) (v : Value) (l : List Val) (hv : ValsIn w v l) (ao : Option Addr) (c : Nat) (vs : List Val) (h : ValsIn w (.slice ao vs.length c) vs) (hn : ao = none → c = 0) (hl : vs.length ≤ 1000000) (he : l = lentL vs) :
    Calls Tryz.prog 12 #[v, .slice ao vs.length c] w fun e w' => e = .returned (.bool true) ∧ Below w.heap.size w w' := by
  subst he
  have P1 : Hid (Calls Tryz.prog 5 #[.slice ao vs.length c] w fun e w' => ∃ g cap, e = .returned (.slice (some ⟨g, 0, none⟩) (vs.length + 3) cap) ∧ vs.length + 3 ≤ cap ∧ ValsIn w' (.slice (some ⟨g, 0, none⟩) (vs.length + 3) cap) (lentL vs) ∧ Below w.heap.size w w') := lent_any w ao c vs h hn hl
  have P2 : Hid (∀ wx u, ValsIn wx u (lentL vs) → Below w.heap.size w wx → Calls Tryz.prog 40 #[v, u] wx fun e w' => e = .returned (.bool true) ∧ Below wx.heap.size wx w') := fun wx u hu hw => by
    have := sameV_any wx v u _ _ (hv.later hw) hu
    rwa [(sameL_iff _ _).mpr rfl] at this
  clear hv h hn
  go_enter Tryz.func12, Tryz.ntmps12
  go_wp2_with (first
    | (go_at_call 5; refine P1.out.mono ?_; rintro e w1 ⟨g1, cap1, rfl, hc1, hv1, hb1⟩; clear P1)
    | (go_at_call 40; refine (P2.out _ _ hv1 hb1).mono ?_; rintro e w2 ⟨rfl, hb2⟩))
  go_ret
  exact ⟨rfl, hb1.trans (hb2.mono hb1.size)⟩
end Go.Proofs.YtjddhakaebkkeaaGreatDoor
