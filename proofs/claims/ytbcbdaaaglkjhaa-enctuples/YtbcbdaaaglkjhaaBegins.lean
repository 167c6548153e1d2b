/-
  The span of a tuple (Begins); tuples that begin with another; a slice of values put behind an owned one.
-/
import Derived.Test.YtbcbdaaaglkjhaaAfter
import Derived.Test.YtbcbdaaaglkjhaaBack
import Derived.Test.YtbcbdaaaglkjhaaValsArg
import Derived.Deep.AppendLies
namespace Go.Proofs.Ytbcbdaaaglkjhaa
open Go.RowKit

/-- The end of the span of a tuple's keys. -/
def begA (vs : List Val) : ByteArray := ⟨(aft (tupS vs).data.toList).toArray⟩

theorem tupS_small (vs : List Val) : (tupS vs).size ≤ 100000 := by
  rcases tupE_cases vs with ⟨e, l, m⟩ | h
  · unfold tupS; rw [if_pos e]; show (tupB vs).toArray.size ≤ _
    have := tupB_length vs (List.all_eq_true.mpr m)
    rw [List.size_toArray]; omega
  · have : tupE vs ≠ 0 := by simpa using h
    unfold tupS; rw [if_neg this]; decide

/-- What is held of a call's own block of two cells behind another call. -/
theorem two_slot {w w2 : World} {x y : Value} {t : TypeId} (hb : Below (w.alloc (.cells #[x, y] t)).heap.size (w.alloc (.cells #[x, y] t)) w2) :
    w2.cell? ⟨w.heap.size, 0, none⟩ = some x ∧ w2.cell? ⟨w.heap.size, 1, none⟩ = some y ∧ w2.frozen? ⟨w.heap.size, 0, none⟩ = false ∧ w2.frozen? ⟨w.heap.size, 1, none⟩ = false ∧ w.heap.size < w2.heap.size := by
  refine ⟨(hb.cell (p := ⟨w.heap.size, 0, none⟩) (by simp)).trans (by simp), (hb.cell (p := ⟨w.heap.size, 1, none⟩) (by simp)).trans (by simp), (hb.frozen (p := ⟨w.heap.size, 0, none⟩) (by simp)).trans (by simp), (hb.frozen (p := ⟨w.heap.size, 1, none⟩) (by simp)).trans (by simp), ?_⟩
  have := hb.size
  simp at this; omega

theorem begins_any (w : World) (v : Value) (vs : List Val) (h : ValsIn w v vs) :
    Calls Try.prog 28 #[v] w fun e w' => e = .returned (.tuple #[.agg #[.string (tupS vs), .string (begA vs)], .int .i64 (tupE vs)]) ∧ Below w.heap.size w w' := by
  obtain ⟨E, hE⟩ : ∃ E, E = tupE vs := ⟨_, rfl⟩
  obtain ⟨S, hS⟩ : ∃ S, S = tupS vs := ⟨_, rfl⟩
  obtain ⟨A, hA⟩ : ∃ A, A = begA vs := ⟨_, rfl⟩
  have hsz : S.size ≤ 100000 := by rw [hS]; exact tupS_small vs
  have HA : Hid (A = ⟨(aft S.data.toList).toArray⟩) := by show _ = _; rw [hA, hS]; rfl
  have T1 : Hid (∀ wx, Below w.heap.size w wx → Calls Try.prog 10 #[v] wx fun e w' => e = .returned (.tuple #[.string S, .int .i64 E]) ∧ Below wx.heap.size wx w') := fun wx hw => by rw [hE, hS]; exact tuple_any wx v vs (h.later hw)
  have T2 : Hid (∀ wx : World, Calls Try.prog 14 #[.string S] wx fun e w' => e = .returned (.string A) ∧ Below wx.heap.size wx w') := fun wx => by rw [HA.out]; exact after_any wx S (by omega)
  have hc : (E != 0) = true ∧ S = ByteArray.empty ∧ A = ByteArray.empty ∨ E = 0 := by
    by_cases h0 : E = 0
    · exact .inr h0
    · have hs : S = ByteArray.empty := by rw [hS]; unfold tupS; rw [if_neg (by rw [← hE]; exact h0)]
      refine .inl ⟨by simpa using h0, hs, ?_⟩
      rw [HA.out, hs]; rfl
  rw [← hE, ← hS, ← hA]
  clear hE hS hA HA h hsz
  have B0 : Below w.heap.size w w := Below.refl _ _
  rcases hc with ⟨h0, rfl, rfl⟩ | rfl
  · go_enter Try.func28, Try.ntmps28
    go_wp2_with (go_at_call 10; refine (T1.out _ (B0.alloc (Nat.le_refl _) _)).mono ?_; rintro e w2 ⟨rfl, hb2⟩; have B2 : Below w.heap.size w w2 := (B0.alloc (Nat.le_refl _) _).trans (hb2.mono (by simp)); obtain ⟨q0, q1, q2, q3, q4⟩ := two_slot hb2)
    refine bodyPost_ret (v := .tuple #[.agg #[.string ByteArray.empty, .string ByteArray.empty], .int .i64 E]) (by simp [results, Try.results28, go_sem, q0, q1]; try rfl) rfl ⟨rfl, ?_⟩
    exact (B2.setCell (Nat.le_refl _) _).setCell (Nat.le_refl _) _
  · go_enter Try.func28, Try.ntmps28
    go_wp2_with (first
      | (go_at_call 10; refine (T1.out _ (B0.alloc (Nat.le_refl _) _)).mono ?_; rintro e w2 ⟨rfl, hb2⟩; have B2 : Below w.heap.size w w2 := (B0.alloc (Nat.le_refl _) _).trans (hb2.mono (by simp)); obtain ⟨q0, q1, q2, q3, q4⟩ := two_slot hb2)
      | (go_at_call 14; refine (T2.out _).mono ?_; rintro e w3 ⟨rfl, hb3⟩; have B3 : Below w.heap.size w w3 := B2.trans (hb3.mono B2.size); have r0 := (hb3.cell (p := ⟨w.heap.size, 0, none⟩) q4).trans q0; have r1 := (hb3.cell (p := ⟨w.heap.size, 1, none⟩) q4).trans q1; have r2 := (hb3.frozen (p := ⟨w.heap.size, 0, none⟩) q4).trans q2; have r3 := (hb3.frozen (p := ⟨w.heap.size, 1, none⟩) q4).trans q3; have r4 := Nat.lt_of_lt_of_le q4 hb3.size))
    refine bodyPost_ret (v := .tuple #[.agg #[.string S, .string A], .int .i64 0]) (by simp [results, Try.results28, go_sem, r0, r1]; try rfl) rfl ⟨rfl, ?_⟩
    exact (B3.setCell (Nat.le_refl _) _).setCell (Nat.le_refl _) _

theorem tupB_append (a b : List Val) : tupB (a ++ b) = tupB a ++ tupB b := by simp [tupB]

/-- A tuple's text begins with another's just if the tuple does. -/
theorem tup_prefix : ∀ (a b : List Val), (∀ v ∈ a, v.may = true ∧ v.wf) → (∀ v ∈ b, v.may = true ∧ v.wf) → ((tupB a) <+: (tupB b) ↔ a <+: b) := by
  intro a
  induction a with
  | nil => intro b _ _; exact ⟨fun _ => List.nil_prefix, fun _ => List.nil_prefix⟩
  | cons v a ih =>
    intro b ha hb
    constructor
    · intro h
      cases b with
      | nil =>
        obtain ⟨c, r, hc⟩ := text_ne v (ha v (by simp)).1
        rw [tupB_cons, hc] at h
        have h' := h.length_le
        simp [tupB] at h'
      | cons u b =>
        obtain ⟨r, hr⟩ := h
        rw [tupB_cons, tupB_cons, List.append_assoc] at hr
        have e1 := rv_text v (ha v (by simp)).1 (ha v (by simp)).2 (tupB a ++ r)
        rw [hr, rv_text u (hb u (by simp)).1 (hb u (by simp)).2] at e1
        have e2 : u = v := congrArg Prod.fst e1
        subst e2
        have e3 := List.append_cancel_left hr
        have := (ih b (fun x hx => ha x (by simp [hx])) (fun x hx => hb x (by simp [hx]))).mp ⟨r, e3⟩
        exact (List.cons_prefix_cons).mpr ⟨rfl, this⟩
    · rintro ⟨m, rfl⟩
      exact ⟨tupB m, by rw [tupB_append]⟩

theorem same_prefix (a b : List Val) : sameL (b.take a.length) a = true ↔ a <+: b := by
  rw [sameL_iff, List.prefix_iff_eq_take]
  exact ⟨fun e => e.symm, fun e => e.symm⟩

theorem ValsIn.take {w : World} {a : Option Addr} {cap n : Nat} {vs : List Val} (h : ValsIn w (.slice a vs.length cap) vs) (c : Nat) (hn : n ≤ vs.length) : ValsIn w (.slice a n c) (vs.take n) := by
  obtain ⟨⟨a', cap', e, hf⟩, hwf, hlen⟩ := h
  simp only [Value.slice.injEq, true_and] at e
  obtain ⟨rfl, rfl⟩ := e
  have hl : (vs.take n).length = n := by rw [List.length_take]; omega
  refine ⟨⟨a, c, by rw [hl], fun h0 => ?_⟩, fun v hv => hwf v (List.mem_of_mem_take hv), by omega⟩
  obtain ⟨b, off, ha, hat⟩ := hf (by rintro rfl; simp at h0)
  refine ⟨b, off, ha, fun j hj => ?_⟩
  have hj' : j < vs.length := by omega
  have := hat j hj'
  simpa only [List.getElem_take] using this

theorem vc_one (vs : List Val) : ∀ u ∈ vc vs, u.oneCell' = true := by
  intro u hu
  simp only [vc, List.mem_flatMap] at hu
  obtain ⟨v, _, hv⟩ := hu
  simp at hv
  rcases hv with rfl | rfl | rfl <;> rfl

theorem vc_cells {w : World} {b off : Nat} {vs : List Val} (h : ValsAt w b off vs) : ∀ j u, (vc vs)[j]? = some u → w.cell? ((⟨b, off, none⟩ : Addr).add j) = some u := by
  intro j u hj
  have hlt : j < (vc vs).length := by
    rcases Nat.lt_or_ge j (vc vs).length with h | h
    · exact h
    · rw [List.getElem?_eq_none h] at hj; cases hj
  rw [vc_length] at hlt
  have hq : j / 3 < vs.length := by omega
  obtain ⟨g0, g1, g2⟩ := vc_get vs (j / 3) hq
  obtain ⟨h0, h1, h2⟩ := h (j / 3) hq
  rw [add_plain]
  have hr : j % 3 = 0 ∨ j % 3 = 1 ∨ j % 3 = 2 := by omega
  rcases hr with r | r | r
  · have e : j = j / 3 * 3 := by omega
    rw [← e] at g0 h0; rw [g0] at hj; cases hj; exact h0
  · have e : j = j / 3 * 3 + 1 := by omega
    rw [← e] at g1; rw [g1] at hj; cases hj
    have e' : off + j / 3 * 3 + 1 = off + j := by omega
    rw [e'] at h1; exact h1
  · have e : j = j / 3 * 3 + 2 := by omega
    rw [← e] at g2; rw [g2] at hj; cases hj
    have e' : off + j / 3 * 3 + 2 = off + j := by omega
    rw [e'] at h2; exact h2

/-- A slice of values put behind an owned one. -/
theorem wpList_append_vals (w : World) {ops : Array Oper} {rest : List Oper} {o : Oper} {a : Act} {Q : Exit → Act → World → Prop} (hg : o.guard = none) (s x : Operand)
    (hop : o.op = .call { callee := .builtin .append, args := #[s, x], argTypes := #[24, 24] })
    (base g cap : Nat) (vs m : List Val) (n k c : Nat) (hn : n = vs.length) (hk : k = m.length) (hs : a.eval s = .slice (some ⟨g, 0, none⟩) n cap) (hown : w.ownsRow base 32 3 (.slice (some ⟨g, 0, none⟩) n cap) n (vc vs))
    (ao : Option Addr) (hx : a.eval x = .slice ao k c) (hin : ValsIn w (.slice ao k c) m) (hnone : ao = none → c = 0) (hroom : vs.length + m.length ≤ 4398046511104) (hbase : base ≤ w.heap.size)
    (h : ∀ g' cap' w' L, L = (vs ++ m).length → w'.ownsRow base 32 3 (.slice (some ⟨g', 0, none⟩) L cap') L (vc (vs ++ m)) → (∀ B0 w0, Below B0 w0 w → B0 ≤ w.heap.size → B0 ≤ g → Below B0 w0 w' ∧ B0 ≤ g') → wpList Try.prog ops Q rest (a.put o.dst (.slice (some ⟨g', 0, none⟩) L cap')) w') :
    wpList Try.prog ops Q (o :: rest) a w := by
  subst hn hk
  obtain ⟨i0, hi, hz0, hz1, hz2⟩ := info_parts Try.infoV
  obtain ⟨⟨a', cap', e, hf⟩, hwf, hlen⟩ := hin
  simp only [Value.slice.injEq, true_and] at e
  obtain ⟨rfl, rfl⟩ := e
  have hca : vs.length ≤ cap := by
    rcases hown.2 with ⟨e, _⟩ | ⟨g1, cap1, cur, e, _, _, h1, _⟩
    · cases e
    · simp only [Value.slice.injEq, true_and] at e; rw [e.2]; exact h1
  by_cases hm : m = []
  · subst hm
    refine wpList_append_fits_any w hg s x 24 hop base 32 i0 3 Try.underlying24 hi hz1 g vs.length cap (vc vs) hs hown ao 0 c [] hx rfl (fun h0 => ⟨rfl, hnone h0⟩) (fun ad _ j u hj => by simp at hj) (by simp) (by simpa using hca) ?_
    intro w' h1 h2
    refine h g cap w' _ (by rw [List.append_nil]; rfl) ?_ (fun B0 w0 k z y => ⟨k.grown h2 z (fun q hq => by cases hq; exact y), y⟩)
    rw [List.append_nil] at h1 ⊢
    exact h1
  · obtain ⟨b, off, rfl, hat⟩ := hf hm
    refine wpList_append_lies w hg s x 24 hop base 32 i0 (.agg #[.int .u8 0, .int .i64 0, .string ByteArray.empty]) 3 32 Try.underlying24 hi hz0 hz1 hz2 rfl (by decide) _ _ _ hs hown ⟨b, off, none⟩ m.length c (vc m) hx (vc_length m) (vc_cells hat) (vc_one m) (List.length_pos_iff.mpr hm) (by unfold maxLen; omega) (by omega) hbase _ rfl ?_
    intro g' cap' w' h1 h2 h3 _
    refine h g' cap' w' _ (by rw [List.length_append]) (by rw [vc_append]; exact h1) (fun B0 w0 k z y => ⟨k.grown h2 z (fun q hq => by simp [Value.ownBlock] at hq; omega), ?_⟩)
    rcases h3 with h3 | h3
    · simp [Value.ownBlock] at h3; omega
    · omega
end Go.Proofs.Ytbcbdaaaglkjhaa
