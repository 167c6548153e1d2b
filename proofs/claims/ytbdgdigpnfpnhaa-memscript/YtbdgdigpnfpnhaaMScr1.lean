/-
  The law's own comparison of the program's memtable with the document's: it answers true where they hold the same.
-/
import Derived.Test.YtbdgdigpnfpnhaaMScr0
import Derived.Test.YtbdgdigpnfpnhaaKO
import Derived.Test.YtbdgdigpnfpnhaaMFrame
import Derived.Test.YtbdgdigpnfpnhaaMInts
import Derived.Test.YtbdgdigpnfpnhaaMLives
import Derived.Laws.StructEq
import Derived.Deep.RegionHeld3
namespace Go.Proofs.Ytbdgdigpnfpnhaa.Q.P
open Go.RowKit

theorem neq_same (K V : Mm.Bs) (Q : Int) (D : Bool) (W : World) : (binOp .neq 38 (.agg #[str K, str V, .int .i64 Q, .bool D]) (.agg #[str K, str V, .int .i64 Q, .bool D])).run Try.prog W = .ok (.bool false) W := by
  have hu : Try.prog.underlying 38 = some (.struct (Try.prog.fieldsOf 38)) := by kernel_rfl
  have hp : Try.prog.stoodInHeld 38 = false := by kernel_rfl
  rw [run_neq_struct, run_equalIn_agg _ _ _ _ _ hu hp]
  clear hu hp
  have h1 : (K == K) = true := by simp
  have h2 : (V == V) = true := by simp
  go_simp

/-- Lane, out of the bounds. -/
theorem lane_out {S : Nat → Prop} {w : World} {b : Nat} {hs : List Nat} {l : List Mm.It} (h : TabS S w b hs l) (k : Int) (hk : k < 1 ∨ k > 12) : Calls Try.prog 47 #[.pointer (some ⟨b, 0, none⟩), .int .i64 k] w fun r w' => r = .returned (.slice none 0 0) ∧ Below w.heap.size w w' := by
  obtain ⟨hvv, hd, ns, T, rfl, _⟩ := h
  have B0 : Below w.heap.size w (w.alloc (.cells #[.int .i64 k] 3)) := (Below.refl _ _).alloc (Nat.le_refl _) _
  have k0 : (w.alloc (.cells #[.int .i64 k] 3)).cell? ⟨w.heap.size, 0, none⟩ = some (.int .i64 k) := Joins.cell_of_block (World.alloc_heap_new w _) 0
  have MD := hide (made_yes _ b (T.later B0).cells.1)
  clear T
  rcases hk with h1 | h1
  · go_enter Try.func47, Try.ntmps47
    go_wp2_with (first
      | (go_at_call 39; refine still MD.out ?_; clear MD))
    go_ret
    exact ⟨rfl, B0⟩
  · have h2 : ¬ k < 1 := by omega
    go_enter Try.func47, Try.ntmps47
    go_wp2_with (first
      | (go_at_call 39; refine still MD.out ?_; clear MD))
    go_ret
    exact ⟨rfl, B0⟩

/-- Questions: where they lie. -/
structure AsksAt (w : World) (v : Value) (A : List Qu) : Prop where
  form : ∃ a cap, v = .slice a A.length cap ∧ (A ≠ [] → ∃ b off, a = some ⟨b, off, none⟩ ∧ ∀ j (h : j < A.length), w.cell? ⟨b, off + j * 5, none⟩ = some (str A[j].key) ∧ w.cell? ⟨b, off + j * 5 + 1, none⟩ = some (.int .i64 A[j].seq) ∧ w.cell? ⟨b, off + j * 5 + 2, none⟩ = some (str A[j].lo) ∧ w.cell? ⟨b, off + j * 5 + 3, none⟩ = some (str A[j].hi) ∧ w.cell? ⟨b, off + j * 5 + 4, none⟩ = some (.int .i64 A[j].lane))
theorem AsksAt.later {w w' : World} {v : Value} {A : List Qu} (h : AsksAt w v A) (hb : Below w.heap.size w w') : AsksAt w' v A := by
  obtain ⟨⟨a, cap, e, hf⟩⟩ := h
  refine ⟨⟨a, cap, e, fun h0 => ?_⟩⟩
  obtain ⟨b, off, ha, hat⟩ := hf h0
  exact ⟨b, off, ha, fun j hj => ⟨keepC hb (hat j hj).1, keepC hb (hat j hj).2.1, keepC hb (hat j hj).2.2.1, keepC hb (hat j hj).2.2.2.1, keepC hb (hat j hj).2.2.2.2⟩⟩

/-- Both hold the same. -/
structure Sm (S : Nat → Prop) (base : Nat) (w : World) (t b : Nat) (hv lv tv : Value) (hs : List Int) (l : List Mm.It) : Prop where
  tab : TabS S w t (hs.map Int.toNat) l
  ref : RtAt base w b hv lv tv hs (esL l) (tsL l)
  few : l.length ≤ 60
  ok : ∀ x ∈ l, Mm.may x.1 = true
theorem Sm.later {S : Nat → Prop} {base : Nat} {w w' : World} {t b : Nat} {hv lv tv : Value} {hs : List Int} {l : List Mm.It} (h : Sm S base w t b hv lv tv hs l) (hb : Below w.heap.size w w') : Sm S base w' t b hv lv tv hs l :=
  ⟨h.tab.later hb, h.ref.later hb, h.few, h.ok⟩
theorem may_facts {e : Mm.Ent} (h : Mm.may e = true) : e.seq ≤ 1073741824 ∧ e.key.length ≤ 1000000 ∧ e.value.length ≤ 1000000 := by
  unfold Mm.may at h
  simp only [Bool.and_eq_true, decide_eq_true_eq] at h
  refine ⟨h.1.2, ?_⟩
  have h2 := h.2
  unfold Wl.mayBe at h2
  simp only [Bool.and_eq_true, decide_eq_true_eq] at h2
  have h3 : e.key.length ≤ 512 := h2.1.1.2
  have h4 : e.value.length ≤ 4096 := h2.1.2
  omega
def lnL (l : List Mm.It) (k : Int) : List Int := (if 1 ≤ k ∧ k ≤ 12 then Mm.plR k 0 (tsL l) else []).map fun (x : Nat) => (x : Int)
theorem lnL_len (l : List Mm.It) (k : Int) : (lnL l k).length ≤ l.length := by
  unfold lnL
  rw [List.length_map]
  split
  · have := Mm.plR_len k (tsL l) 0
    rw [tsL_len] at this
    exact this
  · simp
theorem lane_t {S : Nat → Prop} {w : World} {b : Nat} {hs : List Nat} {l : List Mm.It} (h : TabS S w b hs l) (hl : l.length ≤ 100000) (k : Int) : Calls Try.prog 47 #[.pointer (some ⟨b, 0, none⟩), .int .i64 k] w fun r w' => ∃ a c, r = .returned (.slice a (lnL l k).length c) ∧ IntsAt w' (.slice a (lnL l k).length c) (lnL l k) ∧ Below w.heap.size w w' := by
  by_cases hk : 1 ≤ k ∧ k ≤ 12
  · obtain ⟨m, hm⟩ : ∃ m : Nat, k = (m : Int) + 1 := ⟨(k - 1).toNat, by omega⟩
    have h1 := lane_s h hl m (by omega)
    rw [places_is, show ((m + 1 : Nat) : Int) = k by omega, ← hm] at h1
    have e : lnL l k = (Mm.plR k 0 (tsL l)).map fun (x : Nat) => (x : Int) := by unfold lnL; rw [if_pos hk]
    rw [e, List.length_map]
    exact h1
  · refine (lane_out h k (by omega)).mono ?_
    rintro r w' ⟨rfl, bb⟩
    have e : lnL l k = [] := by unfold lnL; rw [if_neg hk]; rfl
    rw [e]
    exact ⟨none, 0, rfl, IntsAt.own (World.ownsRow_nil _ _ _ _ : w'.ownsRow 0 3 1 _ _ (ics [])), bb⟩
theorem lane_r {base : Nat} {w : World} {b : Nat} {hv lv tv : Value} {hs : List Int} {l : List Mm.It} (h : RtAt base w b hv lv tv hs (esL l) (tsL l)) (hl : l.length ≤ 100000) (k : Int) : Calls Try.prog 48 #[.pointer (some ⟨b, 0, none⟩), .int .i64 k] w fun r w' => ∃ a c, r = .returned (.slice a (lnL l k).length c) ∧ IntsAt w' (.slice a (lnL l k).length c) (lnL l k) ∧ Below w.heap.size w w' := by
  refine (rlane_any h (by rw [esL_len]; exact hl) k).mono ?_
  rintro r w' ⟨v, rfl, o, bb⟩
  rw [← List.length_map (f := fun (x : Nat) => (x : Int))] at o
  obtain ⟨a, c, rfl⟩ := row_shape o
  exact ⟨a, c, rfl, IntsAt.own o, bb⟩
theorem got_val (o : Option Mm.Ent) : gotV o = .tuple #[entV (o.getD ⟨[], [], 0, false⟩), .bool o.isSome] := by cases o <;> rfl
theorem found_val (o : Option Mm.Ent) : foundV o = .tuple #[entV (o.getD ⟨[], [], 0, false⟩), .bool o.isSome] := by cases o <;> rfl

set_option maxRecDepth 100000 in
set_option maxHeartbeats 16000000 in
theorem same_any {S : Nat → Prop} {base : Nat} {w : World} {t b : Nat} {hv lv tv : Value} {hs : List Int} {l : List Mm.It} (H : Sm S base w t b hv lv tv hs l) (a : Option Addr) (n c : Nat) (A : List Qu) (hA : AsksAt w (.slice a n c) A) (hn : n = A.length) (hAl : n ≤ 60) :
    Calls Try.prog 17 #[.pointer (some ⟨t, 0, none⟩), .pointer (some ⟨b, 0, none⟩), .slice a n c] w fun e w' => e = .returned (.bool true) ∧ Below w.heap.size w w' := by
  obtain ⟨la, lc, el⟩ := row_shape H.ref.ll
  obtain ⟨L, hL⟩ : ∃ L, L = l.length := ⟨_, rfl⟩
  have hL60 : L ≤ 60 := by rw [hL]; exact H.few
  have hes : (esL l).length = L := by rw [esL_len, hL]
  have hk : ∀ x ∈ esL l, x.key.length ≤ 1000000 ∧ x.value.length ≤ 1000000 := fun x hx => by
    obtain ⟨y, hy, rfl⟩ := List.mem_map.1 hx
    exact (may_facts (H.ok y hy)).2
  have KC : Hid (∀ wx, Below w.heap.size w wx → wx.cell? ⟨b, 2, none⟩ = some (.slice la L lc)) := fun wx hb => by
    have := (H.ref.later hb).cell.2.2.1
    rw [el, hes] at this
    exact this
  have LN : Hid (∀ wx, Below w.heap.size w wx → Calls Try.prog 44 #[.pointer (some ⟨t, 0, none⟩)] wx fun r w' => r = .returned (.int .i64 (L : Int)) ∧ w' = wx) := fun wx hb => by
    rw [hL]
    exact len_s (H.tab.later hb)
  obtain ⟨Z, hZ⟩ : ∃ Z, Z = Mm.bytesL l := ⟨_, rfl⟩
  have SZ : Hid (∀ wx, Below w.heap.size w wx → Calls Try.prog 45 #[.pointer (some ⟨t, 0, none⟩)] wx fun r w' => r = .returned (.int .i64 (Z : Int)) ∧ w' = wx) := fun wx hb => by
    rw [hZ]
    exact size_s (H.tab.later hb)
  have RZ : Hid (∀ wx, Below w.heap.size w wx → Calls Try.prog 46 #[.pointer (some ⟨b, 0, none⟩)] wx fun e w' => e = .returned (.int .i64 (Z : Int)) ∧ Below wx.heap.size wx w') := fun wx hb => by
    rw [hZ, bytes_is]
    exact rsize_any (H.ref.later hb) (by omega) hk
  have AL : Hid (∀ wx, Below w.heap.size w wx → Calls Try.prog 21 #[.pointer (some ⟨t, 0, none⟩), .int .i64 ((L : Int) + 1)] wx fun r w' => ∃ va ca, r = .returned (.slice va L ca) ∧ EntsAt w' (.slice va L ca) (esL l) ∧ Below wx.heap.size wx w') := fun wx hb => by
    have h1 := list_s (H.tab.later hb) (by omega) (L + 1) (by omega)
    have e1 : ((l.map (·.1)).take (L + 1)) = esL l := List.take_of_length_le (by simp; omega)
    rw [e1] at h1
    refine h1.mono ?_
    rintro e w' ⟨v, rfl, o, bb⟩
    have ha := EntsAt.own o
    obtain ⟨va, ca, rfl⟩ := row_shape o
    rw [hes] at ha ⊢
    exact ⟨va, ca, rfl, ha, bb⟩
  have RA : Hid (∀ wx, Below w.heap.size w wx → Calls Try.prog 22 #[.pointer (some ⟨b, 0, none⟩)] wx fun r w' => ∃ va ca, r = .returned (.slice va L ca) ∧ EntsAt w' (.slice va L ca) (esL l) ∧ Below wx.heap.size wx w') := fun wx hb => by
    refine (rall_any (H.ref.later hb) (by omega)).mono ?_
    rintro e w' ⟨g, cap, rfl, o, bb⟩
    have ha := EntsAt.own (l := esL l) o
    rw [hes] at ha ⊢
    exact ⟨_, cap, rfl, ha, bb⟩
  have SE : Hid (∀ wx u u2, EntsAt wx u (esL l) → EntsAt wx u2 (esL l) → Calls Try.prog 20 #[u, u2] wx fun e w' => e = .returned (.bool true) ∧ Below wx.heap.size wx w') := fun wx u u2 h1 h2 => samee_any wx u u2 _ h1 h2 (by omega)
  have iN : ((L : Int) != (L : Int)) = false := by simp
  have iZ : ((Z : Int) != (Z : Int)) = false := by simp
  have wL : IntKind.i64.wrap ((L : Int) + 1) = (L : Int) + 1 := by rw [IntKind.wrap_i64]; omega
  have HH := hide H
  have HA := hide hA
  have HN := hide hn
  have B0 : Below w.heap.size w w.drew := (Below.refl _ _).drew
  have P1 := KC.out w.drew B0
  clear H hA hn el hL hes hk hZ
  go_enter Try.func17, Try.ntmps17
  go_wp2_with (fail)
  go_region_held3 (fun wx => wx.cell? ⟨b, 2, none⟩ = some (.slice la L lc))
    (first | exact P1 | exact P3 | exact P4 | exact P5 | exact P6)
    (first
      | (go_at_call 44; refine (LN.out _ B0).mono ?_; rintro e w1 ⟨rfl, rfl⟩; clear LN)
      | (go_at_call 45; refine (SZ.out _ B0).mono ?_; rintro e w2 ⟨rfl, rfl⟩; clear SZ)
      | (go_at_call 46; refine (RZ.out _ B0).mono ?_; rintro e w3 ⟨rfl, b3⟩; have B3 := B0.trans (b3.mono B0.size); have P3 := KC.out _ B3; clear RZ)
      | (go_at_call 21; refine (AL.out _ B3).mono ?_; rintro e w4 ⟨a4, c4, rfl, E4, b4⟩; have B4 := B3.trans (b4.mono B3.size); have P4 := KC.out _ B4; clear AL)
      | (go_at_call 22; refine (RA.out _ B4).mono ?_; rintro e w5 ⟨a5, c5, rfl, E5, b5⟩; have B5 := B4.trans (b5.mono B4.size); have E4' := E4.later b5; have P5 := KC.out _ B5; clear RA)
      | (go_at_call 20; refine (SE.out _ _ _ E4' E5).mono ?_; rintro e w6 ⟨rfl, b6⟩; have B6 := B5.trans (b6.mono B5.size); have P6 := KC.out _ B6; clear SE))
  have LT : Hid (∀ wx k, Below w.heap.size w wx → Calls Try.prog 47 #[.pointer (some ⟨t, 0, none⟩), .int .i64 k] wx fun r w' => ∃ a c, r = .returned (.slice a (lnL l k).length c) ∧ IntsAt w' (.slice a (lnL l k).length c) (lnL l k) ∧ Below wx.heap.size wx w') := fun wx k hb => lane_t (HH.out.tab.later hb) (by have := HH.out.few; omega) k
  have LR : Hid (∀ wx k, Below w.heap.size w wx → Calls Try.prog 48 #[.pointer (some ⟨b, 0, none⟩), .int .i64 k] wx fun r w' => ∃ a c, r = .returned (.slice a (lnL l k).length c) ∧ IntsAt w' (.slice a (lnL l k).length c) (lnL l k) ∧ Below wx.heap.size wx w') := fun wx k hb => lane_r (HH.out.ref.later hb) (by have := HH.out.few; omega) k
  have SI : Hid (∀ wx u u2 k, IntsAt wx u (lnL l k) → IntsAt wx u2 (lnL l k) → Calls Try.prog 36 #[u, u2] wx fun e w' => e = .returned (.bool true) ∧ Below wx.heap.size wx w') := fun wx u u2 k h1 h2 => samei_any wx u u2 _ h1 h2 (by have := lnL_len l k; have := HH.out.few; omega)
  have HB6 := hide B6
  clear P1 P3 P4 P5 P6 B0 B3 B4 B5 B6 b3 b4 b5 b6 E4 E5 E4' iN iZ wL
  go_wp2_with (fail)
  go_loopw [7] (fun i wr => ∃ j : Nat, j ≤ 15 ∧ i = .int .i64 ((j : Int) - 1) ∧ Below w.heap.size w wr) (fun i _ => (14 - intOf i).toNat)
  case atStart => exact ⟨0, Nat.zero_le _, rfl, HB6.out⟩
  case round =>
    obtain ⟨j, hj, rfl, bx⟩ := hrel
    by_cases hlt : j ≤ 14
    · have i1 : (j : Int) - 1 ≤ 13 := by omega
      have w1 : IntKind.i64.wrap ((j : Int) - 1 + 1) = (j : Int) := by rw [IntKind.wrap_i64]; omega
      have w2 : IntKind.i64.wrap (j : Int) = (j : Int) := by rw [IntKind.wrap_i64]; omega
      have LT' := hide (LT.out wr ((j : Int) - 1) bx)
      go_wp2_with (first
        | (go_at_call 47; refine LT'.out.mono ?_; rintro e w7 ⟨a7, c7, rfl, I7, b7⟩; have B7 := bx.trans (b7.mono bx.size); clear LT')
        | (go_at_call 48; refine (LR.out w7 _ B7).mono ?_; rintro e w8 ⟨a8, c8, rfl, I8, b8⟩; have B8 := B7.trans (b8.mono B7.size); have I7' := I7.later b8; clear I7)
        | (go_at_call 36; refine (SI.out w8 _ _ _ I7' I8).mono ?_; rintro e w9 ⟨rfl, b9⟩; have B9 := B8.trans (b9.mono B8.size)))
      refine ⟨⟨j + 1, by omega, ?_, B9⟩, by simp [intOf]; omega⟩
      congr 1
      omega
    · have i1 : ¬ (j : Int) - 1 ≤ 13 := by omega
      have BX := hide bx
      clear bx LT LR SI HB6
      go_wp2_with (fail)
      go_loopw [8] (fun i wr => ∃ q : Nat, q ≤ n ∧ i = .int .i64 (q : Int) ∧ Below w.heap.size w wr) (fun i _ => n - (intOf i).toNat)
      case atStart => exact ⟨0, Nat.zero_le _, rfl, BX.out⟩
      case round =>
        obtain ⟨q, hq, rfl, bq⟩ := hrel
        clear BX
        by_cases hqn : q < n
        · have qA : q < A.length := by have := HN.out; omega
          obtain ⟨ab, ao, rfl, hcell⟩ : ∃ b off, a = some ⟨b, off, none⟩ ∧ ∀ j (h : j < A.length), w.cell? ⟨b, off + j * 5, none⟩ = some (str A[j].key) ∧ w.cell? ⟨b, off + j * 5 + 1, none⟩ = some (.int .i64 A[j].seq) ∧ w.cell? ⟨b, off + j * 5 + 2, none⟩ = some (str A[j].lo) ∧ w.cell? ⟨b, off + j * 5 + 3, none⟩ = some (str A[j].hi) ∧ w.cell? ⟨b, off + j * 5 + 4, none⟩ = some (.int .i64 A[j].lane) := by
            obtain ⟨a', cap', e', hf⟩ := HA.out.form
            simp only [Value.slice.injEq] at e'
            rw [e'.1]
            exact hf (fun h0 => by rw [h0] at qA; cases qA)
          obtain ⟨d0, d1, d2, d3, d4⟩ := hcell q qA
          replace d0 := keepC bq d0
          replace d1 := keepC bq d1
          replace d2 := keepC bq d2
          replace d3 := keepC bq d3
          replace d4 := keepC bq d4
          generalize A[q] = X at *
          obtain ⟨qk, qs, qf, qt, ql⟩ := X
          simp only at d0 d1 d2 d3 d4
          have q1 : (q : Int) < (n : Int) := by omega
          have q0 : (0 : Int) ≤ (q : Int) := by omega
          obtain ⟨o, ho⟩ : ∃ o, o = Mm.gotL l qk qs := ⟨_, rfl⟩
          have GT : Hid (∀ wx, Below w.heap.size w wx → Calls Try.prog 33 #[.pointer (some ⟨t, 0, none⟩), str qk, .int .i64 qs] wx fun r w' => r = .returned (.tuple #[entV (o.getD ⟨[], [], 0, false⟩), .bool o.isSome]) ∧ Below wx.heap.size wx w') := fun wx hb => by
            rw [← got_val, ho]
            exact get_s (HH.out.tab.later hb) (by have := HH.out.few; omega) qk qs
          have GR : Hid (∀ wx, Below w.heap.size w wx → Calls Try.prog 49 #[.pointer (some ⟨b, 0, none⟩), str qk, .int .i64 qs] wx fun r w' => r = .returned (.tuple #[entV (o.getD ⟨[], [], 0, false⟩), .bool o.isSome]) ∧ Below wx.heap.size wx w') := fun wx hb => by
            rw [← found_val, ho, got_is l HH.out.tab.sorted qk qs]
            exact rget_any (HH.out.ref.later hb) (by rw [esL_len]; have := HH.out.few; omega) qk qs
          obtain ⟨C, hC⟩ : ∃ C, C = Mm.costL l qk qs := ⟨_, rfl⟩
          have CT : Hid (∀ wx, Below w.heap.size w wx → Calls Try.prog 50 #[.pointer (some ⟨t, 0, none⟩), str qk, .int .i64 qs] wx fun r w' => r = .returned (.int .i64 (C : Int)) ∧ Below wx.heap.size wx w') := fun wx hb => by
            rw [hC]
            exact cost_s (HH.out.tab.later hb) (by have := HH.out.few; omega) qk qs
          have CR : Hid (∀ wx, Below w.heap.size w wx → Calls Try.prog 51 #[.pointer (some ⟨b, 0, none⟩), str qk, .int .i64 qs] wx fun r w' => r = .returned (.int .i64 (C : Int)) ∧ Below wx.heap.size wx w') := fun wx hb => by
            rw [hC, cost_is l HH.out.tab.sorted qk qs]
            exact rcost_any (HH.out.ref.later hb) (by rw [esL_len]; have := HH.out.few; omega) qk qs
          obtain ⟨TL, hTL⟩ : ∃ TL, TL = Mm.told qs (Mm.spanL qf qt (esL l)) := ⟨_, rfl⟩
          have hTl : TL.length ≤ 60 := by
            rw [hTL]
            have h1 := Mm.told_len qs (Mm.spanL qf qt (esL l))
            have h2 : (Mm.spanL qf qt (esL l)).length ≤ (esL l).length := List.length_filter_le _ _
            rw [esL_len] at h2
            have := HH.out.few
            omega
          have ST : Hid (∀ wx, Below w.heap.size w wx → Calls Try.prog 19 #[.pointer (some ⟨t, 0, none⟩), .agg #[str qf, str qt], .int .i64 qs] wx fun r w' => ∃ v, r = .returned v ∧ EntsAt w' v TL ∧ Below wx.heap.size wx w') := fun wx hb => by
            obtain ⟨hv', hd', ns', T', hl', hS'⟩ := HH.out.tab.later hb
            have hlen : ns'.length ≤ 100000 := by have := HH.out.few; rw [← hl', List.length_map] at this; omega
            refine (scan_any wx t hv' _ hd' ns' T' hlen qf qt qs).mono ?_
            rintro e w' ⟨v, rfl, o', bb⟩
            rw [hl', span_is l HH.out.tab.sorted (fun x hx => (may_facts (HH.out.ok x hx)).1), ← hTL] at o'
            exact ⟨v, rfl, EntsAt.own o', bb⟩
          have SR : Hid (∀ wx, Below w.heap.size w wx → Calls Try.prog 52 #[.pointer (some ⟨b, 0, none⟩), .agg #[str qf, str qt], .int .i64 qs] wx fun r w' => ∃ v, r = .returned v ∧ EntsAt w' v TL ∧ Below wx.heap.size wx w') := fun wx hb => by
            refine (rtscan_any (HH.out.ref.later hb) (by rw [esL_len]; have := HH.out.few; omega) qf qt qs).mono ?_
            rintro e w' ⟨v, rfl, o', bb⟩
            rw [← hTL] at o'
            exact ⟨v, rfl, EntsAt.own o', bb⟩
          have SET : Hid (∀ wx u u2, EntsAt wx u TL → EntsAt wx u2 TL → Calls Try.prog 20 #[u, u2] wx fun e w' => e = .returned (.bool true) ∧ Below wx.heap.size wx w') := fun wx u u2 h1 h2 => samee_any wx u u2 _ h1 h2 (by omega)
          generalize o.getD ⟨[], [], 0, false⟩ = EX at *
          generalize o.isSome = OK at *
          obtain ⟨K, V, Q, D⟩ := EX
          have NE := neq_same K V Q D
          have iC : ((C : Int) != (C : Int)) = false := by simp
          have iO : (OK != OK) = false := by simp
          obtain ⟨WA, hWA⟩ : ∃ WA, WA = wr.alloc (.cells #[str qk, .int .i64 qs, str qf, str qt, .int .i64 ql] 79) := ⟨_, rfl⟩
          obtain ⟨AB, hAB⟩ : ∃ AB, AB = wr.heap.size := ⟨_, rfl⟩
          have BA : Hid (Below w.heap.size w WA) := by show Below _ _ _; rw [hWA]; exact bq.alloc bq.size _
          have CA : Hid (∀ wx, Below WA.heap.size WA wx → wx.cell? ⟨AB, 0, none⟩ = some (str qk) ∧ wx.cell? ⟨AB, 1, none⟩ = some (.int .i64 qs) ∧ wx.cell? ⟨AB, 2, none⟩ = some (str qf) ∧ wx.cell? ⟨AB, 3, none⟩ = some (str qt) ∧ wx.cell? ⟨AB, 4, none⟩ = some (.int .i64 ql)) := fun wx hb => by
            have h0 : ∀ k, WA.cell? ⟨AB, k, none⟩ = (#[str qk, .int .i64 qs, str qf, str qt, .int .i64 ql] : Array Value)[k]? := fun k => by
              rw [hWA, hAB]
              exact Joins.cell_of_block (World.alloc_heap_new wr _) k
            exact ⟨keepC hb (h0 0), keepC hb (h0 1), keepC hb (h0 2), keepC hb (h0 3), keepC hb (h0 4)⟩
          obtain ⟨a0, a1, a2, a3, a4⟩ := CA.out WA (Below.refl _ _)
          have HWA := hide hWA
          have HAB := hide hAB
          rw [hAB, hWA] at a0 a1 a2 a3 a4
          have GTW := hide (GT.out WA BA.out)
          rw [hWA] at GTW
          clear ho hC hTL hcell qA hWA hAB GT
          go_wp2_with (first
            | (go_at_call 33; refine GTW.out.mono ?_; rintro e w7 ⟨rfl, b7⟩; rw [← HWA.out] at b7; clear GTW a0 a1 a2 a3 a4; have B7 := BA.out.trans (b7.mono BA.out.size); have X7 := b7.alloc b7.size (.cells #[str K, str V, .int .i64 Q, .bool D] 38); obtain ⟨a0, a1, a2, a3, a4⟩ := CA.out _ X7; rw [HAB.out] at a0 a1 a2 a3 a4; have GRW := hide (GR.out _ (B7.alloc B7.size (.cells #[str K, str V, .int .i64 Q, .bool D] 38))); clear GR)
            | (go_at_call 49; refine GRW.out.mono ?_; rintro e w8 ⟨rfl, b8⟩; clear GRW a0 a1 a2 a3 a4))
          obtain ⟨WY, hWY⟩ : ∃ WY, WY = w8.alloc (.cells #[str K, str V, .int .i64 Q, .bool D] 38) := ⟨_, rfl⟩
          obtain ⟨WX, hWX⟩ : ∃ WX, WX = w7.alloc (.cells #[str K, str V, .int .i64 Q, .bool D] 38) := ⟨_, rfl⟩
          obtain ⟨XB, hXB⟩ : ∃ XB, XB = w7.heap.size := ⟨_, rfl⟩
          obtain ⟨YB, hYB⟩ : ∃ YB, YB = w8.heap.size := ⟨_, rfl⟩
          rw [← hWX] at b8 X7
          have Y8 : Below w8.heap.size w8 WY := by rw [hWY]; exact (Below.refl _ _).alloc (Nat.le_refl _) _
          have XY : Below WX.heap.size WX WY := b8.trans (Y8.mono b8.size)
          have AY : Below WA.heap.size WA WY := X7.trans (XY.mono X7.size)
          have BY : Below w.heap.size w WY := BA.out.trans (AY.mono BA.out.size)
          have KC : Hid (∀ wx, Below WY.heap.size WY wx → (wx.cell? ⟨AB, 0, none⟩ = some (str qk) ∧ wx.cell? ⟨AB, 1, none⟩ = some (.int .i64 qs) ∧ wx.cell? ⟨AB, 2, none⟩ = some (str qf) ∧ wx.cell? ⟨AB, 3, none⟩ = some (str qt) ∧ wx.cell? ⟨AB, 4, none⟩ = some (.int .i64 ql)) ∧ (wx.cell? ⟨XB, 0, none⟩ = some (str K) ∧ wx.cell? ⟨XB, 1, none⟩ = some (str V) ∧ wx.cell? ⟨XB, 2, none⟩ = some (.int .i64 Q) ∧ wx.cell? ⟨XB, 3, none⟩ = some (.bool D)) ∧ (wx.cell? ⟨YB, 0, none⟩ = some (str K) ∧ wx.cell? ⟨YB, 1, none⟩ = some (str V) ∧ wx.cell? ⟨YB, 2, none⟩ = some (.int .i64 Q) ∧ wx.cell? ⟨YB, 3, none⟩ = some (.bool D))) := fun wx hb => by
            have hx : ∀ k, WX.cell? ⟨XB, k, none⟩ = (#[str K, str V, .int .i64 Q, .bool D] : Array Value)[k]? := fun k => by rw [hWX, hXB]; exact Joins.cell_of_block (World.alloc_heap_new w7 _) k
            have hy : ∀ k, WY.cell? ⟨YB, k, none⟩ = (#[str K, str V, .int .i64 Q, .bool D] : Array Value)[k]? := fun k => by rw [hWY, hYB]; exact Joins.cell_of_block (World.alloc_heap_new w8 _) k
            have h1 := XY.trans (hb.mono XY.size)
            exact ⟨CA.out wx (AY.trans (hb.mono AY.size)), ⟨keepC h1 (hx 0), keepC h1 (hx 1), keepC h1 (hx 2), keepC h1 (hx 3)⟩, keepC hb (hy 0), keepC hb (hy 1), keepC hb (hy 2), keepC hb (hy 3)⟩
          rw [← HAB.out, ← hXB, ← hYB, ← hWY]
          have Dd := (Below.refl WY.heap.size WY).drew
          have BD := BY.drew
          have P0 := KC.out WY.drew Dd
          clear hWY hWX hXB hYB HWA HAB CA b8 X7 Y8 XY AY b7 B7 BA d0 d1 d2 d3 d4
          go_region_held3 (fun wx => (wx.cell? ⟨AB, 0, none⟩ = some (str qk) ∧ wx.cell? ⟨AB, 1, none⟩ = some (.int .i64 qs) ∧ wx.cell? ⟨AB, 2, none⟩ = some (str qf) ∧ wx.cell? ⟨AB, 3, none⟩ = some (str qt) ∧ wx.cell? ⟨AB, 4, none⟩ = some (.int .i64 ql)) ∧ (wx.cell? ⟨XB, 0, none⟩ = some (str K) ∧ wx.cell? ⟨XB, 1, none⟩ = some (str V) ∧ wx.cell? ⟨XB, 2, none⟩ = some (.int .i64 Q) ∧ wx.cell? ⟨XB, 3, none⟩ = some (.bool D)) ∧ (wx.cell? ⟨YB, 0, none⟩ = some (str K) ∧ wx.cell? ⟨YB, 1, none⟩ = some (str V) ∧ wx.cell? ⟨YB, 2, none⟩ = some (.int .i64 Q) ∧ wx.cell? ⟨YB, 3, none⟩ = some (.bool D)))
            (first | exact P0 | exact P1 | exact P2 | exact P3 | exact P4 | exact P5)
            (first
              | (go_at_call 50; refine (CT.out _ BD).mono ?_; rintro e u1 ⟨rfl, b1⟩; have D1 := Dd.trans (b1.mono Dd.size); have B1 := BY.trans (D1.mono BY.size); have P1 := KC.out _ D1; clear CT)
              | (go_at_call 51; refine (CR.out _ B1).mono ?_; rintro e u2 ⟨rfl, b2⟩; have D2 := D1.trans (b2.mono D1.size); have B2 := BY.trans (D2.mono BY.size); have P2 := KC.out _ D2; clear CR)
              | (go_at_call 19; refine (ST.out _ B2).mono ?_; rintro e u3 ⟨v3, rfl, E3, b3⟩; have D3 := D2.trans (b3.mono D2.size); have B3 := BY.trans (D3.mono BY.size); have P3 := KC.out _ D3; clear ST)
              | (go_at_call 52; refine (SR.out _ B3).mono ?_; rintro e u4 ⟨v4, rfl, E4, b4⟩; have D4 := D3.trans (b4.mono D3.size); have B4 := BY.trans (D4.mono BY.size); have P4 := KC.out _ D4; have E3' := E3.later b4; clear SR)
              | (go_at_call 20; refine (SET.out _ _ _ E3' E4).mono ?_; rintro e u5 ⟨rfl, b5⟩; have D5 := D4.trans (b5.mono D4.size); have B5 := BY.trans (D5.mono BY.size); have P5 := KC.out _ D5; clear SET))
          go_wp2_with (fail)
          exact ⟨⟨q + 1, by omega, by go_num, B5⟩, by simp [intOf]; omega⟩
        · have q1 : ¬ (q : Int) < (n : Int) := by omega
          go_wp2_with (fail)
          go_ret
          exact ⟨rfl, bq⟩
end Go.Proofs.Ytbdgdigpnfpnhaa.Q.P
