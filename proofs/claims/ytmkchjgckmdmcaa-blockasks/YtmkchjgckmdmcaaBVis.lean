/-
  Visible: what it answers of entries in order.
-/
import Derived.Test.YtmkchjgckmdmcaaBTell
import Derived.Test.YtmkchjgckmdmcaaBDec2
import Derived.Deep.Cut
import Derived.Deep.CutRange
namespace Go.Proofs.Ytmkchjgckmdmcaa
open Go.RowKit

theorem EntsAt.drop {w : World} {a : Option Addr} {n c : Nat} {l : List Mm.Ent} (h : EntsAt w (.slice a n c) l) (r c' : Nat) : EntsAt w (.slice (a.map fun x => x.add (r * 4)) (n - r) c') (l.drop r) := by
  obtain ⟨⟨a', c2, e, hf⟩⟩ := h
  cases e
  refine ⟨⟨_, _, by rw [List.length_drop], fun h0 => ?_⟩⟩
  obtain ⟨b, off, rfl, hat⟩ := hf (fun e => h0 (by rw [e]; simp))
  have hadd : (⟨b, off, none⟩ : Addr).add (r * 4) = ⟨b, off + r * 4, none⟩ := by unfold Addr.add; split <;> simp_all
  refine ⟨b, off + r * 4, by show Option.some (Addr.add _ _) = _; rw [hadd], fun j hj => ?_⟩
  rw [List.length_drop] at hj
  have := hat (r + j) (by omega)
  rw [List.getElem_drop]
  rw [show off + r * 4 + j * 4 = off + (r + j) * 4 by rw [Nat.add_mul]; omega]
  exact this
theorem takeWhile_at {α : Type} (p : α → Bool) (l : List α) (j : Nat) (h : j < l.length) (h1 : ∀ x ∈ l.take j, p x = true) (h2 : p l[j] = false) : l.takeWhile p = l.take j := by
  have e : l = l.take j ++ l[j] :: l.drop (j + 1) := by rw [← List.drop_eq_getElem_cons h, List.take_append_drop]
  conv => lhs; rw [e]
  rw [List.takeWhile_append_of_pos h1, List.takeWhile_cons, h2]
  simp
theorem takeWhile_all {α : Type} (p : α → Bool) (l : List α) (h1 : ∀ x ∈ l, p x = true) : l.takeWhile p = l := by
  induction l with
  | nil => rfl
  | cons a r ih => rw [List.takeWhile_cons, h1 a (by simp), if_pos rfl, ih (fun x hx => h1 x (by simp [hx]))]
theorem own_someE {w : World} {base e size n : Nat} {v : Value} {xs : List Value} (h : w.ownsRow base e size v n xs) (h0 : n ≠ 0) : ∃ g cap, v = .slice (some ⟨g, 0, none⟩) n cap := by
  rcases h.2 with ⟨_, h1⟩ | ⟨g, cap, cur, rfl, _⟩
  · exact absurd h1 h0
  · exact ⟨g, cap, rfl⟩
theorem last_cell {w : World} {g n cap : Nat} {o : List Mm.Ent} {y : Mm.Ent} (h : EntsAt w (.slice (some ⟨g, 0, none⟩) n cap) (o ++ [y])) : w.cell? ⟨g, o.length * 4, none⟩ = some (str y.key) := by
  have := (h.cells o.length (by simp)).1
  rw [Nat.zero_add] at this
  simpa using this
/-- Is the key told already? -/
def toldB (out : List Mm.Ent) (x : Mm.Ent) : Bool := decide (out.getLast?.map (·.key) = some x.key)
theorem toldB_snoc (o : List Mm.Ent) (y x : Mm.Ent) : toldB (o ++ [y]) x = (y.key == x.key) := by
  have h : (o ++ [y]).getLast?.map (·.key) = some y.key := by simp
  by_cases e : y.key = x.key
  · rw [e]
    simp only [beq_self_eq_true]
    exact decide_eq_true (h.trans (by rw [e]))
  · rw [beq_eq_false_iff_ne.2 e]
    exact decide_eq_false (fun h2 => e (Option.some.inj (h.symm.trans h2)))
theorem tell_yes {seq : Int} {out : List Mm.Ent} {x : Mm.Ent} (h : x.seq ≤ seq) (ht : toldB out x = false) : Mm.tell seq out x = out ++ [x] := by
  unfold Mm.tell
  exact if_pos ⟨h, of_decide_eq_false ht⟩
theorem tell_no {seq : Int} {out : List Mm.Ent} {x : Mm.Ent} (h : ¬ x.seq ≤ seq ∨ toldB out x = true) : Mm.tell seq out x = out := by
  unfold Mm.tell
  refine if_neg (fun hc => ?_)
  rcases h with h | h
  · exact h hc.1
  · exact hc.2 (of_decide_eq_true h)

set_option maxRecDepth 100000 in
set_option maxHeartbeats 8000000 in
theorem visible_any (w : World) (a : Option Addr) (c n : Nat) (l : List Mm.Ent) (h : EntsAt w (.slice a n c) l) (hn : n = l.length) (hl : n ≤ 1000000) (hc : n ≤ c) (hk : ∀ x ∈ l, x.key.length ≤ 1000000 ∧ x.value.length ≤ 1000000) (hu : Mm.Up l) (f t : List UInt8) (seq : Int) :
    Calls Try.prog 30 #[.slice a n c, .agg #[str f, str t], .int .i64 seq] w fun e w' => ∃ v, e = .returned v ∧ w'.ownsRow w.heap.size 27 4 v (Mm.told seq (Mm.spanL f t l)).length (ecs (Mm.told seq (Mm.spanL f t l))) ∧ Below w.heap.size w w' := by
  obtain ⟨i0, hi, hz0, hz1, hz2⟩ := info_parts infoE
  obtain ⟨W, hW⟩ : ∃ W, W = (w.alloc (.cells #[.slice a n c] 22)).alloc (.cells #[str f, str t] 50) := ⟨_, rfl⟩
  have b0 : Below w.heap.size w W := by rw [hW]; exact ((Below.refl _ _).alloc (Nat.le_refl _) _).alloc (by simp) _
  have e0 : W.heap[w.heap.size]? = some (.cells #[.slice a n c] 22 (0, 0)) := by rw [hW]; exact (Below.heap_alloc _ _ _ (by simp)).trans (World.alloc_heap_new w _)
  have y0 : W.heap[w.heap.size + 1]? = some (.cells #[str f, str t] 50 (0, 0)) := by
    rw [hW]
    have := World.alloc_heap_new (w.alloc (.cells #[.slice a n c] 22)) (.cells #[str f, str t] 50)
    rw [World.size_alloc] at this
    exact this
  have SR : Hid (Calls Try.prog 38 #[.int .i64 (n : Int), .func (.func 62) #[] #[.pointer (some ⟨w.heap.size, 0, none⟩), .pointer (some ⟨w.heap.size + 1, 0, none⟩)]] W fun e w' => ∃ r : Nat, e = .returned (.int .i64 (r : Int)) ∧ Hid (r ≤ n ∧ (l.drop r).takeWhile (fun x => Mm.inB x.key f t) = Mm.spanL f t l) ∧ Below W.heap.size W w') := by
    refine (search_vis W n hl _ _ (fun i => if h : i < l.length then !Op.bytesLess l[i].key f else true) ?_ ?_).mono ?_
    · intro i j hij hp
      by_cases hj : j < l.length
      · rw [dif_pos hj]
        rw [dif_pos (by omega)] at hp
        cases hc : Op.bytesLess l[j].key f with
        | false => rfl
        | true => rw [Mm.told_key hu i j hij hj f hc] at hp; cases hp
      · rw [dif_neg hj]
    · intro wx hx i hi
      have hil : i < l.length := by omega
      refine (vis_asks wx a c n l ((h.later b0).later hx) hn w.heap.size (w.heap.size + 1) f t (keepC hx (Joins.cell_of_block e0 0)) (keepC hx (Joins.cell_of_block y0 0)) i hil (by omega)).mono ?_
      rintro e w' ⟨rfl, b⟩
      refine ⟨?_, b⟩
      rw [dif_pos hil]
    · rintro e w' ⟨r, rfl, hr, h1, h2, b⟩
      refine ⟨r, rfl, ⟨hr, Mm.span_drop f t l hu r (by omega) (fun k hk hkr => ?_) (fun k hk hkr => ?_)⟩, b⟩
      · have := h1 k hkr
        rw [dif_pos hk] at this
        simpa using this
      · have := h2 k hkr (by omega)
        rw [dif_pos hk] at this
        simpa using this
  have IN : Hid (∀ wx k, Calls Try.prog 63 #[str k, .agg #[str f, str t]] wx fun e w' => e = .returned (.bool (Mm.inB k f t)) ∧ Below wx.heap.size wx w') := fun wx k => in_any wx k f t
  have OW : Hid (∀ wx, ∀ x ∈ l, Calls Try.prog 41 #[entV x] wx fun e w' => e = .returned (entV x) ∧ Below wx.heap.size wx w') := fun wx x hx => own_e wx x (hk x hx).1 (hk x hx).2
  have HE := hide e0
  have HY := hide y0
  have HB := hide b0
  have HA := hide (h.later b0)
  have HN : Hid (n = l.length) := hn
  have HW : Hid (W = (w.alloc (.cells #[.slice a n c] 22)).alloc (.cells #[str f, str t] 50)) := hW
  rw [hW] at SR
  clear h hk hu hW e0 y0 b0 hn
  go_enter Try.func30, Try.ntmps30
  go_wp2_with (fail)
  refine SR.out.mono ?_
  rintro e w1 ⟨r, rfl, HR, b1⟩
  rw [← HW.out] at b1
  clear SR
  have hrn := HR.out.1
  have SP := hide HR.out.2
  have A1 := hide (HA.out.later b1)
  have E1 := hide (keepB b1 HE.out)
  have Y1 := hide (keepB b1 HY.out)
  have B1 : Below w.heap.size w w1 := HB.out.trans (b1.mono HB.out.size)
  have x0 : w1.cell? ⟨w.heap.size, 0, none⟩ = some (.slice a n c) := Joins.cell_of_block E1.out 0
  have z1 : w.heap.size + 1 < w1.heap.size := (Array.getElem?_eq_some_iff.1 Y1.out).1
  have k1 : (r : Int) ≤ (n : Int) := by omega
  have k2 : (n : Int) ≤ (c : Int) := by omega
  have k3 : (r : Int) ≤ (c : Int) := by omega
  clear HA HE HY HB HW HR b1
  by_cases k4 : c = r
  · have hz : n - r = 0 := by omega
    have SN : Hid (Mm.told seq (Mm.spanL f t l) = []) := by
      show _ = _
      rw [← SP.out, List.drop_eq_nil_of_le (by have := HN.out; omega)]
      rfl
    clear A1 IN OW SP
    go_wp2_with (fail)
    refine wp_loop_rounds 1 ?_
    rw [rounds_succ]
    go_wp2_with (fail)
    go_ret
    rw [SN.out]
    exact ⟨_, rfl, World.ownsRow_nil _ _ _ _, B1⟩
  have AD := hide (A1.out.drop r (c - r))
  have HM : Hid ((l.drop r).length = n - r) := by show _ = _; rw [List.length_drop, ← HN.out]
  have OM : Hid (∀ wx, ∀ x ∈ l.drop r, Calls Try.prog 41 #[entV x] wx fun e w' => e = .returned (entV x) ∧ Below wx.heap.size wx w') := fun wx x hx => OW.out wx x (List.mem_of_mem_drop hx)
  clear A1 OW HN
  go_wp2_with (fail)
  generalize l.drop r = M at *
  generalize hA : (Option.map (fun x => Addr.add x (r * 4)) a) = A at *
  have hm : n - r ≤ 1000000 := by omega
  generalize n - r = m at *
  generalize c - r = C at *
  clear hA k1 k2 k3 k4 hrn x0
  go_loopw [7, 20] (fun v i wr => ∃ j : Nat, j ≤ m ∧ i = .int .i64 j ∧ Below w1.heap.size w1 wr ∧ Hid (∀ x ∈ M.take j, Mm.inB x.key f t = true) ∧ wr.ownsRow w1.heap.size 27 4 v (Mm.told seq (M.take j)).length (ecs (Mm.told seq (M.take j)))) (fun _ i _ => m - (intOf i).toNat)
  case atStart => exact ⟨0, Nat.zero_le _, rfl, Below.refl _ _, fun x hx => by simp at hx, World.ownsRow_nil _ _ _ _⟩
  case round =>
    obtain ⟨j, hj, rfl, bx, HI, o⟩ := hrel
    by_cases hlt : j < m
    · have jl : j < M.length := by have := HM.out; omega
      obtain ⟨b, off, rfl⟩ := (AD.out).some (by omega)
      obtain ⟨c0, c1, c2, c3⟩ := (AD.out.later bx).cells j jl
      have s0 : wr.cell? ⟨w.heap.size + 1, 0, none⟩ = some (str f) := keepC bx (Joins.cell_of_block Y1.out 0)
      have s1 : wr.cell? ⟨w.heap.size + 1, 1, none⟩ = some (str t) := keepC bx (Joins.cell_of_block Y1.out 1)
      have z2 : w.heap.size + 1 < wr.heap.size := Nat.lt_of_lt_of_le z1 bx.size
      have hxm := List.getElem_mem jl
      have OX := hide (fun wx => OM.out wx M[j] hxm)
      have TS : Hid (Mm.told seq (M.take (j + 1)) = Mm.tell seq (Mm.told seq (M.take j)) M[j]) := by show _ = _; rw [List.take_succ_eq_append_getElem jl, Mm.told_snoc]
      have HI2 : Hid (Mm.inB M[j].key f t = true → ∀ x ∈ M.take (j + 1), Mm.inB x.key f t = true) := fun ht x hx => by
        rw [List.take_succ_eq_append_getElem jl] at hx
        rcases List.mem_append.1 hx with hx | hx
        · exact HI.out x hx
        · obtain rfl := List.mem_singleton.1 hx; exact ht
      have HI3 : Hid (Mm.inB M[j].key f t = false → Mm.told seq (Mm.spanL f t l) = Mm.told seq (M.take j)) := fun hf => by rw [← SP.out, takeWhile_at _ M j jl HI.out hf]
      have hlo : (Mm.told seq (M.take j)).length ≤ m := by have := Mm.told_len seq (M.take j); rw [List.length_take] at this; omega
      have IX := hide (fun wx => IN.out wx M[j].key)
      generalize M[j] = x at *
      generalize Mm.told seq (M.take j) = out at *
      generalize hIB : Mm.inB x.key f t = ib at *
      obtain ⟨K, V, Q, D⟩ := x
      simp only at c0 c1 c2 c3
      clear hIB HI hxm OM IN SP AD
      cases ib with
      | false =>
        have HT := hide (HI3.out rfl)
        clear HI2 HI3 OX TS
        go_wp2_with (first
          | (go_at_call 63; refine (IX.out _).mono ?_; rintro e w2 ⟨rfl, b2⟩))
        go_ret
        rw [HT.out]
        have b3 := ((Below.refl wr.heap.size wr).alloc (Nat.le_refl _) _).trans (b2.mono (by simp))
        exact ⟨_, rfl, own_lift (own_after o b3) (by omega), B1.trans ((bx.trans (b3.mono bx.size)).mono B1.size)⟩
      | true =>
        have HJ := hide (HI2.out rfl)
        clear HI2 HI3
        go_wp2_with (first
          | (go_at_call 63; refine (IX.out _).mono ?_; rintro e w2 ⟨rfl, b2⟩))
        have b3 := ((Below.refl wr.heap.size wr).alloc (Nat.le_refl _) (.cells #[str K, str V, .int .i64 Q, .bool D] 27)).trans (b2.mono (by simp))
        have o2 := own_after o b3
        have e2 : w2.heap[wr.heap.size]? = some (eO ⟨K, V, Q, D⟩) := keepB b2 (World.alloc_heap_new wr _)
        have B2 := bx.trans (b3.mono bx.size)
        have O2 := hide o2
        have E2 := hide e2
        clear o b2 b3 bx s0 s1 c0 c1 c2 c3 IX
        go_cut [11] from 29 to 43 (fun q wx => q = .bool (toldB out ⟨K, V, Q, D⟩) ∧ Below w2.heap.size w2 wx)
        case first =>
          have d0 : w2.cell? ⟨wr.heap.size, 0, none⟩ = some (str K) := Joins.cell_of_block e2 0
          rcases List.eq_nil_or_concat out with ho | ⟨o', y, ho⟩
          · subst ho
            obtain ⟨a', c', rfl⟩ := row_shape o2
            clear o2 O2 E2 e2 TS OX
            go_quiet (fail)
            go_wp2_with (fail)
            go_meet
            case rel => exact ⟨rfl, below_drewN (Below.refl _ _) _⟩
          · rw [List.concat_eq_append] at ho
            subst ho
            have hol : (o' ++ [y]).length = o'.length + 1 := by simp
            have hcl := (EntsAt.own o2)
            rw [hol] at o2
            obtain ⟨g, cap, rfl⟩ := own_someE o2 (by omega)
            have d1 := last_cell hcl
            have hTB : toldB (o' ++ [y]) ⟨K, V, Q, D⟩ = (y.key == K) := toldB_snoc _ _ _
            have HTB := hide hTB
            rw [hol] at hlo
            clear o2 O2 E2 e2 TS OX hcl hTB hol
            generalize o'.length = k at *
            generalize y.key = YK at *
            have q1 : ((k + 1 : Nat) : Int) > 0 := by omega
            have q2 : (k : Int) < ((k + 1 : Nat) : Int) := by omega
            have q3 : (0 : Int) ≤ (k : Int) := by omega
            have hK : (YK == K) = true ∨ (YK == K) = false := by cases (YK == K) <;> simp
            rcases hK with hK | hK
            · go_quiet (fail)
              go_wp2_with (fail)
              go_meet
              case rel => exact ⟨by rw [HTB.out, hK], below_drewN (Below.refl _ _) _⟩
            · go_quiet (fail)
              go_wp2_with (fail)
              go_meet
              case rel => exact ⟨by rw [HTB.out, hK], below_drewN (Below.refl _ _) _⟩
        case rest =>
          obtain ⟨rfl, b4⟩ := hcut
          have o4 := hide (own_after O2.out b4)
          have e4 := keepB b4 E2.out
          obtain ⟨d0, d1, d2, d3, _⟩ := slot4 e4
          have B4 := B2.trans (b4.mono B2.size)
          have CN : Hid (∀ W : World, ∀ B, B = W.heap.size → ∀ i u, (ecs [⟨K, V, Q, D⟩])[i]? = some u → (W.alloc (.cells #[str K, str V, .int .i64 Q, .bool D] 27)).cell? ((⟨B, 0, none⟩ : Addr).add i) = some u) := fun W B hB => ec_new W ⟨K, V, Q, D⟩ B hB
          have HL : Hid ((ecs [⟨K, V, Q, D⟩]).length = 1 * 4) := rfl
          have HO : Hid (∀ u ∈ ecs [⟨K, V, Q, D⟩], u.oneCell' = true) := ecs_one _
          have Z1 : Hid (out.length + 1 ≤ maxLen) := by show _ ≤ _; unfold maxLen; omega
          have Z2 : Hid ((out.length + 1) * 48 ≤ 140737488355328) := by show _ ≤ _; omega
          clear e4 O2 E2 o2 e2 B2 b4
          by_cases hs : Q ≤ seq
          · cases hT : toldB out ⟨K, V, Q, D⟩ with
            | true =>
              have HT : Hid (Mm.told seq (M.take (j + 1)) = out) := by show _ = _; rw [TS.out]; exact tell_no (.inr hT)
              clear TS hT OX
              go_wp2_with (fail)
              refine ⟨⟨j + 1, by omega, by go_num, B4, HJ, ?_⟩, by simp [intOf]; omega⟩
              rw [HT.out]
              exact o4.out
            | false =>
              have HT : Hid (Mm.told seq (M.take (j + 1)) = out ++ [⟨K, V, Q, D⟩]) := by show _ = _; rw [TS.out]; exact tell_yes hs hT
              clear TS hT
              go_wp2_with (first
                | (go_at_call 41; refine (OX.out _).mono ?_; rintro e w5 ⟨rfl, b5⟩; have o5 := hide (own_after o4.out b5); have B5 := B4.trans (b5.mono B4.size); clear OX)
                | (at_builtin; refine wpList_append_lies _ rfl _ _ 22 rfl w1.heap.size 27 i0 _ 4 48 Try.underlying22 hi hz0 hz1 hz2 rfl (by decide) _ out.length _ rfl (o5.out.alloc _) ⟨w5.heap.size, 0, none⟩ 1 1 (ecs [⟨K, V, Q, D⟩]) rfl HL.out (CN.out _ _ rfl) HO.out (by decide) Z1.out Z2.out (by have := B5.size; simp; omega) _ rfl ?_; intro g6 cap6 w6 o6 h6 l6 lt6))
              have B6 : Below w1.heap.size w1 w6 := (B5.alloc B5.size _).grown h6 (by have := B5.size; simp; omega) (fun k hk => (o5.out.lt k hk).1)
              refine ⟨⟨j + 1, by omega, by go_num, B6, HJ, ?_⟩, by simp [intOf]; omega⟩
              rw [HT.out, List.length_append, ecs_append]
              exact o6
          · have HT : Hid (Mm.told seq (M.take (j + 1)) = out) := by show _ = _; rw [TS.out]; exact tell_no (.inl hs)
            clear TS OX
            go_wp2_with (fail)
            refine ⟨⟨j + 1, by omega, by go_num, B4, HJ, ?_⟩, by simp [intOf]; omega⟩
            rw [HT.out]
            exact o4.out
    · have e : j = m := by omega
      subst e
      have i3 : ¬ (j : Int) < (j : Int) := by omega
      have hT : M.take j = M := List.take_of_length_le (by have := HM.out; omega)
      have SN : Hid (Mm.told seq (Mm.spanL f t l) = Mm.told seq (M.take j)) := by
        show _ = _
        rw [← SP.out, hT, takeWhile_all _ M (by rw [hT] at HI; exact HI.out)]
      clear hT HI AD SP OM IN
      go_wp2_with (fail)
      go_ret
      rw [SN.out]
      exact ⟨_, rfl, own_lift o (by omega), B1.trans (bx.mono B1.size)⟩
end Go.Proofs.Ytmkchjgckmdmcaa
