/-
  Fold: the entries that somebody may still ask for.
-/
import Derived.Test.YtbdgdigpnfpnhaaBStays
import Derived.Test.YtbdgdigpnfpnhaaBRev
namespace Go.Proofs.Ytbdgdigpnfpnhaa
open Go.RowKit

structure IntsAt (w : World) (v : Value) (l : List Int) : Prop where
  form : ∃ a cap, v = .slice a l.length cap ∧ (a = none → l = [] ∧ cap = 0) ∧ (l ≠ [] → ∃ b off, a = some ⟨b, off, none⟩ ∧ ∀ j (h : j < l.length), w.cell? ⟨b, off + j, none⟩ = some (.int .i64 l[j]))
theorem IntsAt.later {w w' : World} {v : Value} {l : List Int} (h : IntsAt w v l) (hb : Below w.heap.size w w') : IntsAt w' v l := by
  obtain ⟨a, cap, e, h0, hf⟩ := h
  refine ⟨a, cap, e, h0, fun hl => ?_⟩
  obtain ⟨b, off, ha, hat⟩ := hf hl
  exact ⟨b, off, ha, fun j hj => keepC hb (hat j hj)⟩
theorem IntsAt.nil (w : World) : IntsAt w (.slice none 0 0) [] := ⟨none, 0, rfl, fun _ => ⟨rfl, rfl⟩, fun h => absurd rfl h⟩
def ics (l : List Int) : List Value := l.map fun n => Value.int .i64 n
theorem Try.infoI : (Try.prog.info? 3).map (fun i => (i.zero, i.size, i.bytes)) = some (some (.int .i64 0), 1, 8) := by kernel_rfl
theorem ics_one (l : List Int) : ∀ u ∈ ics l, u.oneCell' = true := by
  intro u hu
  obtain ⟨n, _, rfl⟩ := List.mem_map.1 hu
  rfl

theorem ics_length (l : List Int) : (ics l).length = l.length := by simp [ics]
theorem ints_cells {w : World} {ad : Addr} {k c : Nat} {B : List Int} (h : IntsAt w (.slice (some ad) k c) B) (j : Nat) (u : Value) (hu : (ics B)[j]? = some u) : w.cell? (ad.add j) = some u := by
  have hj : j < B.length := by
    have := (List.getElem?_eq_some_iff.1 hu).1
    rwa [ics_length] at this
  obtain ⟨a', c', e, _, hf⟩ := h
  obtain ⟨b, off, ha, hat⟩ := hf (fun e => by rw [e] at hj; simp at hj)
  cases e
  cases ha
  have hadd : (⟨b, off, none⟩ : Addr).add j = ⟨b, off + j, none⟩ := by unfold Addr.add; split <;> simp_all
  rw [hadd, hat j hj, ← hu]
  simp [ics, hj]
theorem wpList_app_ints (w : World) {ops : Array Oper} {rest : List Oper} {o : Oper} {a : Act} {Q : Exit → Act → World → Prop} (hg : o.guard = none) (s x : Operand)
    (hop : o.op = .call { callee := .builtin .append, args := #[s, x], argTypes := #[22, 22] })
    (base g cap : Nat) (A B : List Int) (n k c : Nat) (hn : n = A.length) (hk : k = B.length) (hs : a.eval s = .slice (some ⟨g, 0, none⟩) n cap) (hown : w.ownsRow base 3 1 (.slice (some ⟨g, 0, none⟩) n cap) n (ics A))
    (ao : Option Addr) (hx : a.eval x = .slice ao k c) (hin : IntsAt w (.slice ao k c) B) (hroom : n + k ≤ 1000000) (hbase : base ≤ w.heap.size)
    (h : ∀ g' cap' w', w'.ownsRow base 3 1 (.slice (some ⟨g', 0, none⟩) (n + k) cap') (n + k) (ics (A ++ B)) → w.grownBy w' (some g) → wpList Try.prog ops Q rest (a.put o.dst (.slice (some ⟨g', 0, none⟩) (n + k) cap')) w') :
    wpList Try.prog ops Q (o :: rest) a w := by
  obtain ⟨i0, hi, hz0, hz1, hz2⟩ := info_parts Try.infoI
  have hic : ics (A ++ B) = ics A ++ ics B := by simp [ics]
  by_cases hb0 : B = []
  · subst hb0
    subst hk
    have hnc : n ≤ cap := by
      rcases hown.2 with ⟨e, _⟩ | ⟨g', cap', cur, e, _, _, hnc, _⟩
      · cases e
      · simp only [Value.slice.injEq] at e; omega
    refine wpList_append_fits_any w hg s x 22 hop base 3 i0 1 Try.underlying22 hi hz1 g n cap (ics A) hs hown ao 0 c [] hx rfl (fun e => ?_) (fun ad _ j u hj => by simp at hj) (by simp) (by omega) ?_
    · obtain ⟨a', c', e', h0, _⟩ := hin
      cases e'
      exact ⟨rfl, (h0 e).2⟩
    · intro w' h1 h2
      refine h g cap w' ?_ h2
      rw [hic]
      exact h1
  · have hsome : ∃ ad, ao = some ad := by
      obtain ⟨a', c', e', _, hf⟩ := hin
      obtain ⟨b, off, ha, _⟩ := hf hb0
      cases e'
      exact ⟨_, ha⟩
    obtain ⟨ad, rfl⟩ := hsome
    refine wpList_append_lies w hg s x 22 hop base 3 i0 _ 1 8 Try.underlying22 hi hz0 hz1 hz2 rfl (by decide) _ n (ics A) hs hown ad k c (ics B) hx (by rw [ics_length, hk]; omega) (fun j u hu => ints_cells hin j u hu) (ics_one B) (by rw [hk]; exact List.length_pos_iff.2 hb0) (by unfold maxLen; omega) (by omega) hbase w.heap.size rfl ?_
    intro g' cap' w' h1 h2 _ _
    refine h g' cap' w' ?_ h2
    rw [hic]
    exact h1
/-- The numbers that are asked, in a row of the call's own. -/
structure AskedAt (base : Nat) (w0 w : World) (v : Value) (A : List Int) : Prop where
  own : w.ownsRow base 3 1 v A.length (ics A)
  bel : Below base w0 w
theorem AskedAt.parts {base : Nat} {w0 w : World} {g n cap : Nat} {A : List Int} (h : AskedAt base w0 w (.slice (some ⟨g, 0, none⟩) n cap) A) : (∀ j (h : j < A.length), w.cell? ⟨g, j, none⟩ = some (.int .i64 A[j])) ∧ (∀ j, w.frozen? ⟨g, j, none⟩ = false) ∧ g < w.heap.size ∧ base ≤ g ∧ n = A.length := by
  have hl := h.own.lt g rfl
  have hn : n = A.length := by
    rcases h.own.2 with ⟨e, _⟩ | ⟨g', cap', cur, e, _⟩
    · cases e
    · simp only [Value.slice.injEq] at e; exact e.2.1
  subst hn
  refine ⟨fun j hj => ?_, fun j => ?_, hl.2, hl.1, rfl⟩
  · rw [h.own.cellAt j (show j < A.length * 1 by omega)]
    simp [ics, hj]
  · rcases h.own.2 with ⟨e, _⟩ | ⟨g', cap', cur, e, _, hg, _⟩
    · cases e
    · simp only [Value.slice.injEq, Option.some.injEq, Addr.mk.injEq, and_true, true_and] at e
      obtain ⟨rfl, _⟩ := e
      exact Joins.unfrozen_of_block hg j

set_option maxRecDepth 100000 in
set_option maxHeartbeats 8000000 in
theorem fold_any (w : World) (a : Option Addr) (c n : Nat) (l : List Mm.Ent) (h : EntsAt w (.slice a n c) l) (hn : n = l.length) (hl : n ≤ 100000) (hk : ∀ x ∈ l, x.key.length ≤ 1000000 ∧ x.value.length ≤ 1000000) (ka : Option Addr) (kc kn : Nat) (keep : List Int) (hkeep : IntsAt w (.slice ka kn kc) keep) (hkn : kn = keep.length) (hkl : kn ≤ 100000) (last : Bool) :
    Calls Try.prog 29 #[.slice a n c, .slice ka kn kc, .bool last] w fun e w' => ∃ v, e = .returned v ∧ w'.ownsRow w.heap.size 38 4 v (Bk.foldR (1073741824 :: keep) last none l).length (ecs (Bk.foldR (1073741824 :: keep) last none l)) ∧ Below w.heap.size w w' := by
  obtain ⟨j0, hj, hy0, hy1, hy2⟩ := info_parts Try.infoI
  obtain ⟨i0, hi, hz0, hz1, hz2⟩ := info_parts infoE
  -- the numbers that are asked
  have L0 : (w.alloc (.cells #[.int .i64 1073741824] 3)).ownsRow w.heap.size 3 1 (.slice (some ⟨w.heap.size, 0, none⟩) 1 1) 1 (ics [1073741824]) := World.ownsRow_lit (size := 1) (e := 3) (base := w.heap.size) w #[.int .i64 1073741824] 1 (Nat.le_refl _) (by unfold maxLen; omega) rfl
  have b0 : Below w.heap.size w (w.alloc (.cells #[.int .i64 1073741824] 3)) := (Below.refl _ _).alloc (Nat.le_refl _) _
  have K0 := hkeep.later b0
  have HL0 := hide L0
  have HK0 := hide K0
  have HK := hide hkeep
  have H := hide h
  have HN : Hid (n = l.length) := hn
  have HKN : Hid (kn = keep.length) := hkn
  have OX : Hid (∀ wx, ∀ x ∈ l, Calls Try.prog 63 #[entV x] wx fun e w' => e = .returned (entV x) ∧ Below wx.heap.size wx w') := fun wx x hx => own_e wx x (hk x hx).1 (hk x hx).2
  clear h hkeep L0 b0 K0 hn hkn hk
  go_enter Try.func29, Try.ntmps29
  go_wp2_with (first
    | (at_builtin; refine wpList_app_ints _ rfl _ _ rfl w.heap.size w.heap.size 1 [1073741824] keep 1 kn kc rfl HKN.out rfl HL0.out ka rfl HK0.out (by omega) (by simp) ?_; intro g1 cap1 w1 o1 h1))
  have B1 : Below w.heap.size w w1 := ((Below.refl _ _).alloc (Nat.le_refl _) _).grown h1 (by simp) (fun k hk => by cases hk; exact Nat.le_refl _)
  have hA : 1 + kn = (1073741824 :: keep).length := by rw [List.length_cons, ← HKN.out]; omega
  have AA : AskedAt w.heap.size w w1 (.slice (some ⟨g1, 0, none⟩) (1 + kn) cap1) (1073741824 :: keep) := ⟨by have h2 := o1; rw [List.singleton_append] at h2; rw [← hA]; exact h2, B1⟩
  obtain ⟨p1, p2, p3, p4, p5⟩ := AA.parts
  clear p5
  have SR := sort_ints w1 g1 cap1 (1073741824 :: keep) p1 p2 p3 (by omega)
  rw [← hA] at SR
  refine SR.mono ?_
  rintro e w2 ⟨S, rfl, HS, hS, m2⟩
  have B2 : Below w.heap.size w w2 := B1.trans (m2.under B1.size (fun i hi => by omega))
  have hSl : S.length = 1 + kn := HS.out.2.2
  have EA := H.out.later B2
  have IS := hide hS
  have HEA := hide EA
  have HA := hide hA
  generalize hAA : (1073741824 :: keep : List Int) = A at *
  have HP : Hid (S.Perm A ∧ S.Pairwise (· ≤ ·)) := ⟨HS.out.1, HS.out.2.1⟩
  have ST : Hid (∀ wx, Below w2.heap.size w2 wx → ∀ i (hi : i < l.length), Calls Try.prog 67 #[.slice a n c, .int .i64 (i : Int), .slice (some ⟨g1, 0, none⟩) (1 + kn) cap1] wx fun e w' => e = .returned (.bool (Bk.staysB A (predE l i) l[i])) ∧ Below wx.heap.size wx w') := fun wx hx i hi => by
    have := stays_any wx a c n l (HEA.out.later hx) HN.out (by omega) i hi g1 cap1 S A (IS.out.later hx) HP.out.1 HP.out.2 (by omega)
    rw [hSl] at this
    exact this
  clear SR AA p1 p2 HS hS m2 HL0 HK0 HK H EA IS HP o1 h1 B1 hA hSl
  go_wp2_with (fail)
  go_loopw [8, 9] (fun v i wr => ∃ q : Nat, q ≤ n ∧ i = .int .i64 ((q : Int) - 1) ∧ wr.ownsRow w2.heap.size 38 4 v (Bk.foldR A last (predE l q) (l.drop q)).length (ecs (Bk.foldR A last (predE l q) (l.drop q)).reverse) ∧ Below w2.heap.size w2 wr) (fun _ i _ => (intOf i + 1).toNat)
  case atStart =>
    refine ⟨n, Nat.le_refl _, rfl, ?_, Below.refl _ _⟩
    rw [HN.out, List.drop_length, Bk.foldR]
    exact World.ownsRow_nil _ _ _ _
  case round =>
    obtain ⟨q, hq, rfl, o, bx⟩ := hrel
    cases q with
    | zero =>
      rw [List.drop_zero] at o
      have RV := reverse_own wr w2.heap.size _ (Bk.foldR A last (predE l 0) l).reverse (by rw [List.length_reverse]; exact o) bx.size (by
        have := (Bk.fold_sub A last l (predE l 0)).length_le
        rw [List.length_reverse]
        have := HN.out
        omega)
      rw [List.reverse_reverse, List.length_reverse] at RV
      have RV' := hide RV
      clear RV o ST OX HEA
      go_wp2_with (first
        | (go_at_call 68; refine RV'.out.mono ?_; rintro e w3 ⟨⟨u3, rfl⟩, o3, b3⟩; clear RV'))
      go_ret
      rw [hAA]
      exact ⟨_, rfl, own_lift o3 B2.size, B2.trans ((bx.trans b3).mono B2.size)⟩
    | succ k =>
      have kl : k < l.length := by have := HN.out; omega
      obtain ⟨b, off, rfl⟩ := (HEA.out).some (by omega)
      obtain ⟨c0, c1, c2, c3⟩ := (HEA.out.later bx).cells k kl
      have hdr : l.drop k = l[k] :: l.drop (k + 1) := List.drop_eq_getElem_cons kl
      have hpe : predE l (k + 1) = some l[k] := List.getElem?_eq_getElem kl
      have HF : Hid (Bk.foldR A last (predE l k) (l.drop k) = if Bk.staysB A (predE l k) l[k] && !(last && !decide ((Bk.foldR A last (some l[k]) (l.drop (k + 1))).head?.map (·.key) = some l[k].key) && l[k].del) then l[k] :: Bk.foldR A last (some l[k]) (l.drop (k + 1)) else Bk.foldR A last (some l[k]) (l.drop (k + 1))) := by show _ = _; rw [hdr, Bk.foldR]
      rw [hpe] at o
      have hol : (Bk.foldR A last (some l[k]) (l.drop (k + 1))).length ≤ n := by
        have := (Bk.fold_sub A last (l.drop (k + 1)) (some l[k])).length_le
        rw [List.length_drop] at this
        have := HN.out
        omega
      have SX := hide (fun wx hx => ST.out wx hx k kl)
      have OK := hide (fun wx => OX.out wx l[k] (List.getElem_mem kl))
      have hki : ((k + 1 : Nat) : Int) - 1 = (k : Int) := by omega
      rw [hki]
      generalize Bk.staysB A (predE l k) l[k] = st at *
      generalize Bk.foldR A last (some l[k]) (l.drop (k + 1)) = oo at *
      generalize l[k] = x at *
      have z1 : (k : Int) < (n : Int) := by omega
      have z2 : (0 : Int) ≤ (k : Int) := by omega
      obtain ⟨K, V, Q, D⟩ := x
      simp only at c0 c1 c2 c3 HF
      clear hdr hpe hki ST OX
      go_wp2_with (fail)
      have O1 := hide o
      have old : Hid (∀ y o', oo = y :: o' → (!decide (oo.head?.map (·.key) = some K)) = (!y.key == K)) := fun y o' e => by
        rw [e]
        by_cases e2 : y.key = K
        · simp [e2]
        · simp [e2]
      generalize hOB : (!decide (oo.head?.map (·.key) = some K)) = ob at *
      have HOB := hide hOB
      clear hOB
      go_cut [10] from 24 to 41 (fun z wx => z = .bool ob ∧ Below wr.heap.size wr wx)
      case first =>
        cases oo with
        | nil =>
          have hob : ob = true := HOB.out.symm
          subst hob
          obtain ⟨a', c', rfl⟩ := row_shape o
          clear o O1 HF SX OK old HOB
          go_quiet (fail)
          go_wp2_with (fail)
          go_meet
          case rel => exact ⟨rfl, below_drewN (Below.refl _ _) _⟩
        | cons y o' =>
          have hob := old.out y o' rfl
          have hcl := EntsAt.own (l := (y :: o').reverse) (by rw [List.length_reverse]; exact o)
          rw [List.length_cons] at o
          obtain ⟨g, cap, rfl⟩ := own_someE o (by omega)
          rw [List.reverse_cons] at hcl
          have d1 := last_cell hcl
          rw [List.length_reverse] at d1
          rw [List.length_cons] at hol
          have HO := hide hob
          clear o O1 HF SX OK old HOB hcl hob
          generalize o'.length = kk at *
          generalize y.key = YK at *
          have q1 : ((kk : Int) + 1 == 0) = false := by simp; omega
          have q2 : (kk : Int) < ((kk + 1 : Nat) : Int) := by omega
          have q3 : (0 : Int) ≤ (kk : Int) := by omega
          have hK : (!YK == K) = true ∨ (!YK == K) = false := by cases (!YK == K) <;> simp
          rcases hK with hK | hK
          · go_quiet (fail)
            go_wp2_with (fail)
            go_meet
            case rel => exact ⟨by rw [HO.out, hK], below_drewN (Below.refl _ _) _⟩
          · go_quiet (fail)
            go_wp2_with (fail)
            go_meet
            case rel => exact ⟨by rw [HO.out, hK], below_drewN (Below.refl _ _) _⟩
      case rest =>
        obtain ⟨rfl, b3⟩ := hcut
        have o3 := hide (own_after O1.out b3)
        have B3 := bx.trans (b3.mono bx.size)
        obtain ⟨e0, e1, e2, e3⟩ : wc.cell? ⟨b, off + k * 4, none⟩ = some (str K) ∧ wc.cell? ⟨b, off + k * 4 + 1, none⟩ = some (str V) ∧ wc.cell? ⟨b, off + k * 4 + 2, none⟩ = some (.int .i64 Q) ∧ wc.cell? ⟨b, off + k * 4 + 3, none⟩ = some (.bool D) := ⟨keepC b3 c0, keepC b3 c1, keepC b3 c2, keepC b3 c3⟩
        have HQ : Hid (Bk.foldR A last (predE l k) (l.drop k) = if st && !(last && ob && D) then ⟨K, V, Q, D⟩ :: oo else oo) := HF
        clear HF old HOB o O1 c0 c1 c2 c3 b3 bx
        obtain ⟨w4, hw4⟩ : ∃ w4, w4 = wc := ⟨_, rfl⟩
        rw [← hw4] at o3 B3 e0 e1 e2 e3 ⊢
        clear hw4
        have CN : Hid (∀ W : World, ∀ B, B = W.heap.size → ∀ i u, (ecs [⟨K, V, Q, D⟩])[i]? = some u → (W.alloc (.cells #[str K, str V, .int .i64 Q, .bool D] 38)).cell? ((⟨B, 0, none⟩ : Addr).add i) = some u) := fun W B hB => ec_new W ⟨K, V, Q, D⟩ B hB
        have HL : Hid ((ecs [⟨K, V, Q, D⟩]).length = 1 * 4) := rfl
        have HO : Hid (∀ u ∈ ecs [⟨K, V, Q, D⟩], u.oneCell' = true) := ecs_one _
        have Z1 : Hid (oo.length + 1 ≤ maxLen) := by show _ ≤ _; unfold maxLen; omega
        have Z2 : Hid ((oo.length + 1) * 48 ≤ 140737488355328) := by show _ ≤ _; omega
        have SY := hide (SX.out w4 B3)
        clear SX
        cases last <;> cases ob <;> cases D <;> cases st <;>
          first
          | (have HT : Hid (Bk.foldR A _ (predE l k) (l.drop k) = oo) := HQ.out
             clear HQ CN HL HO Z1 Z2 OK
             go_wp2_with (first
               | (go_at_call 67; refine SY.out.mono ?_; rintro e w5 ⟨rfl, b5⟩; clear SY))
             have B5 := B3.trans (b5.mono B3.size)
             refine ⟨⟨k, by omega, rfl, ?_, B5⟩, by simp [intOf]⟩
             rw [HT.out]
             exact own_after o3.out b5)
          | (have HT : Hid (Bk.foldR A _ (predE l k) (l.drop k) = ⟨K, V, Q, _⟩ :: oo) := HQ.out
             clear HQ
             go_wp2_with (first
               | (go_at_call 67; refine SY.out.mono ?_; rintro e w5 ⟨rfl, b5⟩; have B5 := B3.trans (b5.mono B3.size); have o5 := hide (own_after o3.out b5); obtain ⟨f0, f1, f2, f3⟩ := And.intro (keepC b5 e0) (And.intro (keepC b5 e1) (And.intro (keepC b5 e2) (keepC b5 e3))); clear SY)
               | (go_at_call 63; refine (OK.out _).mono ?_; rintro e w6 ⟨rfl, b6⟩; have B6 := B5.trans (b6.mono B5.size); have o6 := hide (own_after o5.out b6); clear OK)
               | (at_builtin; refine wpList_append_lies _ rfl _ _ 23 rfl w2.heap.size 38 i0 _ 4 48 Try.underlying23 hi hz0 hz1 hz2 rfl (by decide) _ oo.length _ rfl (o6.out.alloc _) ⟨w6.heap.size, 0, none⟩ 1 1 (ecs [⟨K, V, Q, _⟩]) rfl HL.out (CN.out _ _ rfl) HO.out (by decide) Z1.out Z2.out (by have := B6.size; simp; omega) _ rfl ?_; intro g7 cap7 w7 o7 h7 l7 lt7))
             have B7 : Below w2.heap.size w2 w7 := (B6.alloc B6.size _).grown h7 (by have := B6.size; simp; omega) (fun k hk => (o6.out.lt k hk).1)
             refine ⟨⟨k, by omega, rfl, ?_, B7⟩, by simp [intOf]⟩
             rw [HT.out, List.reverse_cons, ecs_append, List.length_cons]
             exact o7)
end Go.Proofs.Ytbdgdigpnfpnhaa
