/-
  The kit's call that writes entries over: what lies elsewhere stays. .. and what follows from it.
-/
import Derived.Test.YtbdgdigpnfpnhaaKT
import Derived.RangeFuncOwn
import Derived.Test.YtbdgdigpnfpnhaaKK
namespace Go.Proofs.Ytbdgdigpnfpnhaa.Q
open Go.RowKit

theorem ents_grown {w w' : World} {b off n c g : Nat} {l : List Mm.Ent} (h : EntsAt w (.slice (some ⟨b, off, none⟩) n c) l) (hg : w.grownBy w' (some g)) (hne : b ≠ g) : EntsAt w' (.slice (some ⟨b, off, none⟩) n c) l := by
  obtain ⟨⟨a, cap, e, hf⟩⟩ := h
  refine ⟨⟨a, cap, e, fun h0 => ?_⟩⟩
  obtain ⟨b', off', ha, hat⟩ := hf h0
  have hb : b' = b := by
    cases e
    cases ha
    rfl
  have K : ∀ i u, w.cell? ⟨b', i, none⟩ = some u → w'.cell? ⟨b', i, none⟩ = some u := fun i u hu => hg.cell hu (fun e => hne (by rw [← hb]; exact Option.some.inj e))
  exact ⟨b', off', ha, fun j hj => ⟨K _ _ (hat j hj).1, K _ _ (hat j hj).2.1, K _ _ (hat j hj).2.2.1, K _ _ (hat j hj).2.2.2⟩⟩

/-- What is to stay. -/
structure Kp (wx : World) (B M gf m cf g1 c1 : Nat) (L : List Mm.Ent) : Prop where
  hb : wx.cell? ⟨B, 0, none⟩ = some (.slice (some ⟨gf, 0, none⟩) m cf)
  hm : wx.cell? ⟨M, 0, none⟩ = some (.slice (some ⟨g1, 0, none⟩) m c1)
  hf : EntsAt wx (.slice (some ⟨gf, 0, none⟩) m cf) L
  hc : EntsAt wx (.slice (some ⟨g1, 0, none⟩) m c1) L
theorem Kp.grown {w w' : World} {B M gf m cf g1 c1 g : Nat} {L : List Mm.Ent} (h : Kp w B M gf m cf g1 c1 L) (hg : w.grownBy w' (some g)) (n1 : B ≠ g) (n2 : M ≠ g) (n3 : gf ≠ g) (n4 : g1 ≠ g) : Kp w' B M gf m cf g1 c1 L :=
  ⟨hg.cell h.hb (fun e => n1 (Option.some.inj e)), hg.cell h.hm (fun e => n2 (Option.some.inj e)), ents_grown h.hf hg n3, ents_grown h.hc hg n4⟩
theorem Kp.later {w w' : World} {B M gf m cf g1 c1 : Nat} {L : List Mm.Ent} (h : Kp w B M gf m cf g1 c1 L) (hb : Below w.heap.size w w') : Kp w' B M gf m cf g1 c1 L :=
  ⟨keepC hb h.hb, keepC hb h.hm, h.hf.later hb, h.hc.later hb⟩
def sliceLenE : Value → Nat
  | .slice _ n _ => n
  | _ => 0
def Keys (n j : Nat) (xs : List Value) : Prop := ∀ i, j ≤ i → i < n → ∃ s : List UInt8, xs[i * 4]? = some (str s) ∧ s.length ≤ 1000000
theorem Keys.set {n j : Nat} {xs : List Value} (h : Keys n j xs) (u : Value) : Keys n (j + 1) (xs.set (j * 4) u) := fun i hj hi => by
  obtain ⟨t, ht, hl⟩ := h i (by omega) hi
  exact ⟨t, by rw [List.getElem?_set_ne (by omega)]; exact ht, hl⟩
theorem infoLE : (Try.prog.info? 23).map (fun i => (i.zero, i.size, i.bytes)) = some (some (.slice none 0 0), 1, 24) := by kernel_rfl
theorem make_one (u : World) : (Instr.makeSlice 51 (.int .i64 1) (.int .i64 1)).run Try.prog u = .ok (.slice (some ⟨u.heap.size, 0, none⟩) 1 1) (u.alloc (.cells (madeCells #[.slice none 0 0] 1) 23)) := by
  obtain ⟨i1, hi1, hy0, hy1, hy2⟩ := info_parts infoLE
  have h := run_make (P := Try.prog) u 51 23 i1 (.slice none 0 0) Try.underlying51 hi1 hy0 .i64 .i64 1 1 (by omega) (Int.le_refl _) (by rw [hy2]; omega) (by omega)
  rw [hy1] at h
  exact h

set_option maxRecDepth 100000 in
set_option maxHeartbeats 4000000 in
theorem apartE_one (w : World) (base B gf m cf n : Nat) (v : Value) (A L : List Mm.Ent) (ho : w.ownsRow base 38 4 v n (ecs A)) (hn : n = A.length) (hB : w.cell? ⟨B, 0, none⟩ = some (.slice (some ⟨gf, 0, none⟩) m cf))
    (hL : EntsAt w (.slice (some ⟨gf, 0, none⟩) m cf) L) (hm : m = L.length) (hm2 : m ≤ 100000) (hn2 : n ≤ 1000000) (h1 : v.ownBlock ≠ some B) (h2 : v.ownBlock ≠ some gf) (hk : ∀ x ∈ A, x.key.length ≤ 1000000) (hbase : base ≤ w.heap.size) :
    Calls Try.prog 23 #[v, .slice (some ⟨B, 0, none⟩) 1 1] w fun e w' => e = .returned (.bool true) ∧ Below base w w' := by
  obtain ⟨i0, hi, hz0, hz1, hz2⟩ := info_parts infoE
  obtain ⟨va, cap, rfl⟩ : ∃ va cap, v = .slice va n cap := by
    obtain ⟨a, c, e⟩ := row_shape ho
    exact ⟨a, c, e⟩
  have HL := hide hL
  have HM : Hid (m = L.length) := hm
  have HO := hide ho
  have H1 := hide h1
  have HKL := hide hk
  have H2 := hide h2
  have HN : Hid (n = A.length) := hn
  have SE : Hid (∀ wx u u2, EntsAt wx u L → EntsAt wx u2 L → Calls Try.prog 20 #[u, u2] wx fun e w' => e = .returned (.bool true) ∧ Below wx.heap.size wx w') := fun wx u u2 h1 h2 => samee_any wx u u2 L h1 h2 (by omega)
  have hmk := make_one
  obtain ⟨W0, hW0⟩ : ∃ W0, W0 = w.alloc (.cells (madeCells #[.slice none 0 0] 1) 23) := ⟨_, rfl⟩
  have z0 : W0.heap.size = w.heap.size + 1 := by rw [hW0]; simp
  have b0 : Below w.heap.size w W0 := by rw [hW0]; exact (Below.refl _ _).alloc (Nat.le_refl _) _
  have q0 : W0.cell? ⟨w.heap.size, 0, none⟩ = some (.slice none 0 0) := by
    rw [hW0, cell_of_row _ _ 0 _ _ (0, 0) (heap_alloc_new w (.cells (madeCells #[.slice none 0 0] 1) 23)), ← Array.getElem?_toList, toList_madeCells_one, List.getElem?_replicate, if_pos (by omega)]
  have q1 : W0.frozen? ⟨w.heap.size, 0, none⟩ = false := by rw [hW0]; exact frozen_of_row _ _ 0 _ _ (heap_alloc_new w (.cells (madeCells #[.slice none 0 0] 1) 23))
  have L0 : (W0.alloc (.cells #[] 38)).ownsRow W0.heap.size 38 4 (.slice (some ⟨W0.heap.size, 0, none⟩) 0 0) 0 (ecs []) := World.ownsRow_lit (size := 4) (e := 38) (base := W0.heap.size) W0 #[] 0 (Nat.le_refl _) (by unfold maxLen; omega) rfl
  have b1 : Below W0.heap.size W0 (W0.alloc (.cells #[] 38)) := (Below.refl _ _).alloc (Nat.le_refl _) _
  have b2 : Below w.heap.size w (W0.alloc (.cells #[] 38)) := b0.trans (b1.mono b0.size)
  have hB2 := keepC b2 hB
  have HA := hide (hL.later b2)
  have HL0 := hide L0
  have Z0 := hide z0
  have B0 := hide b0
  have Q0 := hide q0
  have Q1 := hide q1
  have HW := hide hW0
  have HB := hide hB
  clear hL hm ho h1 h2 hn hk L0 b1 b2 b0 z0 q0 q1 hW0 hB
  go_enter Try.func23, Try.ntmps23
  go_wp2_with (fail)
  rw [← HW.out]
  refine wp_loop_rounds 2 ?_
  rw [rounds_succ]
  go_wp2_with (first
    | (at_builtin; refine wpList_app_ents _ rfl _ _ rfl W0.heap.size W0.heap.size 0 [] L 0 m cf rfl HM.out rfl HL0.out (some ⟨gf, 0, none⟩) rfl HA.out (fun e => by cases e) (by omega) (by simp) ?_; intro g1 cap1 w1 o1 h1; have B1 : Below W0.heap.size W0 w1 := ((Below.refl _ _).alloc (Nat.le_refl _) _).grown h1 (by simp) (fun k hk => by cases hk; exact Nat.le_refl _); have m0 := keepC B1 Q0.out; have m1 := (B1.frozen (p := ⟨w.heap.size, 0, none⟩) (by have := Z0.out; show w.heap.size < _; omega)).trans Q1.out))
  have hg1 : W0.heap.size ≤ g1 := (o1.lt g1 rfl).1
  obtain ⟨w2, hw2⟩ : ∃ w2, w2 = w1.setCell ⟨w.heap.size, 0, none⟩ (.slice (some ⟨g1, 0, none⟩) m cap1) := ⟨_, rfl⟩
  have B2 : Below w.heap.size w w2 := by rw [hw2]; exact (B0.out.trans (B1.mono B0.out.size)).setCell (Nat.le_refl _) _
  have K2 : Kp w2 B w.heap.size gf m cf g1 cap1 L := by
    refine ⟨keepC B2 HB.out, ?_, HL.out.later B2, ?_⟩
    · rw [hw2]; simp [go_sem, m0]
    · have o2 := ownsRow_setCell_other o1 (a := ⟨w.heap.size, 0, none⟩) (by intro e; have := Option.some.inj e; have := Z0.out; simp only at *; omega) (.slice (some ⟨g1, 0, none⟩) m cap1)
      rw [← hw2] at o2
      have hm := HM.out
      subst hm
      simp only [Nat.zero_add, List.nil_append] at o2
      exact EntsAt.own o2
  have R2 := own_after HO.out B2
  have KY : Keys n 0 (ecs A) := fun j _ hj => ⟨_, (ecs_get A j (by have := HN.out; omega)).1, HKL.out _ (List.getElem_mem _)⟩
  have XL : (ecs A).length = n * 4 := by rw [ecs_length, ← HN.out]
  have hg2 : w.heap.size < g1 := by have := Z0.out; omega
  clear hg1
  rw [← hw2]
  have GA : Hid (∀ g, va = some ⟨g, 0, none⟩ → g ≠ B ∧ g ≠ gf ∧ g < w.heap.size ∧ base ≤ g) := fun g hg => by
    have hl := HO.out.lt g (by rw [hg]; rfl)
    refine ⟨fun e => H1.out ?_, fun e => H2.out ?_, hl.2, hl.1⟩
    · rw [hg, e]; rfl
    · rw [hg, e]; rfl
  generalize ecs A = X at *
  have K2h := hide K2
  have R2h := hide R2
  clear m0 m1 o1 h1 B1 hB2 HA HL0 hw2 Q0 Q1 HW HB H1 H2 HO B0 hmk K2 R2 HN HKL
  go_wp2_with (fail)
  rw [rounds_succ]
  go_wp2_with (fail)
  go_loopw [7] (fun i wr => ∃ j : Nat, j ≤ n ∧ i = .int .i64 (j : Int) ∧ Hid (∃ Y, wr.ownsRow base 38 4 (.slice va n cap) n Y ∧ Y.length = n * 4 ∧ Keys n j Y) ∧ Hid (Kp wr B w.heap.size gf m cf g1 cap1 L) ∧ Below base w wr) (fun i _ => n - (intOf i).toNat)
  case atStart => exact ⟨0, Nat.zero_le _, rfl, ⟨X, R2h.out, XL, KY⟩, K2h.out, B2.mono hbase⟩
  case round =>
    obtain ⟨j, hj, rfl, HR, HK, bx⟩ := hrel
    clear R2h K2h XL KY
    by_cases hlt : j < n
    · obtain ⟨Y, r, yl, ky⟩ := HR.out
      obtain ⟨g, cap', hv⟩ := own_someE r (by omega)
      cases hv
      obtain ⟨n1, n2, n3, n4⟩ := GA.out g rfl
      obtain ⟨s, hs, hsl⟩ := ky j (Nat.le_refl _) hlt
      have d0 : wr.cell? ⟨g, j * 4, none⟩ = some (str s) := by rw [r.cellAt (j * 4) (by omega), hs]
      have f0 := r.frozenAt (j * 4)
      have ST : Hid (∀ u, Hid (∃ Y, (wr.setCell ⟨g, j * 4, none⟩ u).ownsRow base 38 4 (.slice (some ⟨g, 0, none⟩) n cap) n Y ∧ Y.length = n * 4 ∧ Keys n (j + 1) Y) ∧ Hid (Kp (wr.setCell ⟨g, j * 4, none⟩ u) B w.heap.size gf m cf g1 cap1 L)) := fun u => by
        obtain ⟨s1, s2⟩ := r.stored (j * 4) u
        exact ⟨⟨_, s1, by rw [List.length_set]; exact yl, ky.set u⟩, HK.out.grown s2 (Ne.symm n1) (by omega) (Ne.symm n2) (by omega)⟩
      have HSL := hide hsl
      clear hsl
      have j1 : (j : Int) < (n : Int) := by omega
      have j2 : (0 : Int) ≤ (j : Int) := by omega
      clear HR r yl ky hs n1 n2 n3 HK
      go_wp2_with (fail)
      · exact absurd HSL.out (by omega)
      · exact ⟨⟨j + 1, by omega, by go_num, (ST.out _).1, (ST.out _).2, bx.setCell n4 _⟩, by simp [intOf]; omega⟩
    · have e : j = n := by omega
      subst e
      have i3 : ¬ (j : Int) < (j : Int) := by omega
      go_wp2_with (fail)
      clear i3
      obtain ⟨Y, r, yl, ky⟩ := HR.out
      have R := hide r
      clear HR r yl ky
      go_loopw [0] (fun x wr2 => ∃ k : Nat, x = .slice va k cap ∧ Hid (∃ Y, wr2.ownsRow base 38 4 (.slice va k cap) k Y) ∧ Hid (Kp wr2 B w.heap.size gf m cf g1 cap1 L) ∧ Below base w wr2) (fun x _ => cap - sliceLenE x)
      case atStart => exact ⟨j, rfl, ⟨Y, R.out⟩, HK, bx⟩
      case round =>
        obtain ⟨k, rfl, HR2, HK2, by2⟩ := hrel
        clear R HK bx
        by_cases hlt : k < cap
        · obtain ⟨Y2, r2⟩ := HR2.out
          obtain ⟨g, hv⟩ : ∃ g, va = some ⟨g, 0, none⟩ := by
            rcases r2.2 with ⟨e, _⟩ | ⟨g, cap', cur, e, _⟩
            · simp only [Value.slice.injEq] at e; omega
            · simp only [Value.slice.injEq] at e; exact ⟨g, e.1⟩
          subst hv
          obtain ⟨n1, n2, n3, n4⟩ := GA.out g rfl
          have hki : (k : Int) < (cap : Int) := by omega
          have R2 := hide r2
          have CN : Hid (∀ W : World, ∀ B, B = W.heap.size → ∀ i u, (ecs [⟨[111, 118, 101, 114], [], 0, false⟩])[i]? = some u → (W.alloc (.cells #[str [111, 118, 101, 114], str [], .int .i64 0, .bool false] 38)).cell? ((⟨B, 0, none⟩ : Addr).add i) = some u) := fun W B hB => ec_new W ⟨[111, 118, 101, 114], [], 0, false⟩ B hB
          have HL1 : Hid ((ecs [⟨[111, 118, 101, 114], [], 0, false⟩]).length = 1 * 4) := rfl
          have HO1 : Hid (∀ u ∈ ecs [⟨[111, 118, 101, 114], [], 0, false⟩], u.oneCell' = true) := ecs_one _
          clear r2
          go_wp2_with (first
            | (at_builtin; refine wpList_append_fits _ rfl _ _ 23 rfl base 38 i0 4 Try.underlying23 hi hz1 g k cap Y2 rfl (R2.out.alloc _) ⟨wr.heap.size, 0, none⟩ 1 1 (ecs [⟨[111, 118, 101, 114], [], 0, false⟩]) rfl HL1.out (CN.out _ _ rfl) HO1.out hlt ?_; intro w3 o3 g3))
          have K3 := (HK2.out.later ((Below.refl _ _).alloc (Nat.le_refl _) (.cells #[str [111, 118, 101, 114], str [], .int .i64 0, .bool false] 38))).grown g3 (Ne.symm n1) (by omega) (Ne.symm n2) (by omega)
          exact ⟨⟨k + 1, rfl, ⟨_, o3⟩, K3, (by2.alloc (Nat.le_trans hbase by2.size) _).grown g3 (by have := by2.size; simp; omega) (fun q hq => by cases hq; exact n4)⟩, by simp [sliceLenE]; omega⟩
        · have hki : ¬ (k : Int) < (cap : Int) := by omega
          go_wp2_with (fail)
          refine wp_loop_rounds 2 ?_
          rw [rounds_succ]
          go_wp2_with (fail)
          have PK : Hid (∀ wx, Below wr.heap.size wr wx → wx.cell? ⟨B, 0, none⟩ = some (.slice (some ⟨gf, 0, none⟩) m cf) ∧ wx.cell? ⟨w.heap.size, 0, none⟩ = some (.slice (some ⟨g1, 0, none⟩) m cap1)) := fun wx hx => ⟨(HK2.out.later hx).hb, (HK2.out.later hx).hm⟩
          have P0 := PK.out wr.drew (Below.refl _ _).drew
          have K4 := hide (HK2.out.later (Below.refl _ _).drew)
          go_region_held3 (fun wx => wx.cell? ⟨B, 0, none⟩ = some (.slice (some ⟨gf, 0, none⟩) m cf) ∧ wx.cell? ⟨w.heap.size, 0, none⟩ = some (.slice (some ⟨g1, 0, none⟩) m cap1))
            (first | exact P0 | exact P1)
            (first
              | (go_at_call 20; refine (SE.out _ _ _ K4.out.hf K4.out.hc).mono ?_; rintro e w3 ⟨rfl, b3⟩; have B3 : Below wr.heap.size wr w3 := (Below.refl _ _).drew.trans b3; have P1 := PK.out _ B3))
          go_wp2_with (fail)
          rw [rounds_succ]
          go_wp2_with (fail)
          go_ret
          exact ⟨rfl, by2.trans (B3.mono (Nat.le_trans hbase by2.size))⟩
end Go.Proofs.Ytbdgdigpnfpnhaa.Q
namespace Go.Proofs.Ytbdgdigpnfpnhaa.Q
open Go.RowKit

/-- None of the lists lies in a block. -/
def Apt (vs : List Value) (P : Nat → Prop) : Prop := ∀ v ∈ vs, ∀ b off n c, v = .slice (some ⟨b, off, none⟩) n c → P b
theorem LLs.grown {w w' : World} {vs : List Value} {ls : List (List Mm.Ent)} {g : Nat} (h : LLs w vs ls) (hg : w.grownBy w' (some g)) (ha : Apt vs (· ≠ g)) : LLs w' vs ls :=
  ⟨h.len, fun k h1 h2 => by
    obtain ⟨a, c, e, h3, h4, h5⟩ := h.at' k h1 h2
    refine ⟨a, c, e, h3, h4, ?_⟩
    rcases Nat.eq_zero_or_pos ls[k].length with h0 | h0
    · exact ⟨⟨a, c, rfl, fun hn => absurd (List.eq_nil_of_length_eq_zero h0) hn⟩⟩
    · obtain ⟨b, off, rfl⟩ := h5.some h0
      exact ents_grown h5 hg (ha _ (List.getElem_mem h2) b off _ _ e)⟩
/-- What is to stay. -/
structure Km (wx : World) (B M m : Nat) (vs us : List Value) (Ls : List (List Mm.Ent)) : Prop where
  hb : ∀ k (_ : k < m), wx.cell? ⟨B, k, none⟩ = vs[k]?
  hm : ∀ k (_ : k < m), wx.cell? ⟨M, k, none⟩ = us[k]?
  hv : LLs wx vs Ls
  hu : LLs wx us Ls
theorem Km.grown {w w' : World} {B M m g : Nat} {vs us : List Value} {Ls : List (List Mm.Ent)} (h : Km w B M m vs us Ls) (hl : Ls.length = m) (hg : w.grownBy w' (some g)) (n1 : B ≠ g) (n2 : M ≠ g) (n3 : Apt vs (· ≠ g)) (n4 : Apt us (· ≠ g)) : Km w' B M m vs us Ls := by
  refine ⟨fun k hk => ?_, fun k hk => ?_, h.hv.grown hg n3, h.hu.grown hg n4⟩
  · have hv : k < vs.length := by rw [h.hv.len]; omega
    have := h.hb k hk
    rw [List.getElem?_eq_getElem hv] at this ⊢
    exact hg.cell this (fun e => n1 (Option.some.inj e))
  · have hv : k < us.length := by rw [h.hu.len]; omega
    have := h.hm k hk
    rw [List.getElem?_eq_getElem hv] at this ⊢
    exact hg.cell this (fun e => n2 (Option.some.inj e))
theorem Km.later {w w' : World} {B M m : Nat} {vs us : List Value} {Ls : List (List Mm.Ent)} (h : Km w B M m vs us Ls) (hl : Ls.length = m) (hb : Below w.heap.size w w') : Km w' B M m vs us Ls := by
  refine ⟨fun k hk => ?_, fun k hk => ?_, h.hv.later hb, h.hu.later hb⟩
  · have hv : k < vs.length := by rw [h.hv.len]; omega
    have := h.hb k hk
    rw [List.getElem?_eq_getElem hv] at this ⊢
    exact keepC hb this
  · have hv : k < us.length := by rw [h.hu.len]; omega
    have := h.hm k hk
    rw [List.getElem?_eq_getElem hv] at this ⊢
    exact keepC hb this
theorem make_lists (m : Nat) (hm : m ≤ 1000000) (u : World) : (Instr.makeSlice 51 (.int .i64 (m : Int)) (.int .i64 (m : Int))).run Try.prog u = .ok (.slice (some ⟨u.heap.size, 0, none⟩) m m) (u.alloc (.cells (madeCells #[.slice none 0 0] m) 23)) := by
  obtain ⟨i1, hi1, hy0, hy1, hy2⟩ := info_parts infoLE
  have h := run_make (P := Try.prog) u 51 23 i1 (.slice none 0 0) Try.underlying51 hi1 hy0 .i64 .i64 (m : Int) (m : Int) (by omega) (Int.le_refl _) (by rw [hy2]; omega) (by omega)
  rw [hy1, Int.toNat_natCast, Nat.mul_one] at h
  exact h
theorem set_take {α : Type} (us : List α) (j : Nat) (x : α) (h : j < us.length) : (us.set j x).take (j + 1) = us.take j ++ [x] := by
  rw [List.take_succ_eq_append_getElem (by simpa using h), List.getElem_set_self, List.take_set_of_le (Nat.le_refl _)]

set_option maxRecDepth 100000 in
set_option maxHeartbeats 4000000 in
theorem apartE_many (w : World) (base B m cB n : Nat) (v : Value) (A : List Mm.Ent) (vs : List Value) (Ls : List (List Mm.Ent)) (ho : w.ownsRow base 38 4 v n (ecs A)) (hn : n = A.length) (hB : ∀ k (_ : k < m), w.cell? ⟨B, k, none⟩ = vs[k]?) (hv : LLs w vs Ls) (hm : m = Ls.length)
    (hno : ∀ v ∈ vs, ∀ n c, v = .slice none n c → c = 0) (hll : ∀ x ∈ Ls, x.length ≤ 100000) (hm2 : m ≤ 100000) (hn2 : n ≤ 1000000) (h1 : v.ownBlock ≠ some B) (h2 : ∀ g, v.ownBlock = some g → Apt vs (· ≠ g)) (hk : ∀ x ∈ A, x.key.length ≤ 1000000) (hbase : base ≤ w.heap.size) :
    Calls Try.prog 23 #[v, .slice (some ⟨B, 0, none⟩) m cB] w fun e w' => e = .returned (.bool true) ∧ Below base w w' := by
  obtain ⟨i0, hi, hz0, hz1, hz2⟩ := info_parts infoE
  obtain ⟨va, cap, rfl⟩ : ∃ va cap, v = .slice va n cap := by
    obtain ⟨a, c, e⟩ := row_shape ho
    exact ⟨a, c, e⟩
  have HV := hide hv
  have HM : Hid (m = Ls.length) := hm
  have HO := hide ho
  have HKL := hide hk
  have HN : Hid (n = A.length) := hn
  have HB : Hid (∀ k (_ : k < m), w.cell? ⟨B, k, none⟩ = vs[k]?) := hB
  have HNO : Hid (∀ v ∈ vs, ∀ n c, v = .slice none n c → c = 0) := hno
  have HLL : Hid (∀ x ∈ Ls, x.length ≤ 100000) := hll
  have SE : Hid (∀ L ∈ Ls, ∀ wx u u2, EntsAt wx u L → EntsAt wx u2 L → Calls Try.prog 20 #[u, u2] wx fun e w' => e = .returned (.bool true) ∧ Below wx.heap.size wx w') := fun L hL wx u u2 h1 h2 => samee_any wx u u2 L h1 h2 (by have := hll L hL; omega)
  have GA : Hid (∀ g, va = some ⟨g, 0, none⟩ → g ≠ B ∧ Apt vs (· ≠ g) ∧ g < w.heap.size ∧ base ≤ g) := fun g hg => by
    have hl := ho.lt g (by rw [hg]; rfl)
    refine ⟨fun e => h1 ?_, h2 g (by rw [hg]; rfl), hl.2, hl.1⟩
    rw [hg, e]; rfl
  have hmk := make_lists m (by omega)
  obtain ⟨W0, hW0⟩ : ∃ W0, W0 = w.alloc (.cells (madeCells #[.slice none 0 0] m) 23) := ⟨_, rfl⟩
  have Z0 : Hid (W0.heap.size = w.heap.size + 1) := by show _ = _; rw [hW0]; simp
  have B0 : Hid (Below w.heap.size w W0) := by show Below _ _ _; rw [hW0]; exact (Below.refl _ _).alloc (Nat.le_refl _) _
  have M0 : Hid (W0.ownsRow w.heap.size 23 1 (.slice (some ⟨w.heap.size, 0, none⟩) m m) m (List.replicate m (.slice none 0 0))) := by
    have h := World.ownsRow_lit (size := 1) (e := 23) (base := w.heap.size) w (madeCells #[.slice none 0 0] m) m (Nat.le_refl _) (by unfold maxLen; omega) (by rw [size_madeCells, Nat.mul_one])
    rw [toList_madeCells_one] at h
    show World.ownsRow _ _ _ _ _ _ _
    rw [hW0]
    exact h
  have HW := hide hW0
  have KY : Hid (Keys n 0 (ecs A) ∧ (ecs A).length = n * 4) := ⟨fun j _ hj => ⟨_, (ecs_get A j (by have := hn; omega)).1, hk _ (List.getElem_mem _)⟩, by rw [ecs_length, ← hn]⟩
  clear hv hm ho h1 h2 hn hk hB hno hll hW0
  go_enter Try.func23, Try.ntmps23
  go_wp2_with (fail)
  rw [← HW.out]
  clear HW hmk
  obtain ⟨MB, hMB⟩ : ∃ MB, MB = w.heap.size := ⟨_, rfl⟩
  rw [← hMB] at M0 Z0 ⊢
  have HMB := hide hMB
  clear hMB
  go_loopw [6] (fun i wr => ∃ j : Nat, j ≤ m ∧ i = .int .i64 (j : Int) ∧ Hid (∃ us, us.length = m ∧ wr.ownsRow MB 23 1 (.slice (some ⟨MB, 0, none⟩) m m) m us ∧ LLs wr (us.take j) (Ls.take j) ∧ Apt (us.take j) (MB < ·)) ∧ Hid (Below w.heap.size w wr) ∧ MB < wr.heap.size) (fun i _ => m - (intOf i).toNat)
  case atStart =>
    refine ⟨0, Nat.zero_le _, rfl, ⟨_, by simp, M0.out, ?_, ?_⟩, B0.out, by have := Z0.out; omega⟩
    · rw [List.take_zero, List.take_zero]; exact LLs.nil _
    · rw [List.take_zero]; intro x hx; cases hx
  case round =>
    obtain ⟨j, hj, rfl, HU, BX, zr⟩ := hrel
    clear M0 B0 Z0
    by_cases hlt : j < m
    · obtain ⟨us, ul, ru, lu, pu⟩ := HU.out
      have jl : j < Ls.length := by have := HM.out; omega
      have jv : j < vs.length := by rw [HV.out.len]; exact jl
      obtain ⟨aj, cj, ej, kj, kj2, EJ⟩ := HV.out.at' j jl jv
      have dj : wr.cell? ⟨B, j, none⟩ = some (.slice aj Ls[j].length cj) := by
        have := HB.out j hlt
        rw [List.getElem?_eq_getElem jv, ej] at this
        exact keepC BX.out this
      have hJ2 : (wr.alloc (.cells #[] 38)).cell? ⟨B, j, none⟩ = some (.slice aj Ls[j].length cj) := keepC ((Below.refl _ _).alloc (Nat.le_refl _) _) dj
      have HJ : Hid (aj = none → cj = 0) := fun e => HNO.out _ (List.getElem_mem jv) _ _ (by rw [ej, e])
      have lj := HLL.out _ (List.getElem_mem jl)
      obtain ⟨nj, hnj⟩ : ∃ nj, nj = Ls[j].length := ⟨_, rfl⟩
      have EJ' : Hid (EntsAt wr (.slice aj nj cj) Ls[j]) := by rw [hnj]; exact EJ.later BX.out
      rw [← hnj] at dj lj hJ2
      have HNJ := hide hnj
      have d5 : wr.cell? ⟨MB, j, none⟩ = us[j]? := ru.cellAt j (by omega)
      rw [List.getElem?_eq_getElem (by omega)] at d5
      have f5 := ru.frozenAt j
      have L0 : Hid ((wr.alloc (.cells #[] 38)).ownsRow wr.heap.size 38 4 (.slice (some ⟨wr.heap.size, 0, none⟩) 0 0) 0 (ecs [])) := World.ownsRow_lit (size := 4) (e := 38) (base := wr.heap.size) wr #[] 0 (Nat.le_refl _) (by unfold maxLen; omega) rfl
      have HA : Hid (EntsAt (wr.alloc (.cells #[] 38)) (.slice aj nj cj) Ls[j]) := EJ'.out.later ((Below.refl _ _).alloc (Nat.le_refl _) _)
      have STP : Hid (∀ w1 g1 cap1, w1.ownsRow wr.heap.size 38 4 (.slice (some ⟨g1, 0, none⟩) (0 + nj) cap1) (0 + nj) (ecs ([] ++ Ls[j])) → (wr.alloc (.cells #[] 38)).grownBy w1 (some wr.heap.size) →
          (∃ x, w1.cell? ⟨MB, j, none⟩ = some x) ∧ w1.frozen? ⟨MB, j, none⟩ = false ∧
          Hid (∃ us, us.length = m ∧ (w1.setCell ⟨MB, j, none⟩ (.slice (some ⟨g1, 0, none⟩) nj cap1)).ownsRow MB 23 1 (.slice (some ⟨MB, 0, none⟩) m m) m us ∧ LLs (w1.setCell ⟨MB, j, none⟩ (.slice (some ⟨g1, 0, none⟩) nj cap1)) (us.take (j + 1)) (Ls.take (j + 1)) ∧ Apt (us.take (j + 1)) (MB < ·)) ∧
          Hid (Below w.heap.size w (w1.setCell ⟨MB, j, none⟩ (.slice (some ⟨g1, 0, none⟩) nj cap1))) ∧ MB < (w1.setCell ⟨MB, j, none⟩ (.slice (some ⟨g1, 0, none⟩) nj cap1)).heap.size) := fun w1 g1 cap1 o1 gr => by
        rw [Nat.zero_add, List.nil_append, HNJ.out] at o1
        have B1 : Below wr.heap.size wr w1 := ((Below.refl _ _).alloc (Nat.le_refl _) _).grown gr (by simp) (fun k hk => by cases hk; exact Nat.le_refl _)
        have hg1 := (o1.lt g1 rfl).1
        have r1 := own_laterV ru B1
        obtain ⟨r2, g2⟩ := r1.stored j (.slice (some ⟨g1, 0, none⟩) nj cap1)
        have o2 := o1.kept g2 (.inr (fun e => by have h9 : g1 = MB := Option.some.inj e; omega))
        have q1 : Apt (us.take j) (· ≠ MB) := fun x hx b off n c e => by have := pu x hx b off n c e; show b ≠ MB; omega
        have l2 := (lu.later B1).grown g2 q1
        have hc1 : Ls[j].length ≤ cap1 ∧ cap1 ≤ 9223372036854775807 := by
          rcases o1.2 with ⟨e, _⟩ | ⟨g', cap', cur, e, _, _, h3, h4, _⟩
          · cases e
          · simp only [Value.slice.injEq] at e; unfold maxLen at h4; omega
        refine ⟨⟨_, keepC B1 d5⟩, (B1.frozen (p := ⟨MB, j, none⟩) zr).trans f5, ⟨us.set j (.slice (some ⟨g1, 0, none⟩) nj cap1), by rw [List.length_set]; exact ul, r2, ?_, ?_⟩, ?_, ?_⟩
        · rw [set_take us j _ (by omega), List.take_succ_eq_append_getElem jl]
          refine l2.snoc _ _ ⟨some ⟨g1, 0, none⟩, cap1, by rw [HNJ.out], hc1.1, hc1.2, EntsAt.own o2⟩
        · rw [set_take us j _ (by omega)]
          intro x hx b off n c e
          rcases List.mem_append.1 hx with h | h
          · exact pu x h b off n c e
          · rw [List.mem_singleton.1 h] at e
            simp only [Value.slice.injEq, Option.some.injEq, Addr.mk.injEq] at e
            show MB < b
            omega
        · have := BX.out.trans (B1.mono BX.out.size)
          exact this.grown g2 this.size (fun k e => by have h9 : MB = k := Option.some.inj e; have := HMB.out; omega)
        · rw [World.size_setCell]
          have := B1.size
          omega
      have jn : (j : Int) < (m : Int) := by omega
      have j0 : (0 : Int) ≤ (j : Int) := by omega
      clear HU ru lu pu ul EJ ej kj kj2 hnj EJ' f5 d5 jv
      go_wp2_with (first
        | (at_builtin; refine wpList_app_ents _ rfl _ _ rfl wr.heap.size wr.heap.size 0 [] Ls[j] 0 nj cj rfl HNJ.out rfl L0.out aj rfl HA.out HJ.out (by omega) (by simp) ?_; intro g1 cap1 w1 o1 h1; obtain ⟨⟨x5, d5⟩, f5, S1, S2, S3⟩ := STP.out w1 g1 cap1 o1 h1; clear o1 h1))
      exact ⟨⟨j + 1, by omega, by go_num, S1, S2, S3⟩, by simp [intOf]; omega⟩
    · have e : j = m := by omega
      subst e
      have i3 : ¬ (j : Int) < (j : Int) := by omega
      obtain ⟨us, ul, ru, lu, pu⟩ := HU.out
      rw [List.take_of_length_le (by omega)] at lu pu
      rw [List.take_of_length_le (by have := HM.out; omega)] at lu
      have K2h : Hid (Km wr B MB j vs us Ls) := by
        refine ⟨fun k hk => ?_, fun k hk => ?_, HV.out.later BX.out, lu⟩
        · have hvk : k < vs.length := by rw [HV.out.len]; have := HM.out; omega
          have := HB.out k hk
          rw [List.getElem?_eq_getElem hvk] at this ⊢
          exact keepC BX.out this
        · exact ru.cellAt k (by omega)
      have GB : Hid (∀ g, va = some ⟨g, 0, none⟩ → B ≠ g ∧ MB ≠ g ∧ Apt vs (· ≠ g) ∧ Apt us (· ≠ g) ∧ base ≤ g) := fun g hg => by
        obtain ⟨n1, n2, n3, n4⟩ := GA.out g hg
        have := HMB.out
        refine ⟨Ne.symm n1, by omega, n2, fun x hx b off n c e => ?_, n4⟩
        have := pu x hx b off n c e
        show b ≠ g
        omega
      have R2h := hide (own_after HO.out BX.out)
      have B2 : Below base w wr := BX.out.mono hbase
      clear HU ru lu pu ul GA HO HV HB HNO HLL HKL HN
      generalize ecs A = X at *
      go_wp2_with (fail)
      go_loopw [7] (fun i wr => ∃ t : Nat, t ≤ n ∧ i = .int .i64 (t : Int) ∧ Hid (∃ Y, wr.ownsRow base 38 4 (.slice va n cap) n Y ∧ Y.length = n * 4 ∧ Keys n t Y) ∧ Hid (Km wr B MB j vs us Ls) ∧ Below base w wr) (fun i _ => n - (intOf i).toNat)
      case atStart => exact ⟨0, Nat.zero_le _, rfl, ⟨X, R2h.out, KY.out.2, KY.out.1⟩, K2h, B2⟩
      case round =>
        obtain ⟨t, ht, rfl, HR, HK, bx⟩ := hrel
        clear R2h K2h KY
        by_cases hlt : t < n
        · obtain ⟨Y, r, yl, ky⟩ := HR.out
          obtain ⟨g, cap', hv⟩ := own_someE r (by omega)
          cases hv
          obtain ⟨n1, n2, n3, n4, n5⟩ := GB.out g rfl
          obtain ⟨s, hs, hsl⟩ := ky t (Nat.le_refl _) hlt
          have d0 : wr.cell? ⟨g, t * 4, none⟩ = some (str s) := by rw [r.cellAt (t * 4) (by omega), hs]
          have f0 := r.frozenAt (t * 4)
          have ST : Hid (∀ u, Hid (∃ Y, (wr.setCell ⟨g, t * 4, none⟩ u).ownsRow base 38 4 (.slice (some ⟨g, 0, none⟩) n cap) n Y ∧ Y.length = n * 4 ∧ Keys n (t + 1) Y) ∧ Hid (Km (wr.setCell ⟨g, t * 4, none⟩ u) B MB j vs us Ls)) := fun u => by
            obtain ⟨s1, s2⟩ := r.stored (t * 4) u
            exact ⟨⟨_, s1, by rw [List.length_set]; exact yl, ky.set u⟩, HK.out.grown HM.out.symm s2 n1 n2 n3 n4⟩
          have HSL := hide hsl
          clear hsl
          have t1 : (t : Int) < (n : Int) := by omega
          have t2 : (0 : Int) ≤ (t : Int) := by omega
          clear HR r yl ky hs n1 n2 n3 n4 HK
          go_wp2_with (fail)
          · exact absurd HSL.out (by omega)
          · exact ⟨⟨t + 1, by omega, by go_num, (ST.out _).1, (ST.out _).2, bx.setCell n5 _⟩, by simp [intOf]; omega⟩
        · have e : t = n := by omega
          subst e
          have i3 : ¬ (t : Int) < (t : Int) := by omega
          go_wp2_with (fail)
          clear i3
          obtain ⟨Y, r, yl, ky⟩ := HR.out
          have R := hide r
          clear HR r yl ky
          go_loopw [0] (fun x wr2 => ∃ k : Nat, x = .slice va k cap ∧ Hid (∃ Y, wr2.ownsRow base 38 4 (.slice va k cap) k Y) ∧ Hid (Km wr2 B MB j vs us Ls) ∧ Below base w wr2) (fun x _ => cap - sliceLenE x)
          case atStart => exact ⟨t, rfl, ⟨Y, R.out⟩, HK, bx⟩
          case round =>
            obtain ⟨k, rfl, HR2, HK2, by2⟩ := hrel
            clear R HK bx
            by_cases hlt : k < cap
            · obtain ⟨Y2, r2⟩ := HR2.out
              obtain ⟨g, hv⟩ : ∃ g, va = some ⟨g, 0, none⟩ := by
                rcases r2.2 with ⟨e, _⟩ | ⟨g, cap', cur, e, _⟩
                · simp only [Value.slice.injEq] at e; omega
                · simp only [Value.slice.injEq] at e; exact ⟨g, e.1⟩
              subst hv
              obtain ⟨n1, n2, n3, n4, n5⟩ := GB.out g rfl
              have hki : (k : Int) < (cap : Int) := by omega
              have R2 := hide r2
              have CN : Hid (∀ W : World, ∀ B, B = W.heap.size → ∀ i u, (ecs [⟨[111, 118, 101, 114], [], 0, false⟩])[i]? = some u → (W.alloc (.cells #[str [111, 118, 101, 114], str [], .int .i64 0, .bool false] 38)).cell? ((⟨B, 0, none⟩ : Addr).add i) = some u) := fun W B hB => ec_new W ⟨[111, 118, 101, 114], [], 0, false⟩ B hB
              have HL1 : Hid ((ecs [⟨[111, 118, 101, 114], [], 0, false⟩]).length = 1 * 4) := rfl
              have HO1 : Hid (∀ u ∈ ecs [⟨[111, 118, 101, 114], [], 0, false⟩], u.oneCell' = true) := ecs_one _
              clear r2
              go_wp2_with (first
                | (at_builtin; refine wpList_append_fits _ rfl _ _ 23 rfl base 38 i0 4 Try.underlying23 hi hz1 g k cap Y2 rfl (R2.out.alloc _) ⟨wr.heap.size, 0, none⟩ 1 1 (ecs [⟨[111, 118, 101, 114], [], 0, false⟩]) rfl HL1.out (CN.out _ _ rfl) HO1.out hlt ?_; intro w3 o3 g3))
              have K3 := (HK2.out.later HM.out.symm ((Below.refl _ _).alloc (Nat.le_refl _) (.cells #[str [111, 118, 101, 114], str [], .int .i64 0, .bool false] 38))).grown HM.out.symm g3 n1 n2 n3 n4
              exact ⟨⟨k + 1, rfl, ⟨_, o3⟩, K3, (by2.alloc (Nat.le_trans hbase by2.size) _).grown g3 (by have := by2.size; simp; omega) (fun q hq => by cases hq; exact n5)⟩, by simp [sliceLenE]; omega⟩
            · have hki : ¬ (k : Int) < (cap : Int) := by omega
              obtain ⟨W4, hW4⟩ : ∃ W4, W4 = wr := ⟨_, rfl⟩
              rw [← hW4] at HK2 by2 ⊢
              clear hW4 HR2 GB
              go_wp2_with (fail)
              go_loopw [9] (fun i wr2 => ∃ q : Nat, q ≤ j ∧ i = .int .i64 (q : Int) ∧ Below W4.heap.size W4 wr2) (fun i _ => j - (intOf i).toNat)
              case atStart => exact ⟨0, Nat.zero_le _, rfl, Below.refl _ _⟩
              case round =>
                obtain ⟨q, hq, rfl, bq⟩ := hrel
                by_cases hqj : q < j
                · have ql : q < Ls.length := by have := HM.out; omega
                  have qv : q < vs.length := by rw [HK2.out.hv.len]; exact ql
                  have qu : q < us.length := by rw [HK2.out.hu.len]; exact ql
                  have PK : Hid (∀ wx, Below W4.heap.size W4 wx → wx.cell? ⟨B, q, none⟩ = some vs[q] ∧ wx.cell? ⟨MB, q, none⟩ = some us[q]) := fun wx hx => by
                    have h := HK2.out.later HM.out.symm hx
                    exact ⟨by rw [h.hb q hqj, List.getElem?_eq_getElem qv], by rw [h.hm q hqj, List.getElem?_eq_getElem qu]⟩
                  have SQ : Hid (∀ wx, Below W4.heap.size W4 wx → Calls Try.prog 20 #[vs[q], us[q]] wx fun e w' => e = .returned (.bool true) ∧ Below wx.heap.size wx w') := fun wx hx => by
                    have h := HK2.out.later HM.out.symm hx
                    obtain ⟨a1, c1, e1, _, _, h1⟩ := h.hv.at' q ql qv
                    obtain ⟨a2, c2, e2, _, _, h2⟩ := h.hu.at' q ql qu
                    rw [e1, e2]
                    exact SE.out _ (List.getElem_mem ql) wx _ _ h1 h2
                  obtain ⟨a1, c1, e1, -⟩ := HK2.out.hv.at' q ql qv
                  obtain ⟨a2, c2, e2, -⟩ := HK2.out.hu.at' q ql qu
                  obtain ⟨nq, hnq⟩ : ∃ nq, nq = Ls[q].length := ⟨_, rfl⟩
                  rw [← hnq] at e1 e2
                  rw [e1, e2] at PK SQ
                  have q1 : (q : Int) < (j : Int) := by omega
                  have q0 : (0 : Int) ≤ (q : Int) := by omega
                  clear hnq e1 e2 ql qv qu
                  have P0 := PK.out wr.drew bq.drew
                  go_wp2_with (fail)
                  go_region_held3 (fun wx => wx.cell? ⟨B, q, none⟩ = some (.slice a1 nq c1) ∧ wx.cell? ⟨MB, q, none⟩ = some (.slice a2 nq c2))
                    (first | exact P0 | exact P1)
                    (first
                      | (go_at_call 20; refine (SQ.out _ bq.drew).mono ?_; rintro e w3 ⟨rfl, b3⟩; have B3 : Below W4.heap.size W4 w3 := bq.drew.trans (b3.mono bq.drew.size); have P1 := PK.out _ B3))
                  go_wp2_with (fail)
                  exact ⟨⟨q + 1, by omega, by go_num, B3⟩, by simp [intOf]; omega⟩
                · have q1 : ¬ (q : Int) < (j : Int) := by omega
                  go_wp2_with (fail)
                  go_ret
                  exact ⟨rfl, by2.trans (bq.mono (Nat.le_trans hbase by2.size))⟩
end Go.Proofs.Ytbdgdigpnfpnhaa.Q
