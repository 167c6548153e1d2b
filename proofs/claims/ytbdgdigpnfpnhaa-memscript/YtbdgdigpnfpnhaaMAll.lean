/-
  The statements' list of all that a table goes over, at most so many.
-/
import Derived.Test.YtbdgdigpnfpnhaaMEnts
namespace Go.Proofs.Ytbdgdigpnfpnhaa.Q.P
open Go.RowKit

attribute [local go_sem] Oper.semAt_some

theorem Try.infoE : (Try.prog.info? 38).map (fun i => (i.zero, i.size, i.bytes)) = some (some (.agg #[.string ⟨#[]⟩, .string ⟨#[]⟩, .int .i64 0, .bool false]), 4, 48) := by kernel_rfl

/-- How it stands behind k entries. -/
structure AllIn (w W : World) (n : Nat) (E : List Mm.Ent) (k : Nat) (A : World) : Prop where
  kn : k ≤ n
  out : ∃ v, Boxed A (w.heap.size + 1) 23 v ∧ A.ownsRow W.heap.size 38 4 v k (ecs (E.take k))
  most : A.heap[w.heap.size]? = some (.cells #[.int .i64 (n : Int)] 3 (0, 0))
  below : Below w.heap.size w A
theorem AllIn.grown {w W : World} {n k : Nat} {E : List Mm.Ent} {A B : World} (h : AllIn w W n E k A) (hg : A.grownBy B none) : AllIn w W n E k B := by
  obtain ⟨v, h1, h2⟩ := h.out
  exact ⟨h.kn, ⟨v, h1.kept hg (by simp), own_same h2 fun g hv => hg.block g (own_lt h2 g hv) (by simp)⟩, (hg.block _ (Array.getElem?_eq_some_iff.1 h.most).1 (by simp)).trans h.most, h.below.grown hg h.below.size (fun _ e => by cases e)⟩
theorem AllIn.put {w W : World} {n k : Nat} {E : List Mm.Ent} {A : World} (h : AllIn w W n E k A) {i : Nat} {o : Obj} (o' : Obj) (hi : w.heap.size + 1 < i) (ha : A.heap[i]? = some o) (ho : o.isCells = false) : AllIn w W n E k (A.putObj i o') := by
  obtain ⟨v, h1, h2⟩ := h.out
  refine ⟨h.kn, ⟨v, (World.putObj_heap_other (by omega)).trans h1, ownsRow_putObj h2 o' ha ho⟩, (World.putObj_heap_other (by omega)).trans h.most, h.below.trans ⟨rfl, rfl, rfl, by simp [World.putObj], fun j hj => World.putObj_heap_other (by omega)⟩⟩

set_option maxRecDepth 100000 in
set_option maxHeartbeats 8000000 in
theorem list_all (w : World) (b : Nat) (hv : Value) (hs : List Nat) (hd : Mm.Nd) (ns : List Mm.Nd) (T : TabAt w b hv hs hd ns) (n : Nat) (hn : ns.length ≤ 100000) (hn2 : n ≤ 1000000) :
    Calls Try.prog 21 #[.pointer (some ⟨b, 0, none⟩), .int .i64 (n : Int)] w fun r w' => ∃ v, r = .returned v ∧ w'.ownsRow w.heap.size 38 4 v ((ns.map (·.ent)).take n).length (ecs ((ns.map (·.ent)).take n)) ∧ Below w.heap.size w w' := by
  obtain ⟨E, hE⟩ : ∃ E, E = ns.map (·.ent) := ⟨_, rfl⟩
  have HE := hide hE
  rw [← hE]
  clear hE
  obtain ⟨W0, hW0⟩ : ∃ W0, W0 = (w.alloc (.cells #[.int .i64 (n : Int)] 3)).alloc (.cells #[.slice none 0 0] 23) := ⟨_, rfl⟩
  obtain ⟨x0, x1, B0⟩ := two_new w (.cells #[.int .i64 (n : Int)] 3) (.cells #[.slice none 0 0] 23)
  rw [← hW0] at x0 x1 B0
  have AL := hide (all_any W0 b hv hs hd ns (T.later B0))
  have z0 : W0.heap.size = w.heap.size + 2 := by rw [hW0]; simp
  refine (callsIn_wide (n := 5)).1 ?_
  refine callsIn_of_wp_marks Try.func21 rfl trivial ?_ rfl
  simp only [Try.ntmps21, List.size_toArray, List.length_cons, List.length_nil, Nat.reduceAdd, Nat.reduceSub, Array.replicate_succ, Array.replicate_zero, List.push_toArray, List.append_toArray, List.nil_append, List.cons_append]
  rw [wpIn_wide]
  have HT := hide T
  have HW := hide hW0
  rw [hW0] at AL
  clear T hW0
  go_wp2_with (first
    | (go_at_call 56; refine AL.out.mono ?_; rintro r W ⟨Bf, Bc, rfl, h1, h2, h3, h4, h5⟩; clear AL))
  rw [← HW.out] at h3 h4 h5
  have BW := B0.trans (h5.mono B0.size)
  have y0 := keepB h5 x0
  have y1 := keepB h5 x1
  have zW := h5.size
  have TW := HT.out.later BW
  have bfl : Bf < W.heap.size := (Array.getElem?_eq_some_iff.1 h1).1
  have bcl : Bc < W.heap.size := (Array.getElem?_eq_some_iff.1 h2).1
  have NL : ∀ x ∈ ns, x.blk < w.heap.size := fun x hx => HT.out.chain.lt x (by simp [hx])
  have HHA := all_hands 2 Bf Bc ns.length W ns (fun i => (∃ x ∈ ns, x.blk = i) ∨ i = Bf ∨ i = Bc) h1 h2 TW.chain.2 (fun x hx => ⟨(TW.tall x hx).1, (TW.tall x hx).2.2⟩) (by have := TW.apart; rw [List.map_cons] at this; exact (List.nodup_cons.1 this).2) (.inr (.inl rfl)) (.inr (.inr rfl)) (fun x hx => .inl ⟨x, hx, rfl⟩) (fun i hi => by
    rcases hi with ⟨x, hx, rfl⟩ | rfl | rfl
    · have := NL x hx; omega
    · exact bfl
    · exact bcl)
  have SL : Hid (∀ i, ((∃ x ∈ ns, x.blk = i) ∨ i = Bf ∨ i = Bc) → i < W.heap.size ∧ i ≠ w.heap.size ∧ i ≠ w.heap.size + 1) := fun i hi => by
    rcases hi with ⟨x, hx, rfl⟩ | rfl | rfl
    · have := NL x hx; omega
    · omega
    · omega
  rw [z0] at h3 h4 zW
  clear TW h1 h2 h5 HW x0 x1 z0 B0 NL
  rw [← wpIn_wide (n := 5)]
  refine wpIn_handsK7 rfl (by decide) (gf := 77) (lb := #[.pointer (some ⟨Bf, 0, none⟩), .pointer (some ⟨Bc, 0, none⟩)]) rfl trivial (enters_of Try.func77 (by kernel_rfl) rfl) HHA (KeepA.refl _ _ _) (fun h k => h.trans k) (fun A o hA => KeepA.later ((Below.refl _ _).alloc (Nat.le_refl _) _) (fun i hi => by have := (SL.out i hi).1; omega)) (fun A o => KeepA.put A _ o (fun i hi => by have := (SL.out i hi).1; omega)) (fun _ => rfl)
    (fun k A => AllIn w W n E k A) (fun co k A => co = .exit 0 ∧ n ≤ ns.length ∧ AllIn w W n E n A)
    (fun k A B h hg => h.grown hg) (fun co k A B h hg => ⟨h.1, h.2.1, h.2.2.grown hg⟩) (fun k A i o o' h hi ha ho => h.put o' (by omega) ha ho) (fun co k A i o o' h hi ha ho => ⟨h.1, h.2.1, h.2.2.put o' (by omega) ha ho⟩)
    (fun o => AllIn.grown ⟨Nat.zero_le _, ⟨_, y1, World.ownsRow_nil _ _ _ _⟩, y0, BW⟩ (grown_any (((Below.refl W.heap.size W).alloc (Nat.le_refl _) _).alloc (by simp) _)))
    (fun A B hA hb => KeepA.later hb (fun i hi => by have := (SL.out i hi).1; omega))
    (fun k a A => ∃ B x, ns[k]? = some x ∧ W.heap.size + 1 < B ∧ A.heap[B]? = some (entO x.ent) ∧ a = { tmps := #[.pointer (some ⟨b, 0, none⟩), .int .i64 (n : Int), undef, .pointer (some ⟨w.heap.size, 0, none⟩), .slice none 0 0, .pointer (some ⟨w.heap.size + 1, 0, none⟩), .pointer (some ⟨B, 0, none⟩), .pointer (some ⟨b, 0, none⟩), .func (.func 77) #[] #[.pointer (some ⟨Bf, 0, none⟩), .pointer (some ⟨Bc, 0, none⟩)], entV x.ent, undef, undef, undef, undef, undef, undef, undef, undef, undef], defers := [] })
    (fun k a A o h => by
      obtain ⟨B, x, h1, h2, h3, h4⟩ := h
      exact ⟨B, x, h1, h2, (World.putObj_heap_other (by omega)).trans h3, h4⟩) ?_ ?_ ?_ ?_
  · intro L' k A K hk hz hK
    have en : ns[k]? = some ns[k] := List.getElem?_eq_getElem hk
    simp only [en, Option.map_some, Option.getD_some]
    generalize ns[k] = x at en ⊢
    have HK := hide hK
    clear HHA hK
    gi_wp2_with (fail)
    exact HK.out _ _ ((Below.refl _ _).alloc (Nat.le_refl _) _) ⟨_, x, en, hz, World.alloc_heap_new A _, rfl⟩
  · rintro L' k a1 A hk hI ⟨B, x, en, hB, hx, rfl⟩ hKp ⟨rl, hl1⟩ hd1
    obtain ⟨v, o1, o2⟩ := hI.out
    obtain ⟨va, vc, rfl⟩ := row_shape o2
    have c1 := o1.cell
    have f1 := o1.frozen
    have c2 := Joins.cell_of_block hI.most 0
    obtain ⟨q0, q1, q2, q3⟩ := ent_cells hx
    have HI := hide hI
    have O1 := hide o1
    have O2 := hide o2
    have U1 : Hid (KeepA (fun i => (∃ x ∈ ns, x.blk = i) ∨ i = Bf ∨ i = Bc) W.heap.size A A) := KeepA.refl _ _ _
    by_cases hkn : k = n
    · subst hkn
      clear HHA hI o1 o2
      gi_wp2_with (fail)
      exact ⟨⟨rfl, rfl⟩, U1.out, rfl, Nat.le_of_lt hk, HI.out⟩
    · have i1 : ((k : Int) == (n : Int)) = false := by simp; omega
      have kn := hI.kn
      have zA : W.heap.size ≤ A.heap.size := hKp.size
      have lA := (Array.getElem?_eq_some_iff.1 hl1).1
      obtain ⟨i0, hi, hz0, hz1, hz2⟩ := info_parts Try.infoE
      have N1 : Hid ((A.alloc (entO x.ent)).heap[A.heap.size]? = some (entO x.ent)) := World.alloc_heap_new A _
      have OA : Hid ((A.alloc (entO x.ent)).ownsRow W.heap.size 38 4 (.slice va k vc) k (ecs (E.take k))) := o2.alloc _
      have NC : Hid (∀ j u, (ec x.ent)[j]? = some u → (A.alloc (entO x.ent)).cell? ((⟨A.heap.size, 0, none⟩ : Addr).add j) = some u) := fun j u hu => by
        rw [addr_add, Nat.zero_add]
        have hj : j < 4 := by
          rcases Nat.lt_or_ge j 4 with h | h
          · exact h
          · rw [List.getElem?_eq_none (by show 4 ≤ j; exact h)] at hu; cases hu
        rw [Joins.cell_of_block N1.out j]
        match j, hj, hu with
        | 0, _, hu => exact hu
        | 1, _, hu => exact hu
        | 2, _, hu => exact hu
        | 3, _, hu => exact hu
      have ON : Hid (∀ u ∈ ec x.ent, u.oneCell' = true) := fun u hu => ecs_one [x.ent] u (by simpa [ecs] using hu)
      have ne1 : w.heap.size + 1 ≠ A.heap.size := by omega
      have FIN : Hid (∀ v' w1, w1.ownsRow W.heap.size 38 4 v' (k + 1) (ecs (E.take k) ++ ec x.ent) → (A.alloc (entO x.ent)).grownBy w1 (Value.slice va k vc).ownBlock → (Boxed w1 (w.heap.size + 1) 23 (.slice va k vc)) ∧ ((((w1.setCell ⟨w.heap.size + 1, 0, none⟩ v').heap[W.heap.size]? = A.heap[W.heap.size]? ∧ (w1.setCell ⟨w.heap.size + 1, 0, none⟩ v').heap[W.heap.size + 1]? = A.heap[W.heap.size + 1]?)) ∧ KeepA (fun i => (∃ x ∈ ns, x.blk = i) ∨ i = Bf ∨ i = Bc) W.heap.size A (w1.setCell ⟨w.heap.size + 1, 0, none⟩ v') ∧ AllIn w W n E (k + 1) (w1.setCell ⟨w.heap.size + 1, 0, none⟩ v'))) := fun v' w1 h1 h2 => by
        have rowG : ∀ g, (Value.slice va k vc).ownBlock = some g → W.heap.size ≤ g ∧ ∃ cur fr, A.heap[g]? = some (.cells cur 38 fr) := fun g hg => by
          rcases O2.out.2 with ⟨e, _⟩ | ⟨g', cap, cur, e, h3, h4, _⟩
          · rw [e] at hg; cases hg
          · rw [e] at hg; cases hg; exact ⟨h3, cur, _, h4⟩
        have far : ∀ i o, A.heap[i]? = some o → (∀ g, (Value.slice va k vc).ownBlock = some g → i ≠ g) → w1.heap[i]? = some o := fun i o ho hne => by
          have hlt := (Array.getElem?_eq_some_iff.1 ho).1
          exact (h2.block i (by simp; omega) (fun e => hne i e.symm rfl)).trans ((Below.heap_alloc _ _ _ hlt).trans ho)
        have b1 : Boxed w1 (w.heap.size + 1) 23 (.slice va k vc) := far _ _ O1.out (fun g hg => by have := (rowG g hg).1; omega)
        have far2 : ∀ i o, i ≠ w.heap.size + 1 → A.heap[i]? = some o → (∀ g, (Value.slice va k vc).ownBlock = some g → i ≠ g) → (w1.setCell ⟨w.heap.size + 1, 0, none⟩ v').heap[i]? = some o := fun i o hi ho hne => (heap_setCell_other _ _ _ _ hi).trans (far i o ho hne)
        refine ⟨b1, ⟨(far2 _ _ (by omega) hd1 (fun g hg e => by obtain ⟨_, cur, fr, h3⟩ := rowG g hg; rw [← e, hd1] at h3; cases h3)).trans hd1.symm, (far2 _ _ (by omega) hl1 (fun g hg e => by obtain ⟨_, cur, fr, h3⟩ := rowG g hg; rw [← e, hl1] at h3; cases h3)).trans hl1.symm⟩, ⟨?_, fun i hi => ?_, fun i o hi ho hk => far2 i o (by omega) ho (fun g hg e => ?_)⟩, ⟨by omega, ⟨v', b1.set v', ?_⟩, far2 _ _ (by omega) HI.out.most (fun g hg => by have := (rowG g hg).1; omega), ?_⟩⟩
        · have := h2.size
          simp at this ⊢
          omega
        · obtain ⟨s1, s2, s3⟩ := SL.out i hi
          have hlt : i < A.heap.size := by omega
          rw [show A.heap[i]? = some A.heap[i] from Array.getElem?_eq_getElem hlt]
          exact far2 i _ s3 (Array.getElem?_eq_getElem hlt) (fun g hg => by have := (rowG g hg).1; omega)
        · obtain ⟨_, cur, fr, h3⟩ := rowG g hg
          rw [← e, ho] at h3
          cases h3
          exact absurd hk (by simp [keepsObj])
        · have hE : E.take (k + 1) = E.take k ++ [x.ent] := by
            have hkE : k < E.length := by rw [HE.out]; simpa using hk
            rw [List.take_succ_eq_append_getElem hkE]
            congr 2
            have : E[k]? = some x.ent := by rw [HE.out, List.getElem?_map, en]; rfl
            rw [List.getElem?_eq_getElem hkE] at this
            exact Option.some.inj this
          rw [hE, ecs_append]
          have : ecs [x.ent] = ec x.ent := by simp [ecs]
          rw [this]
          refine own_same h1 fun g hg => heap_setCell_other _ _ _ _ (fun e => ?_)
          rcases h1.2 with ⟨e', _⟩ | ⟨g', cap, cur, e', h3, _, _⟩
          · rw [e'] at hg; cases hg
          · rw [e'] at hg; cases hg; have : g' = w.heap.size + 1 := e; omega
        · have bz := HI.out.below.size
          exact (((HI.out.below.alloc bz _).grown h2 (by simp; omega) (fun g hg => by have := (rowG g hg).1; omega))).setCell (p := ⟨w.heap.size + 1, 0, none⟩) (by show w.heap.size ≤ w.heap.size + 1; omega) _
      clear HHA hI o1 o2 hd1 hl1 hx SL HI O1 O2 N1 U1 en
      gi_wp2_with (first
        | (gi_at_builtin; refine wpListIn_append_own _ rfl _ _ 23 rfl W.heap.size 38 i0 _ 4 48 Try.underlying23 hi hz0 hz1 hz2 rfl (by decide) _ k (ecs (E.take k)) rfl OA.out ⟨A.heap.size, 0, none⟩ 1 1 (ec x.ent) rfl rfl NC.out ON.out (by unfold maxLen; omega) (by omega) (by simp; omega) ?_; intro v1 w1 r1 g1 _; obtain ⟨bx1, FF⟩ := FIN.out v1 w1 r1 g1; obtain ⟨a1, c1', rfl⟩ := row_shape r1; have fx := bx1.frozen; have cx := bx1.cell))
      exact FF
  · rintro B hI hd
    clear HHA
    obtain ⟨v, o1, o2⟩ := hI.out
    obtain ⟨va, vc, rfl⟩ := row_shape o2
    have c1 := o1.cell
    have BB := hI.below
    have HO : Hid ((B.putObj W.heap.size (.deferred none)).ownsRow w.heap.size 38 4 (.slice va ns.length vc) (E.take n).length (ecs (E.take n))) := by
      have kn := hI.kn
      have hl : E.length = ns.length := by rw [HE.out]; simp
      have e1 : E.take n = E.take ns.length := by rw [List.take_of_length_le (by omega), List.take_of_length_le (by omega)]
      rw [e1]
      have e2 : (E.take ns.length).length = ns.length := by rw [List.length_take]; omega
      rw [e2]
      have := ownsRow_putObj o2 (.deferred none) hd rfl
      refine ⟨this.1, ?_⟩
      rcases this.2 with h | ⟨g, cap, cur, e, h1, h2⟩
      · exact .inl h
      · exact .inr ⟨g, cap, cur, e, by omega, h2⟩
    have B9 : Below w.heap.size w (B.putObj W.heap.size (.deferred none)) := BB.trans ⟨rfl, rfl, rfl, by simp [World.putObj], fun i hi => World.putObj_heap_other (by omega)⟩
    clear hI o1 o2 SL
    gi_wp2_with (fail)
    go_wp2_with (fail)
    exact leaves_one hd (v := .slice va ns.length vc) (by simp [results, Try.results21, go_sem]) ⟨_, rfl, HO.out, B9⟩
  · rintro co k B hk ⟨rfl, hle, hI⟩ hd
    clear HHA
    obtain ⟨v, o1, o2⟩ := hI.out
    obtain ⟨va, vc, rfl⟩ := row_shape o2
    have c1 := o1.cell
    have BB := hI.below
    have HO : Hid ((B.putObj W.heap.size (.deferred none)).ownsRow w.heap.size 38 4 (.slice va n vc) (E.take n).length (ecs (E.take n))) := by
      have hl : E.length = ns.length := by rw [HE.out]; simp
      have e2 : (E.take n).length = n := by rw [List.length_take]; omega
      rw [e2]
      have := ownsRow_putObj o2 (.deferred none) hd rfl
      refine ⟨this.1, ?_⟩
      rcases this.2 with h | ⟨g, cap, cur, e, h1, h2⟩
      · exact .inl h
      · exact .inr ⟨g, cap, cur, e, by omega, h2⟩
    have B9 : Below w.heap.size w (B.putObj W.heap.size (.deferred none)) := BB.trans ⟨rfl, rfl, rfl, by simp [World.putObj], fun i hi => World.putObj_heap_other (by omega)⟩
    clear hI o1 o2 SL
    gi_wp2_with (fail)
    go_wp2_with (fail)
    exact leaves_one hd (v := .slice va n vc) (by simp [results, Try.results21, go_sem]) ⟨_, rfl, HO.out, B9⟩
end Go.Proofs.Ytbdgdigpnfpnhaa.Q.P
