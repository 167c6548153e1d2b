/-
  Scan: what it answers.
-/
import Derived.Test.YtbdgdigpnfpnhaaKQ
import Derived.Test.YtbdgdigpnfpnhaaMScanP
import Derived.Test.YtbdgdigpnfpnhaaMLane
import Derived.Sort.CutIn
import Derived.BigRegionIn
namespace Go.Proofs.Ytbdgdigpnfpnhaa.Q.P
open Go.RowKit
attribute [local go_sem] Oper.semAt_some

theorem take_all {α : Type} (p : α → Bool) : ∀ (l : List α), (∀ x ∈ l, p x = true) → l.takeWhile p = l
  | [], _ => rfl
  | x :: r, h => by rw [List.takeWhile_cons, if_pos (h x (by simp)), take_all p r fun y hy => h y (by simp [hy])]
theorem take_cut {α : Type} (p : α → Bool) (x : α) (r : List α) : ∀ (l : List α), (∀ y ∈ l, p y = true) → p x = false → (l ++ x :: r).takeWhile p = l
  | [], _, hx => by rw [List.nil_append, List.takeWhile_cons, if_neg (by simp [hx])]
  | y :: l, h, hx => by rw [List.cons_append, List.takeWhile_cons, if_pos (h y (by simp)), take_cut p x r l (fun z hz => h z (by simp [hz])) hx]
theorem chain_behind {w : World} {l : List Mm.Nd} : ∀ (p : List Mm.Nd), Chain w (p ++ l) → Chain w l
  | [], h => h
  | _ :: p, h => chain_behind p h.2
/-- Is the key told already? -/
def toldB (out : List Mm.Ent) (x : Mm.Ent) : Bool := decide (out.getLast?.map (·.key) = some x.key)
theorem toldB_snoc (o : List Mm.Ent) (y x : Mm.Ent) : toldB (o ++ [y]) x = (y.key == x.key) := by
  have h : (o ++ [y]).getLast?.map (·.key) = some y.key := by simp
  by_cases e : y.key = x.key
  · rw [e]
    simp only [beq_self_eq_true]
    exact decide_eq_true (h.trans (by rw [e]))
  · rw [beq_eq_false_iff_ne.2 e]
    exact decide_eq_false (fun h2 => e (Option.some.inj (h.symm.trans h2)))
theorem tell_yes {seq : Int} {out : List Mm.Ent} {x : Mm.Ent} (h : x.seq ≤ seq) (ht : toldB out x = false) : Mm.tell seq out x = out ++ [x] := by
  unfold Mm.tell
  exact if_pos ⟨h, of_decide_eq_false ht⟩
theorem tell_no {seq : Int} {out : List Mm.Ent} {x : Mm.Ent} (h : ¬ x.seq ≤ seq ∨ toldB out x = true) : Mm.tell seq out x = out := by
  unfold Mm.tell
  refine if_neg (fun hc => ?_)
  rcases h with h | h
  · exact h hc.1
  · exact hc.2 (of_decide_eq_true h)
theorem own_someE {w : World} {base e size n : Nat} {v : Value} {xs : List Value} (h : w.ownsRow base e size v n xs) (h0 : n ≠ 0) : ∃ g cap, v = .slice (some ⟨g, 0, none⟩) n cap := by
  rcases h.2 with ⟨_, h1⟩ | ⟨g, cap, cur, rfl, _⟩
  · exact absurd h1 h0
  · exact ⟨g, cap, rfl⟩
theorem last_cell {w : World} {g n cap : Nat} {o : List Mm.Ent} {y : Mm.Ent} (h : EntsAt w (.slice (some ⟨g, 0, none⟩) n cap) (o ++ [y])) : w.cell? ⟨g, o.length * 4, none⟩ = some (str y.key) := by
  have := (h.cells o.length (by simp)).1
  rw [Nat.zero_add] at this
  simpa using this
/-- How it stands behind k entries, each of the span. -/
structure ScanIn (w W : World) (M : List Mm.Nd) (lo hi : Mm.Bs) (s : Int) (k : Nat) (A : World) : Prop where
  all : ∀ x ∈ M.take k, Mm.inB x.ent.key lo hi = true
  out : ∃ v, Boxed A (w.heap.size + 1 + 1) 23 v ∧ A.ownsRow W.heap.size 38 4 v (Mm.told s ((M.take k).map (·.ent))).length (ecs (Mm.told s ((M.take k).map (·.ent))))
  span : A.heap[w.heap.size]? = some (.cells #[str lo, str hi] 46 (0, 0))
  seq : A.heap[w.heap.size + 1]? = some (.cells #[.int .i64 s] 3 (0, 0))
  below : Below w.heap.size w A
theorem ScanIn.grown {w W : World} {M : List Mm.Nd} {lo hi : Mm.Bs} {s : Int} {k : Nat} {A B : World} (h : ScanIn w W M lo hi s k A) (hg : A.grownBy B none) : ScanIn w W M lo hi s k B := by
  obtain ⟨v, h1, h2⟩ := h.out
  exact ⟨h.all, ⟨v, h1.kept hg (by simp), own_same h2 fun g hv => hg.block g (own_lt h2 g hv) (by simp)⟩, (hg.block _ (Array.getElem?_eq_some_iff.1 h.span).1 (by simp)).trans h.span, (hg.block _ (Array.getElem?_eq_some_iff.1 h.seq).1 (by simp)).trans h.seq, h.below.grown hg h.below.size (fun _ e => by cases e)⟩
theorem ScanIn.put {w W : World} {M : List Mm.Nd} {lo hi : Mm.Bs} {s : Int} {k : Nat} {A : World} (h : ScanIn w W M lo hi s k A) {i : Nat} {o : Obj} (o' : Obj) (hi' : w.heap.size + 1 + 1 < i) (ha : A.heap[i]? = some o) (ho : o.isCells = false) : ScanIn w W M lo hi s k (A.putObj i o') := by
  obtain ⟨v, h1, h2⟩ := h.out
  refine ⟨h.all, ⟨v, (World.putObj_heap_other (by omega)).trans h1, ownsRow_putObj h2 o' ha ho⟩, (World.putObj_heap_other (by omega)).trans h.span, (World.putObj_heap_other (by omega)).trans h.seq, h.below.trans ⟨rfl, rfl, rfl, by simp [World.putObj], fun j hj => World.putObj_heap_other (by omega)⟩⟩
/-- How it stands when all of the span were looked at. -/
def ScanOut (w W : World) (E : List Mm.Ent) (s : Int) (A : World) : Prop := (∃ v, Boxed A (w.heap.size + 1 + 1) 23 v ∧ A.ownsRow W.heap.size 38 4 v (Mm.told s E).length (ecs (Mm.told s E))) ∧ Below w.heap.size w A
theorem scan3 (w : World) (lo hi : Mm.Bs) (s : Int) (W : World) (hW : W = ((w.alloc (.cells #[str lo, str hi] 46)).alloc (.cells #[.int .i64 s] 3)).alloc (.cells #[.slice none 0 0] 23)) :
    W.heap[w.heap.size]? = some (.cells #[str lo, str hi] 46 (0, 0)) ∧ W.heap[w.heap.size + 1]? = some (.cells #[.int .i64 s] 3 (0, 0)) ∧ W.heap[w.heap.size + 1 + 1]? = some (.cells #[.slice none 0 0] 23 (0, 0)) ∧ Below w.heap.size w W ∧ W.heap.size = w.heap.size + 3 := by
  subst hW
  refine ⟨?_, ?_, ?_, (((Below.refl _ _).alloc (Nat.le_refl _) _).alloc (by simp) _).alloc (by simp; omega) _, by simp⟩
  · rw [Below.heap_alloc _ _ _ (by simp; omega), Below.heap_alloc _ _ _ (by simp)]
    exact World.alloc_heap_new w _
  · rw [Below.heap_alloc _ _ _ (by simp)]
    have := World.alloc_heap_new (w.alloc (.cells #[str lo, str hi] 46)) (.cells #[.int .i64 s] 3)
    simpa using this
  · have := World.alloc_heap_new ((w.alloc (.cells #[str lo, str hi] 46)).alloc (.cells #[.int .i64 s] 3)) (.cells #[.slice none 0 0] 23)
    simpa using this

/-- An append at a step of a region that draws its order, inside a fence. -/
theorem stepIn_append_own {F : Fence} {n : Nat} {P : Program} (w : World) {ops : Array Oper} {o : Oper} {a : Act} {K : Act → World → Prop} {Q : Exit → Act → World → Prop} {X : Prop}
    (hg : o.guard = none) (s x : Operand) (t : TypeId) (hop : o.op = Op.call { callee := Callee.builtin Builtin.append, args := #[s, x], argTypes := #[t, t] })
    (base : Nat) (e : TypeId) (i : TypeInfo) (z : Value) (size bytes : Nat) (h1 : P.underlying t = some (.slice e)) (h2 : P.info? e = some i) (h3 : i.zero = some z) (h4 : i.size = size) (h5 : i.bytes = bytes) (h6 : z.cells.size = size) (h7 : 0 < size)
    (v : Value) (k : Nat) (xs : List Value) (hs : a.eval s = v) (hown : w.ownsRow base e size v k xs) (ad : Addr) (m c : Nat) (news : List Value) (hx : a.eval x = .slice (some ad) m c) (hn : news.length = m * size)
    (hc : ∀ j u, news[j]? = some u → w.cell? (ad.add j) = some u) (h1c : ∀ u ∈ news, u.oneCell' = true) (b1 : k + m ≤ maxLen) (b2 : (k + m) * bytes ≤ 140737488355328) (b3 : base ≤ w.heap.size)
    (hK : ∀ v' w', w'.ownsRow base e size v' (k + m) (xs ++ news) → w.grownBy w' v.ownBlock → K (a.put o.dst v') w') :
    if Region.wanted o (yielded ops a.tmps) = true then Oper.wpIn F n P o a w K Q else X := by
  rw [if_pos (by simp [Region.wanted, hg])]
  obtain ⟨v', w', hrun, r1, r2, _⟩ := run_append_own (P := P) w base t o.type e i z size bytes h1 h2 h3 h4 h5 h6 h7 v k xs hown ad m c news hn hc h1c b1 b2 b3
  unfold Oper.wpIn
  refine ⟨?_, ?_⟩
  · simp [Oper.about, hop, resolve, Target.leads, Sem.run_pure]
  · rw [Oper.semAt_plain F _ _ (by rw [hop]; intro c hc'; cases hc')]
    simp [execOp, hop, resolve, invoke, builtin, hs, hx, hrun, Result.andThen]
    exact hK v' w' r1 r2

/-- How it stands behind one entry that was told. -/
theorem ScanIn.add {w W : World} {M : List Mm.Nd} {lo hi : Mm.Bs} {s : Int} {k : Nat} {A X w1 : World} {S : Nat → Prop} (hX : ScanIn w W M lo hi s k X) (bA : Below A.heap.size A X) (hSL : ∀ i, S i → i < W.heap.size ∧ i ≠ w.heap.size ∧ i ≠ w.heap.size + 1 ∧ i ≠ w.heap.size + 1 + 1) (zA : W.heap.size ≤ A.heap.size)
    {rl : List (Nat × Value)} {o1 o2 : Obj} (_h0 : rl = rl) (hd1 : A.heap[W.heap.size]? = some o1) (hl1 : A.heap[W.heap.size + 1]? = some o2) (n1 : o1.isCells = false) (n2 : o2.isCells = false) (zW : w.heap.size + 1 + 1 < W.heap.size)
    {x : Mm.Ent} {out : List Mm.Ent} (_hout : out = Mm.told s ((M.take k).map (·.ent))) (hnew : Mm.told s ((M.take (k + 1)).map (·.ent)) = out ++ [x]) (hall : ∀ y ∈ M.take (k + 1), Mm.inB y.ent.key lo hi = true)
    {v : Value} (b1 : Boxed X (w.heap.size + 1 + 1) 23 v) (r0 : X.ownsRow W.heap.size 38 4 v out.length (ecs out)) (v' : Value) (tmp : Obj) (r1 : w1.ownsRow W.heap.size 38 4 v' (out.length + 1) (ecs out ++ ec x)) (g1 : (X.drew.alloc tmp).grownBy w1 v.ownBlock) :
    Boxed w1 (w.heap.size + 1 + 1) 23 v ∧ ((((w1.setCell ⟨w.heap.size + 1 + 1, 0, none⟩ v').heap[W.heap.size]? = A.heap[W.heap.size]? ∧ (w1.setCell ⟨w.heap.size + 1 + 1, 0, none⟩ v').heap[W.heap.size + 1]? = A.heap[W.heap.size + 1]?)) ∧ KeepK S A (w1.setCell ⟨w.heap.size + 1 + 1, 0, none⟩ v') ∧ ScanIn w W M lo hi s (k + 1) (w1.setCell ⟨w.heap.size + 1 + 1, 0, none⟩ v')) := by
  have rowG : ∀ g, v.ownBlock = some g → W.heap.size ≤ g ∧ ∃ cur fr, X.heap[g]? = some (.cells cur 38 fr) := fun g hg => by
    rcases r0.2 with ⟨e, _⟩ | ⟨g', cap, cur, e, h3, h4, _⟩
    · rw [e] at hg; cases hg
    · rw [e] at hg; cases hg; exact ⟨h3, cur, _, h4⟩
  have far : ∀ i o, X.heap[i]? = some o → (∀ g, v.ownBlock = some g → i ≠ g) → w1.heap[i]? = some o := fun i o ho hne => by
    have hlt := (Array.getElem?_eq_some_iff.1 ho).1
    exact (g1.block i (by simp; omega) (fun e => hne i e.symm rfl)).trans ((Below.heap_alloc _ _ _ hlt).trans ho)
  have bb : Boxed w1 (w.heap.size + 1 + 1) 23 v := far _ _ b1 (fun g hg => by have := (rowG g hg).1; omega)
  have far2 : ∀ i o, i ≠ w.heap.size + 1 + 1 → X.heap[i]? = some o → (∀ g, v.ownBlock = some g → i ≠ g) → (w1.setCell ⟨w.heap.size + 1 + 1, 0, none⟩ v').heap[i]? = some o := fun i o hi ho hne => (heap_setCell_other _ _ _ _ hi).trans (far i o ho hne)
  have hd2 := (bA.block _ (Array.getElem?_eq_some_iff.1 hd1).1).trans hd1
  have hl2 := (bA.block _ (Array.getElem?_eq_some_iff.1 hl1).1).trans hl1
  have nc : ∀ i o, X.heap[i]? = some o → o.isCells = false → ∀ g, v.ownBlock = some g → i ≠ g := fun i o ho hc g hg e => by
    obtain ⟨_, cur, fr, h3⟩ := rowG g hg
    rw [← e, ho] at h3
    cases h3
    cases hc
  refine ⟨bb, ⟨(far2 _ _ (by omega) hd2 (nc _ _ hd2 n1)).trans hd1.symm, (far2 _ _ (by omega) hl2 (nc _ _ hl2 n2)).trans hl1.symm⟩, ⟨?_, fun i hi => ?_⟩, ⟨hall, ⟨v', bb.set v', ?_⟩, far2 _ _ (by omega) hX.span (fun g hg => by have := (rowG g hg).1; omega), far2 _ _ (by omega) hX.seq (fun g hg => by have := (rowG g hg).1; omega), ?_⟩⟩
  · have h1 := g1.size
    have h2 := bA.size
    simp at h1 ⊢
    omega
  · obtain ⟨s1, s2, s3, s4⟩ := hSL i hi
    have hlt : i < A.heap.size := by omega
    have hA : A.heap[i]? = some A.heap[i] := Array.getElem?_eq_getElem hlt
    rw [hA]
    exact far2 i _ s4 ((bA.block i hlt).trans hA) (fun g hg => by have := (rowG g hg).1; omega)
  · rw [hnew, ecs_append, List.length_append, List.length_singleton]
    have : ecs [x] = ec x := by simp [ecs]
    rw [this]
    refine own_same r1 fun g hg => heap_setCell_other _ _ _ _ (fun e => ?_)
    rcases r1.2 with ⟨e', _⟩ | ⟨g', cap, cur, e', h3, _, _⟩
    · rw [e'] at hg; cases hg
    · rw [e'] at hg; cases hg; have : g' = w.heap.size + 1 + 1 := e; omega
  · have bz := hX.below.size
    exact (((hX.below.drew.alloc bz _).grown g1 (by simp; omega) (fun g hg => by have := (rowG g hg).1; omega))).setCell (p := ⟨w.heap.size + 1 + 1, 0, none⟩) (by show w.heap.size ≤ w.heap.size + 1 + 1; omega) _

set_option maxRecDepth 100000 in
set_option maxHeartbeats 8000000 in
theorem scan_any (w : World) (b : Nat) (hv : Value) (hs : List Nat) (hd : Mm.Nd) (ns : List Mm.Nd) (T : TabAt w b hv hs hd ns) (hn : ns.length ≤ 100000) (lo hi : Mm.Bs) (s : Int) :
    Calls Try.prog 19 #[.pointer (some ⟨b, 0, none⟩), .agg #[str lo, str hi], .int .i64 s] w fun r w' => ∃ v, r = .returned v ∧ w'.ownsRow w.heap.size 38 4 v (Mm.told s (Mm.spanE lo hi (ns.map Mm.it))).length (ecs (Mm.told s (Mm.spanE lo hi (ns.map Mm.it)))) ∧ Below w.heap.size w w' := by
  have HT := hide T
  obtain ⟨M, hM⟩ : ∃ M, M = Mm.back ⟨lo, [], 1073741824, false⟩ ns := ⟨_, rfl⟩
  have HM := hide hM
  have HE : Hid (Mm.spanE lo hi (ns.map Mm.it) = (M.map (·.ent)).takeWhile fun x => Mm.inB x.key lo hi) := by
    show _ = _
    unfold Mm.spanE
    rw [← Mm.back_map, List.map_map, ← hM]
    rfl
  rw [HE.out]
  obtain ⟨E, hE⟩ : ∃ E, E = (M.map (·.ent)).takeWhile fun x => Mm.inB x.key lo hi := ⟨_, rfl⟩
  rw [← hE]
  have HEE := hide hE
  clear hM hE HE
  have MD : Hid (∀ wx, Below w.heap.size w wx → Calls Try.prog 39 #[.pointer (some ⟨b, 0, none⟩)] wx fun r w' => r = .returned (.bool true) ∧ w' = wx) := fun wx hw => made_yes _ b (T.later hw).cells.1
  have SK : Hid (∀ wx, Below w.heap.size w wx → Calls Try.prog 54 #[.pointer (some ⟨b, 0, none⟩), entV ⟨lo, [], 1073741824, false⟩] wx fun r w' => r = .returned (ptr (Mm.back ⟨lo, [], 1073741824, false⟩ ns).head?) ∧ Below wx.heap.size wx w') := fun wx hw => seek_any wx b hv hs hd ns (T.later hw) (by omega) _
  obtain ⟨pv, hpv⟩ : ∃ pv, ptr (Mm.back ⟨lo, [], 1073741824, false⟩ ns).head? = .pointer pv := by cases (Mm.back ⟨lo, [], 1073741824, false⟩ ns).head? <;> exact ⟨_, rfl⟩
  rw [hpv] at SK
  have LK := links_any
  have HPV := hide hpv
  clear T hpv
  refine (callsIn_wide (n := 5)).1 ?_
  refine callsIn_of_wp_marks Try.func19 rfl trivial ?_ rfl
  simp only [Try.ntmps19, List.size_toArray, List.length_cons, List.length_nil, Nat.reduceAdd, Nat.reduceSub, Array.replicate_succ, Array.replicate_zero, List.push_toArray, List.append_toArray, List.nil_append, List.cons_append]
  rw [wpIn_wide]
  have B2 : Below w.heap.size w ((w.alloc (.cells #[str lo, str hi] 46)).alloc (.cells #[.int .i64 s] 3)) := ((Below.refl _ _).alloc (Nat.le_refl _) _).alloc (by simp) _
  go_wp2_with (first
    | (go_at_call 39; refine still (MD.out _ B2) ?_; clear MD))
  obtain ⟨W0, hW0⟩ : ∃ W0, W0 = ((w.alloc (.cells #[str lo, str hi] 46)).alloc (.cells #[.int .i64 s] 3)).alloc (.cells #[.slice none 0 0] 23) := ⟨_, rfl⟩
  obtain ⟨x0, x1, x2, B0, z0⟩ := scan3 w lo hi s W0 hW0
  rw [← hW0]
  clear hW0 B2
  have SK0 := hide (SK.out W0 B0)
  clear SK
  go_wp2_with (first
    | (go_at_call 54; refine SK0.out.mono ?_; rintro e W1 ⟨rfl, b1⟩; clear SK0)
    | (go_at_call 53; refine (LK _ _).mono ?_; rintro e w2 ⟨rfl, rfl⟩; clear LK))
  obtain ⟨W, hW⟩ : ∃ W, W = W1.alloc (.cells #[.pointer pv] 61) := ⟨_, rfl⟩
  have b2 : Below W1.heap.size W1 W := by rw [hW]; exact (Below.refl _ _).alloc (Nat.le_refl _) _
  have xb : W.heap[W1.heap.size]? = some (.cells #[.pointer pv] 61 (0, 0)) := by rw [hW]; exact World.alloc_heap_new W1 _
  have zW : W1.heap.size + 1 ≤ W.heap.size := by rw [hW]; simp
  have z1 := b1.size
  rw [← hW]
  have bW : Below W0.heap.size W0 W := b1.trans (b2.mono b1.size)
  have BW := B0.trans (bW.mono B0.size)
  have TW := HT.out.later BW
  have hM := HM.out
  have L0 : ScanIn w W M lo hi s 0 W := ⟨by simp, ⟨_, keepB bW x2, World.ownsRow_nil _ _ _ _⟩, keepB bW x0, keepB bW x1, BW⟩
  have NL : ∀ x ∈ M, x.blk < w.heap.size := fun x hx => HT.out.chain.lt x (List.mem_cons_of_mem _ (by rw [← Mm.parts ⟨lo, [], 1073741824, false⟩ ns, ← hM]; exact List.mem_append_right _ hx))
  have NDM : (M.map (·.blk)).Nodup := by
    have := TW.apart
    rw [List.map_cons] at this
    have h2 := (List.nodup_cons.1 this).2
    rw [← Mm.parts ⟨lo, [], 1073741824, false⟩ ns, ← hM, List.map_append] at h2
    exact (List.nodup_append.1 h2).2.1
  have CHM : Chain W M := by
    have := TW.chain
    have h2 : Chain W ((hd :: Mm.front ⟨lo, [], 1073741824, false⟩ ns) ++ M) := by rw [List.cons_append, hM, Mm.parts]; exact this
    exact chain_behind _ h2
  have HH := links_hands (5 - 1) W1.heap.size W M (fun i => (∃ x ∈ M, x.blk = i) ∨ i = W1.heap.size) (by rw [HM.out, HPV.out]; exact xb) CHM (fun x hx => (TW.tall x (by rw [← Mm.parts ⟨lo, [], 1073741824, false⟩ ns, ← hM]; exact List.mem_append_right _ hx)).1) NDM (.inr rfl) (fun x hx => .inl ⟨x, hx, rfl⟩)
  have SL : Hid (∀ i, ((∃ x ∈ M, x.blk = i) ∨ i = W1.heap.size) → i < W.heap.size ∧ i ≠ w.heap.size ∧ i ≠ w.heap.size + 1 ∧ i ≠ w.heap.size + 1 + 1) := fun i hi => by
    rcases hi with ⟨x, hx, rfl⟩ | rfl
    · have := NL x hx; omega
    · omega
  have CH := hide CHM
  have hMn : M.length ≤ 100000 := by
    have : M.length ≤ ns.length := by rw [hM]; exact (List.dropWhile_sublist _).length_le
    omega
  clear hW x0 x1 x2 xb TW NL b1 b2 hM CHM NDM bW
  rw [← wpIn_wide (n := 5)]
  refine wpIn_handsK6 rfl (by decide) (gf := 75) (lb := #[.pointer (some ⟨W1.heap.size, 0, none⟩)]) rfl trivial (enters_of Try.func75 (by kernel_rfl) rfl) HH (KeepK.refl _ _) (fun h k => h.trans k) (fun A o hA => KeepK.later ((Below.refl _ _).alloc (Nat.le_refl _) _) (fun i hi => by have := (SL.out i hi).1; omega)) (fun A o => KeepK.put A _ o (fun i hi => by have := (SL.out i hi).1; omega)) (fun _ => rfl)
    (fun k A => ScanIn w W M lo hi s k A) (fun co _ A => co = .exit 0 ∧ ∃ k, (∃ x, M[k]? = some x ∧ Mm.inB x.ent.key lo hi = false) ∧ ScanIn w W M lo hi s k A)
    (fun k A B x hg => x.grown hg) (fun _ _ _ _ x hg => by obtain ⟨x0, j, x1, x2⟩ := x; exact ⟨x0, j, x1, x2.grown hg⟩) (fun k A i o o' x hi ha ho => x.put o' (by omega) ha ho) (fun _ _ _ _ _ _ x hi ha ho => by obtain ⟨x0, j, x1, x2⟩ := x; exact ⟨x0, j, x1, x2.put _ (by omega) ha ho⟩)
    (fun o => L0.grown (grown_any (((Below.refl W.heap.size W).alloc (Nat.le_refl _) _).alloc (by simp) _))) ?_ ?_ ?_ ?_ ?_
  rotate_left
  · intro L' k A K hK
    gi_wp2_with (fail)
    exact hK
  · rintro L' k A hk hI hKp ⟨rl, hl1⟩ hd1
    have en : M[k]? = some M[k] := List.getElem?_eq_getElem hk
    simp only [en, show ptr (some M[k]) = Value.pointer (some ⟨M[k].blk, 0, none⟩) from rfl]
    have chA : Chain A M := CH.out.same fun x hx => hKp.2 _ (.inl ⟨x, hx, rfl⟩)
    have ek : M = M.take k ++ M[k] :: M.drop (k + 1) := by rw [List.getElem_cons_drop, List.take_append_drop]
    have ch' : Chain A (M.take k ++ M[k] :: M.drop (k + 1)) := by rw [← ek]; exact chA
    have CC := ch'.cells
    obtain ⟨y0, y1, y2, y3, y4⟩ := CC
    have p0 := Joins.cell_of_block hI.span 0
    have p1 := Joins.cell_of_block hI.span 1
    have p2 := Joins.cell_of_block hI.seq 0
    have IN := hide (in_any A.drew M[k].ent.key lo hi)
    have HI := hide hI
    have KP := hide hKp
    have zA : W.heap.size ≤ A.heap.size := hKp.1
    cases hin : Mm.inB M[k].ent.key lo hi with
    | false =>
      rw [hin] at IN
      have FI : Hid (∀ B, Below A.drew.heap.size A.drew B → (B.heap[W.heap.size]? = A.heap[W.heap.size]? ∧ B.heap[W.heap.size + 1]? = A.heap[W.heap.size + 1]?) ∧ KeepK (fun i => (∃ x ∈ M, x.blk = i) ∨ i = W1.heap.size) A B ∧ ScanIn w W M lo hi s k B) := fun B hB => by
        refine ⟨⟨hB.block _ (Array.getElem?_eq_some_iff.1 hd1).1, hB.block _ (Array.getElem?_eq_some_iff.1 hl1).1⟩, ⟨hB.size, fun i hi => hB.block _ (by have := (SL.out i hi).1; show i < A.heap.size; omega)⟩, hI.grown ⟨hB.os, hB.tape, hB.output, hB.size, fun i hi _ => hB.block i hi⟩⟩
      have EX : Hid (∃ x, M[k]? = some x ∧ Mm.inB x.ent.key lo hi = false) := ⟨_, en, hin⟩
      generalize M[k] = x at *
      clear HH hI hKp chA ch' ek CH L0 hd1 hl1 SL HI KP en hin
      gi_wp2_with (fail)
      gi_region_with (first | (refine ⟨trivial, ?_⟩; refine (CallsIn.inRound L' (callsIn_wide.2 IN.out)).mono ?_; rintro e B ⟨rfl, hB⟩))
      all_goals
        have FF := FI.out B hB
        clear FI IN
        gi_wp2_with (fail)
        exact ⟨FF.1, FF.2.1, rfl, k, EX.out, FF.2.2⟩
    | true =>
      rw [hin] at IN
      have TS : Hid (Mm.told s ((M.take (k + 1)).map (·.ent)) = Mm.tell s (Mm.told s ((M.take k).map (·.ent))) M[k].ent) := by show _ = _; rw [List.take_succ_eq_append_getElem hk, List.map_append, List.map_singleton, Mm.told_snoc]
      have ALL : Hid (∀ y ∈ M.take (k + 1), Mm.inB y.ent.key lo hi = true) := fun y hy => by
        rw [List.take_succ_eq_append_getElem hk] at hy
        rcases List.mem_append.1 hy with hy | hy
        · exact hI.all y hy
        · obtain rfl := List.mem_singleton.1 hy; exact hin
      have hlo : (Mm.told s ((M.take k).map (·.ent))).length ≤ 100000 := by
        have := Mm.told_len s ((M.take k).map (·.ent))
        rw [List.length_map, List.length_take] at this
        omega
      have HD1 := hide hd1
      have HL1 := hide hl1
      generalize M[k] = x at *
      clear HH chA ch' ek
      gi_upto_region 6 with fail
      gi_cut [27] from 20 (fun v wx => v = .bool false ∧ Below A.drew.heap.size A.drew wx)
      case first =>
        gi_region_with (first | (refine ⟨trivial, ?_⟩; refine (CallsIn.inRound L' (callsIn_wide.2 IN.out)).mono ?_; rintro e B ⟨rfl, hB⟩))
        all_goals
          gi_wp2_with (fail)
          gi_meet
          case rel => exact ⟨rfl, hB⟩
      case rest =>
        obtain ⟨rfl, hB⟩ := hcut
        have bA : Below A.heap.size A wc := (Below.refl _ _).drew.trans hB
        obtain ⟨y0', y1', y2', y3'⟩ : wc.cell? ⟨x.blk, 0, none⟩ = some (str x.ent.key) ∧ wc.cell? ⟨x.blk, 1, none⟩ = some (str x.ent.value) ∧ wc.cell? ⟨x.blk, 2, none⟩ = some (.int .i64 x.ent.seq) ∧ wc.cell? ⟨x.blk, 3, none⟩ = some (.bool x.ent.del) := ⟨keepC bA y0, keepC bA y1, keepC bA y2, keepC bA y3⟩
        have q2 := keepC bA p2
        have SC := HI.out.grown (grown_any bA)
        have KC : KeepK (fun i => (∃ x ∈ M, x.blk = i) ∨ i = W1.heap.size) A wc := ⟨bA.size, fun i hi => bA.block _ (by have := (SL.out i hi).1; omega)⟩
        obtain ⟨v, o1, o2⟩ := SC.out
        have HSC := hide SC
        have HKC := hide KC
        have O1 := hide o1
        have O2 := hide o2
        have BA := hide bA
        have HSCX : ∀ {X Y : World}, ScanIn w W M lo hi s k X → Below X.heap.size X Y → ScanIn w W M lo hi s k Y := fun hx hb => hx.grown (grown_any hb)
        obtain ⟨out, hout⟩ : ∃ out, out = Mm.told s ((M.take k).map (·.ent)) := ⟨_, rfl⟩
        have HOUT := hide hout
        rw [← hout] at o2 O2 TS hlo
        clear hout
        clear y0 y1 y2 y3 y4 p0 p1 p2 hI hKp SC KC IN HI KP hB bA hd1 hl1
        obtain ⟨w6, hw6⟩ : ∃ w6, w6 = wc := ⟨_, rfl⟩
        subst hw6
        gi_upto_region 7 with fail
        gi_cut [9] from 28 (fun q wx => q = .bool (toldB out x.ent) ∧ Below w6.heap.size w6 wx)
        case first =>
          have c1 := o1.cell
          rcases List.eq_nil_or_concat out with ho | ⟨o', y, ho⟩
          · subst ho
            obtain ⟨a', c', rfl⟩ := row_shape o2
            clear o2 O2 O1 HSC HKC TS ALL BA HD1 HL1 o1
            refine round_quiet (by kernel_rfl) (by kernel_rfl) (by kernel_rfl) ?_
            repeat (quiet_step_in (fail))
            refine wpQuietIn_nil ?_
            intro _ hw'
            obtain ⟨nq, hw''⟩ := hw'
            subst hw''
            gi_wp2_with (fail)
            gi_meet
            case rel => exact ⟨rfl, below_drewN (Below.refl _ _) _⟩
          · rw [List.concat_eq_append] at ho
            subst ho
            have hol : (o' ++ [y]).length = o'.length + 1 := by simp
            have hcl := EntsAt.own o2
            rw [hol] at o2
            obtain ⟨g, cap, rfl⟩ := own_someE o2 (by omega)
            have d1 := last_cell hcl
            have HTB := hide (toldB_snoc o' y x.ent)
            have hlo : o'.length + 1 ≤ 1000000 := by rw [hol] at hlo; omega
            clear o2 O2 O1 HSC HKC TS ALL BA HD1 HL1 o1 hcl hol
            generalize o'.length = kk at *
            generalize y.key = YK at *
            have q1 : ((kk + 1 : Nat) : Int) > 0 := by omega
            have q2' : (kk : Int) < ((kk + 1 : Nat) : Int) := by omega
            have q3' : (0 : Int) ≤ (kk : Int) := by omega
            have q5' : (kk : Int) < (kk : Int) + 1 := by omega
            have wm : IntKind.i64.wrap (kk : Int) = (kk : Int) := by rw [IntKind.wrap_i64]; omega
            have q4' : ¬ ((kk : Int) + 1 ≤ (kk : Int)) := by omega
            have hK : (YK == x.ent.key) = true ∨ (YK == x.ent.key) = false := by cases (YK == x.ent.key) <;> simp
            rcases hK with hK | hK
            · skip
              refine round_quiet (by kernel_rfl) (by kernel_rfl) (by kernel_rfl) ?_
              repeat (quiet_step_in (fail))
              refine wpQuietIn_nil ?_
              intro _ hw'
              obtain ⟨nq, hw2⟩ := hw'
              subst hw2
              gi_wp2_with (fail)
              gi_meet
              case rel => exact ⟨by rw [HTB.out, hK], below_drewN (Below.refl _ _) _⟩
            · skip
              refine round_quiet (by kernel_rfl) (by kernel_rfl) (by kernel_rfl) ?_
              repeat (quiet_step_in (fail))
              refine wpQuietIn_nil ?_
              intro _ hw'
              obtain ⟨nq, hw2⟩ := hw'
              subst hw2
              gi_wp2_with (fail)
              gi_meet
              case rel => exact ⟨by rw [HTB.out, hK], below_drewN (Below.refl _ _) _⟩
        case rest =>
          obtain ⟨rfl, hB7⟩ := hcut
          have bA7 : Below A.heap.size A wc := BA.out.trans (hB7.mono BA.out.size)
          obtain ⟨z0, z1', z2, z3⟩ : wc.cell? ⟨x.blk, 0, none⟩ = some (str x.ent.key) ∧ wc.cell? ⟨x.blk, 1, none⟩ = some (str x.ent.value) ∧ wc.cell? ⟨x.blk, 2, none⟩ = some (.int .i64 x.ent.seq) ∧ wc.cell? ⟨x.blk, 3, none⟩ = some (.bool x.ent.del) := ⟨keepC hB7 y0', keepC hB7 y1', keepC hB7 y2', keepC hB7 y3'⟩
          have q7 := keepC hB7 q2
          have SC7 := hide (HSC.out.grown (grown_any hB7))
          have O17 : Hid (Boxed wc (w.heap.size + 1 + 1) 23 v) := O1.out.kept (row := none) (grown_any hB7) (by simp)
          have O27 := hide (own_same O2.out fun g hv => hB7.block g (own_lt O2.out g hv))
          have BA7 := hide bA7
          clear y0' y1' y2' y3' q2 o1 o2 HSC O1 O2 BA hB7 bA7 HKC
          obtain ⟨w7, hw7⟩ : ∃ w7, w7 = wc := ⟨_, rfl⟩
          subst hw7
          by_cases hyes : x.ent.seq ≤ s ∧ toldB out x.ent = false
          · obtain ⟨hy1, hy2⟩ := hyes
            have HNEW : Hid (Mm.told s ((M.take (k + 1)).map (·.ent)) = out ++ [x.ent]) := by show _ = _; rw [TS.out]; exact tell_yes hy1 hy2
            rw [hy2]
            clear hy2 TS
            gi_upto_region 8 with fail
            refine round_quiet (by kernel_rfl) (by kernel_rfl) (by kernel_rfl) ?_
            repeat (quiet_step_in (fail))
            refine wpQuietIn_nil ?_
            intro _ hw'
            obtain ⟨nq, hw2⟩ := hw'
            subst hw2
            obtain ⟨X, hX⟩ : ∃ X, X = w7.drewN nq := ⟨_, rfl⟩
            have bX : Below w7.heap.size w7 X := by rw [hX]; exact below_drewN (Below.refl _ _) _
            rw [← hX]
            clear hX
            have SCX := HSCX SC7.out bX
            have O1X : Boxed X (w.heap.size + 1 + 1) 23 v := O17.out.kept (row := none) (grown_any bX) (by simp)
            have O2X := own_same O27.out fun g hv => bX.block g (own_lt O27.out g hv)
            have BAX : Below A.heap.size A X := BA7.out.trans (bX.mono BA7.out.size)
            obtain ⟨u0, u1, u2, u3⟩ : X.cell? ⟨x.blk, 0, none⟩ = some (str x.ent.key) ∧ X.cell? ⟨x.blk, 1, none⟩ = some (str x.ent.value) ∧ X.cell? ⟨x.blk, 2, none⟩ = some (.int .i64 x.ent.seq) ∧ X.cell? ⟨x.blk, 3, none⟩ = some (.bool x.ent.del) := ⟨keepC bX z0, keepC bX z1', keepC bX z2, keepC bX z3⟩
            obtain ⟨NO, hNO⟩ : ∃ NO, NO = out.length := ⟨_, rfl⟩
            obtain ⟨va, vc, rfl⟩ := row_shape O2X
            have FIN := hide (fun (v' : Value) (w1 : World) (r1 : w1.ownsRow W.heap.size 38 4 v' (NO + 1) (ecs out ++ ec x.ent)) (g1 : (X.drew.alloc (entO x.ent)).grownBy w1 (Value.slice va out.length vc).ownBlock) => SCX.add (S := fun i => (∃ x ∈ M, x.blk = i) ∨ i = W1.heap.size) BAX SL.out zA (rl := []) rfl HD1.out HL1.out rfl rfl (by omega) HOUT.out HNEW.out ALL.out O1X O2X v' (entO x.ent) (by rw [← hNO]; exact r1) g1)
            have OA : Hid ((X.drew.alloc (entO x.ent)).ownsRow W.heap.size 38 4 (.slice va NO vc) NO (ecs out)) := by
              rw [hNO]
              exact O2X.drew.alloc _
            have N1 : Hid ((X.drew.alloc (entO x.ent)).heap[X.heap.size]? = some (entO x.ent)) := World.alloc_heap_new X.drew _
            have NC : Hid (∀ j u, (ec x.ent)[j]? = some u → (X.drew.alloc (entO x.ent)).cell? ((⟨X.heap.size, 0, none⟩ : Addr).add j) = some u) := fun j u hu => by
              rw [addr_add, Nat.zero_add]
              have hj : j < 4 := by
                rcases Nat.lt_or_ge j 4 with h | h
                · exact h
                · rw [List.getElem?_eq_none (by show 4 ≤ j; exact h)] at hu; cases hu
              rw [Joins.cell_of_block N1.out j]
              match j, hj, hu with
              | 0, _, hu => exact hu
              | 1, _, hu => exact hu
              | 2, _, hu => exact hu
              | 3, _, hu => exact hu
            have ON : Hid (∀ u ∈ ec x.ent, u.oneCell' = true) := fun u hu => ecs_one [x.ent] u (by simpa [ecs] using hu)
            have LB : Hid (W.heap.size ≤ (X.drew.alloc (entO x.ent)).heap.size) := by
              show W.heap.size ≤ (X.drew.alloc (entO x.ent)).heap.size
              have h1 := BAX.size
              rw [World.size_alloc]
              show W.heap.size ≤ X.heap.size + 1
              omega
            obtain ⟨i0, hi0, hz0, hz1, hz2⟩ := info_parts Try.infoE
            have cX := O1X.cell
            rw [← hNO] at cX FIN
            have cX2 : ∀ o, (X.alloc o).cell? ⟨w.heap.size + 1 + 1, 0, none⟩ = some (.slice va NO vc) := fun o => keepC ((Below.refl X.heap.size X).alloc (Nat.le_refl _) o) cX
            have hNOl : NO ≤ 100000 := by rw [hNO]; exact hlo
            clear SC7 O17 O27 BA7 SCX O1X O2X BAX z0 z1' z2 z3 q7 hNO SL HD1 HL1 HNEW ALL N1 bX HOUT hlo
            gi_upto_region 9 with fail
            refine wpIn_region_any (by kernel_rfl) ?_
            try (change wpAnyIn _ _ _ _ _ _ _ _ _ (World.drew _))
            refine wpAnyIn_ready (rs := [0, 1]) (by kernel_rfl) (by simp) ?_
            refine AllReadyIn.cons rfl (fun K hK => ?_) (AllReadyIn.cons rfl (fun K hK => ?_) AllReadyIn.nil)
            · go_simp
              refine hK _ _ ?_
              clear hK K
              refine wpAnyIn_ready (rs := [1]) (by kernel_rfl) (by simp) ?_
              refine AllReadyIn.cons rfl (fun K hK => ?_) AllReadyIn.nil
              go_simp
              refine hK _ _ ?_
              clear hK K
              refine wpAnyIn_ready (rs := [2]) (by kernel_rfl) (by simp) ?_
              refine AllReadyIn.cons rfl (fun K hK => ?_) AllReadyIn.nil
              go_simp
              refine hK _ _ ?_
              clear hK K
              refine wpAnyIn_ready (rs := [3]) (by kernel_rfl) (by simp) ?_
              refine AllReadyIn.cons rfl (fun K hK => ?_) AllReadyIn.nil
              go_simp
              refine hK _ _ ?_
              clear hK K
              refine wpAnyIn_ready (rs := [4]) (by kernel_rfl) (by simp) ?_
              refine AllReadyIn.cons rfl (fun K hK => ?_) AllReadyIn.nil
              go_simp
              refine hK _ _ ?_
              clear hK K
              refine wpAnyIn_ready (rs := [5]) (by kernel_rfl) (by simp) ?_
              refine AllReadyIn.cons rfl (fun K hK => ?_) AllReadyIn.nil
              go_simp
              refine hK _ _ ?_
              clear hK K
              refine wpAnyIn_ready (rs := [6]) (by kernel_rfl) (by simp) ?_
              refine AllReadyIn.cons rfl (fun K hK => ?_) AllReadyIn.nil
              refine stepIn_append_own _ rfl _ _ 23 rfl W.heap.size 38 i0 _ 4 48 Try.underlying23 hi0 hz0 hz1 hz2 rfl (by decide) _ NO (ecs out) rfl OA.out ⟨X.heap.size, 0, none⟩ 1 1 (ec x.ent) rfl rfl NC.out ON.out (by unfold maxLen; omega) (by omega) LB.out ?_
              intro v1 w1 r1 g1
              refine hK _ _ ?_
              clear hK K
              obtain ⟨bx1, FF⟩ := FIN.out v1 w1 r1 g1
              obtain ⟨a1, c1', rfl⟩ := row_shape r1
              have fx := bx1.frozen
              have cx := bx1.cell
              refine wpAnyIn_ready (rs := [7]) (by kernel_rfl) (by simp) ?_
              refine AllReadyIn.cons rfl (fun K hK => ?_) AllReadyIn.nil
              go_simp
              refine hK _ _ ?_
              clear hK K
              refine wpAnyIn_done (by kernel_rfl) ?_ _
              gi_wp2_with (fail)
              exact FF
            · go_simp
              refine hK _ _ ?_
              clear hK K
              refine wpAnyIn_ready (rs := [0, 2]) (by kernel_rfl) (by simp) ?_
              refine AllReadyIn.cons rfl (fun K hK => ?_) (AllReadyIn.cons rfl (fun K hK => ?_) AllReadyIn.nil)
              · go_simp
                refine hK _ _ ?_
                clear hK K
                refine wpAnyIn_ready (rs := [2]) (by kernel_rfl) (by simp) ?_
                refine AllReadyIn.cons rfl (fun K hK => ?_) AllReadyIn.nil
                go_simp
                refine hK _ _ ?_
                clear hK K
                refine wpAnyIn_ready (rs := [3]) (by kernel_rfl) (by simp) ?_
                refine AllReadyIn.cons rfl (fun K hK => ?_) AllReadyIn.nil
                go_simp
                refine hK _ _ ?_
                clear hK K
                refine wpAnyIn_ready (rs := [4]) (by kernel_rfl) (by simp) ?_
                refine AllReadyIn.cons rfl (fun K hK => ?_) AllReadyIn.nil
                go_simp
                refine hK _ _ ?_
                clear hK K
                refine wpAnyIn_ready (rs := [5]) (by kernel_rfl) (by simp) ?_
                refine AllReadyIn.cons rfl (fun K hK => ?_) AllReadyIn.nil
                go_simp
                refine hK _ _ ?_
                clear hK K
                refine wpAnyIn_ready (rs := [6]) (by kernel_rfl) (by simp) ?_
                refine AllReadyIn.cons rfl (fun K hK => ?_) AllReadyIn.nil
                refine stepIn_append_own _ rfl _ _ 23 rfl W.heap.size 38 i0 _ 4 48 Try.underlying23 hi0 hz0 hz1 hz2 rfl (by decide) _ NO (ecs out) rfl OA.out ⟨X.heap.size, 0, none⟩ 1 1 (ec x.ent) rfl rfl NC.out ON.out (by unfold maxLen; omega) (by omega) LB.out ?_
                intro v1 w1 r1 g1
                refine hK _ _ ?_
                clear hK K
                obtain ⟨bx1, FF⟩ := FIN.out v1 w1 r1 g1
                obtain ⟨a1, c1', rfl⟩ := row_shape r1
                have fx := bx1.frozen
                have cx := bx1.cell
                refine wpAnyIn_ready (rs := [7]) (by kernel_rfl) (by simp) ?_
                refine AllReadyIn.cons rfl (fun K hK => ?_) AllReadyIn.nil
                go_simp
                refine hK _ _ ?_
                clear hK K
                refine wpAnyIn_done (by kernel_rfl) ?_ _
                gi_wp2_with (fail)
                exact FF
              · go_simp
                refine hK _ _ ?_
                clear hK K
                refine wpAnyIn_ready (rs := [0, 3]) (by kernel_rfl) (by simp) ?_
                refine AllReadyIn.cons rfl (fun K hK => ?_) (AllReadyIn.cons rfl (fun K hK => ?_) AllReadyIn.nil)
                · go_simp
                  refine hK _ _ ?_
                  clear hK K
                  refine wpAnyIn_ready (rs := [3]) (by kernel_rfl) (by simp) ?_
                  refine AllReadyIn.cons rfl (fun K hK => ?_) AllReadyIn.nil
                  go_simp
                  refine hK _ _ ?_
                  clear hK K
                  refine wpAnyIn_ready (rs := [4]) (by kernel_rfl) (by simp) ?_
                  refine AllReadyIn.cons rfl (fun K hK => ?_) AllReadyIn.nil
                  go_simp
                  refine hK _ _ ?_
                  clear hK K
                  refine wpAnyIn_ready (rs := [5]) (by kernel_rfl) (by simp) ?_
                  refine AllReadyIn.cons rfl (fun K hK => ?_) AllReadyIn.nil
                  go_simp
                  refine hK _ _ ?_
                  clear hK K
                  refine wpAnyIn_ready (rs := [6]) (by kernel_rfl) (by simp) ?_
                  refine AllReadyIn.cons rfl (fun K hK => ?_) AllReadyIn.nil
                  refine stepIn_append_own _ rfl _ _ 23 rfl W.heap.size 38 i0 _ 4 48 Try.underlying23 hi0 hz0 hz1 hz2 rfl (by decide) _ NO (ecs out) rfl OA.out ⟨X.heap.size, 0, none⟩ 1 1 (ec x.ent) rfl rfl NC.out ON.out (by unfold maxLen; omega) (by omega) LB.out ?_
                  intro v1 w1 r1 g1
                  refine hK _ _ ?_
                  clear hK K
                  obtain ⟨bx1, FF⟩ := FIN.out v1 w1 r1 g1
                  obtain ⟨a1, c1', rfl⟩ := row_shape r1
                  have fx := bx1.frozen
                  have cx := bx1.cell
                  refine wpAnyIn_ready (rs := [7]) (by kernel_rfl) (by simp) ?_
                  refine AllReadyIn.cons rfl (fun K hK => ?_) AllReadyIn.nil
                  go_simp
                  refine hK _ _ ?_
                  clear hK K
                  refine wpAnyIn_done (by kernel_rfl) ?_ _
                  gi_wp2_with (fail)
                  exact FF
                · go_simp
                  refine hK _ _ ?_
                  clear hK K
                  refine wpAnyIn_ready (rs := [0, 4]) (by kernel_rfl) (by simp) ?_
                  refine AllReadyIn.cons rfl (fun K hK => ?_) (AllReadyIn.cons rfl (fun K hK => ?_) AllReadyIn.nil)
                  · go_simp
                    refine hK _ _ ?_
                    clear hK K
                    refine wpAnyIn_ready (rs := [4]) (by kernel_rfl) (by simp) ?_
                    refine AllReadyIn.cons rfl (fun K hK => ?_) AllReadyIn.nil
                    go_simp
                    refine hK _ _ ?_
                    clear hK K
                    refine wpAnyIn_ready (rs := [5]) (by kernel_rfl) (by simp) ?_
                    refine AllReadyIn.cons rfl (fun K hK => ?_) AllReadyIn.nil
                    go_simp
                    refine hK _ _ ?_
                    clear hK K
                    refine wpAnyIn_ready (rs := [6]) (by kernel_rfl) (by simp) ?_
                    refine AllReadyIn.cons rfl (fun K hK => ?_) AllReadyIn.nil
                    refine stepIn_append_own _ rfl _ _ 23 rfl W.heap.size 38 i0 _ 4 48 Try.underlying23 hi0 hz0 hz1 hz2 rfl (by decide) _ NO (ecs out) rfl OA.out ⟨X.heap.size, 0, none⟩ 1 1 (ec x.ent) rfl rfl NC.out ON.out (by unfold maxLen; omega) (by omega) LB.out ?_
                    intro v1 w1 r1 g1
                    refine hK _ _ ?_
                    clear hK K
                    obtain ⟨bx1, FF⟩ := FIN.out v1 w1 r1 g1
                    obtain ⟨a1, c1', rfl⟩ := row_shape r1
                    have fx := bx1.frozen
                    have cx := bx1.cell
                    refine wpAnyIn_ready (rs := [7]) (by kernel_rfl) (by simp) ?_
                    refine AllReadyIn.cons rfl (fun K hK => ?_) AllReadyIn.nil
                    go_simp
                    refine hK _ _ ?_
                    clear hK K
                    refine wpAnyIn_done (by kernel_rfl) ?_ _
                    gi_wp2_with (fail)
                    exact FF
                  · go_simp
                    refine hK _ _ ?_
                    clear hK K
                    refine wpAnyIn_ready (rs := [0, 5]) (by kernel_rfl) (by simp) ?_
                    refine AllReadyIn.cons rfl (fun K hK => ?_) (AllReadyIn.cons rfl (fun K hK => ?_) AllReadyIn.nil)
                    · go_simp
                      refine hK _ _ ?_
                      clear hK K
                      refine wpAnyIn_ready (rs := [5]) (by kernel_rfl) (by simp) ?_
                      refine AllReadyIn.cons rfl (fun K hK => ?_) AllReadyIn.nil
                      go_simp
                      refine hK _ _ ?_
                      clear hK K
                      refine wpAnyIn_ready (rs := [6]) (by kernel_rfl) (by simp) ?_
                      refine AllReadyIn.cons rfl (fun K hK => ?_) AllReadyIn.nil
                      refine stepIn_append_own _ rfl _ _ 23 rfl W.heap.size 38 i0 _ 4 48 Try.underlying23 hi0 hz0 hz1 hz2 rfl (by decide) _ NO (ecs out) rfl OA.out ⟨X.heap.size, 0, none⟩ 1 1 (ec x.ent) rfl rfl NC.out ON.out (by unfold maxLen; omega) (by omega) LB.out ?_
                      intro v1 w1 r1 g1
                      refine hK _ _ ?_
                      clear hK K
                      obtain ⟨bx1, FF⟩ := FIN.out v1 w1 r1 g1
                      obtain ⟨a1, c1', rfl⟩ := row_shape r1
                      have fx := bx1.frozen
                      have cx := bx1.cell
                      refine wpAnyIn_ready (rs := [7]) (by kernel_rfl) (by simp) ?_
                      refine AllReadyIn.cons rfl (fun K hK => ?_) AllReadyIn.nil
                      go_simp
                      refine hK _ _ ?_
                      clear hK K
                      refine wpAnyIn_done (by kernel_rfl) ?_ _
                      gi_wp2_with (fail)
                      exact FF
                    · go_simp
                      refine hK _ _ ?_
                      clear hK K
                      refine wpAnyIn_ready (rs := [0]) (by kernel_rfl) (by simp) ?_
                      refine AllReadyIn.cons rfl (fun K hK => ?_) AllReadyIn.nil
                      go_simp
                      refine hK _ _ ?_
                      clear hK K
                      refine wpAnyIn_ready (rs := [6]) (by kernel_rfl) (by simp) ?_
                      refine AllReadyIn.cons rfl (fun K hK => ?_) AllReadyIn.nil
                      refine stepIn_append_own _ rfl _ _ 23 rfl W.heap.size 38 i0 _ 4 48 Try.underlying23 hi0 hz0 hz1 hz2 rfl (by decide) _ NO (ecs out) rfl OA.out ⟨X.heap.size, 0, none⟩ 1 1 (ec x.ent) rfl rfl NC.out ON.out (by unfold maxLen; omega) (by omega) LB.out ?_
                      intro v1 w1 r1 g1
                      refine hK _ _ ?_
                      clear hK K
                      obtain ⟨bx1, FF⟩ := FIN.out v1 w1 r1 g1
                      obtain ⟨a1, c1', rfl⟩ := row_shape r1
                      have fx := bx1.frozen
                      have cx := bx1.cell
                      refine wpAnyIn_ready (rs := [7]) (by kernel_rfl) (by simp) ?_
                      refine AllReadyIn.cons rfl (fun K hK => ?_) AllReadyIn.nil
                      go_simp
                      refine hK _ _ ?_
                      clear hK K
                      refine wpAnyIn_done (by kernel_rfl) ?_ _
                      gi_wp2_with (fail)
                      exact FF

          · have HNEW : Hid (Mm.told s ((M.take (k + 1)).map (·.ent)) = out) := by
              show _ = _
              rw [TS.out]
              refine tell_no ?_
              by_cases h1 : x.ent.seq ≤ s
              · right
                cases h2 : toldB out x.ent
                · exact absurd ⟨h1, h2⟩ hyes
                · rfl
              · exact .inl h1
            have FI : Hid (∀ B, Below w7.heap.size w7 B → (B.heap[W.heap.size]? = A.heap[W.heap.size]? ∧ B.heap[W.heap.size + 1]? = A.heap[W.heap.size + 1]?) ∧ KeepK (fun i => (∃ x ∈ M, x.blk = i) ∨ i = W1.heap.size) A B ∧ ScanIn w W M lo hi s (k + 1) B) := fun B hB => by
              have hB' := BA7.out.trans (hB.mono BA7.out.size)
              have sc := HSCX SC7.out hB
              refine ⟨⟨hB'.block _ (Array.getElem?_eq_some_iff.1 HD1.out).1, hB'.block _ (Array.getElem?_eq_some_iff.1 HL1.out).1⟩, ⟨hB'.size, fun i hi => hB'.block _ (by have := (SL.out i hi).1; omega)⟩, ⟨ALL.out, ?_, sc.span, sc.seq, sc.below⟩⟩
              obtain ⟨v', p1, p2⟩ := sc.out
              rw [← HOUT.out] at p2
              rw [HNEW.out]
              exact ⟨v', p1, p2⟩
            clear SC7 O17 O27 BA7 SL HD1 HL1 HNEW ALL TS HOUT
            by_cases h1 : x.ent.seq ≤ s
            · have h2 : toldB out x.ent = true := by
                cases h2 : toldB out x.ent
                · exact absurd ⟨h1, h2⟩ hyes
                · rfl
              rw [h2]
              clear hyes h2
              gi_upto_region 8 with fail
              refine round_quiet (by kernel_rfl) (by kernel_rfl) (by kernel_rfl) ?_
              repeat (quiet_step_in (fail))
              refine wpQuietIn_nil ?_
              intro _ hw'
              obtain ⟨nq, hw2⟩ := hw'
              subst hw2
              have FF := FI.out _ (below_drewN (Below.refl _ _) nq)
              gi_wp2_with (fail)
              exact FF
            · clear hyes
              generalize toldB out x.ent = tb
              gi_upto_region 8 with fail
              refine round_quiet (by kernel_rfl) (by kernel_rfl) (by kernel_rfl) ?_
              repeat (quiet_step_in (fail))
              refine wpQuietIn_nil ?_
              intro _ hw'
              obtain ⟨nq, hw2⟩ := hw'
              subst hw2
              have FF := FI.out _ (below_drewN (Below.refl _ _) nq)
              gi_wp2_with (fail)
              exact FF
  · rintro B hI hd
    have eE : (M.take M.length).map (·.ent) = E := by
      rw [HEE.out]
      have ha := hI.all
      rw [List.take_length] at ha ⊢
      exact (take_all _ _ (fun x hx => by obtain ⟨y, hy, rfl⟩ := List.mem_map.1 hx; exact ha y hy)).symm
    clear HH
    have HO : Hid (∃ va vc, Boxed B (w.heap.size + 1 + 1) 23 (.slice va (Mm.told s E).length vc) ∧ (B.putObj W.heap.size (.deferred none)).ownsRow w.heap.size 38 4 (.slice va (Mm.told s E).length vc) (Mm.told s E).length (ecs (Mm.told s E))) := by
      obtain ⟨v, o1, o2⟩ := hI.out
      rw [show (M.take M.length).map (·.ent) = E from eE] at o2
      obtain ⟨va, vc, rfl⟩ := row_shape o2
      refine ⟨va, vc, o1, ?_⟩
      have := ownsRow_putObj o2 (.deferred none) hd rfl
      refine ⟨this.1, ?_⟩
      rcases this.2 with h | ⟨g, cap, cur, e, h1, h2⟩
      · exact .inl h
      · exact .inr ⟨g, cap, cur, e, by have := BW.size; omega, h2⟩
    obtain ⟨va, vc, o1, o2⟩ := HO.out
    have HO2 := hide o2
    have c1 := o1.cell
    have BB := hI.below
    have B9 : Below w.heap.size w (B.putObj W.heap.size (.deferred none)) := BB.trans ⟨rfl, rfl, rfl, by simp [World.putObj], fun i hi => World.putObj_heap_other (by have := BW.size; omega)⟩
    clear hI o1 o2 SL CH L0 HO
    gi_wp2_with (fail)
    go_wp2_with (fail)
    exact leaves_one hd (v := .slice va (Mm.told s E).length vc) (by simp [results, Try.results19, go_sem]) ⟨_, rfl, HO2.out, B9⟩
  · rintro co k' B hk ⟨rfl, k, ⟨x, hx, hxo⟩, hI⟩ hd
    have eE : (M.take k).map (·.ent) = E := by
      rw [HEE.out]
      have ha := hI.all
      obtain ⟨hk', hx'⟩ := List.getElem?_eq_some_iff.1 hx
      have e1 : M = M.take k ++ x :: M.drop (k + 1) := by rw [← hx', List.getElem_cons_drop, List.take_append_drop]
      rw [show (M.map (·.ent)) = (M.take k).map (·.ent) ++ x.ent :: (M.drop (k + 1)).map (·.ent) by rw [← List.map_cons, ← List.map_append, ← e1]]
      exact (take_cut (fun (z : Mm.Ent) => Mm.inB z.key lo hi) x.ent _ _ (fun x hx => by obtain ⟨y, hy, rfl⟩ := List.mem_map.1 hx; exact ha y hy) hxo).symm
    clear HH
    have HO : Hid (∃ va vc, Boxed B (w.heap.size + 1 + 1) 23 (.slice va (Mm.told s E).length vc) ∧ (B.putObj W.heap.size (.deferred none)).ownsRow w.heap.size 38 4 (.slice va (Mm.told s E).length vc) (Mm.told s E).length (ecs (Mm.told s E))) := by
      obtain ⟨v, o1, o2⟩ := hI.out
      rw [show (M.take k).map (·.ent) = E from eE] at o2
      obtain ⟨va, vc, rfl⟩ := row_shape o2
      refine ⟨va, vc, o1, ?_⟩
      have := ownsRow_putObj o2 (.deferred none) hd rfl
      refine ⟨this.1, ?_⟩
      rcases this.2 with h | ⟨g, cap, cur, e, h1, h2⟩
      · exact .inl h
      · exact .inr ⟨g, cap, cur, e, by have := BW.size; omega, h2⟩
    obtain ⟨va, vc, o1, o2⟩ := HO.out
    have HO2 := hide o2
    have c1 := o1.cell
    have BB := hI.below
    have B9 : Below w.heap.size w (B.putObj W.heap.size (.deferred none)) := BB.trans ⟨rfl, rfl, rfl, by simp [World.putObj], fun i hi => World.putObj_heap_other (by have := BW.size; omega)⟩
    clear hI o1 o2 SL CH L0 HO
    gi_wp2_with (fail)
    go_wp2_with (fail)
    exact leaves_one hd (v := .slice va (Mm.told s E).length vc) (by simp [results, Try.results19, go_sem]) ⟨_, rfl, HO2.out, B9⟩
end Go.Proofs.Ytbdgdigpnfpnhaa.Q.P
