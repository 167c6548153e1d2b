/-
  Proved: for all bytes b and every number stop the call FrameScan(b, stop) returns true and leaves its arguments as they were: all records of some bytes are told, and where they end, and why, at once and one by one, up to some, and again; what is handed in stays, and what is told is new memory.
  Conditions: none beyond the form's own reach.
-/
import Derived.Test.YtmhehohiodggcaaKFrame
import Derived.Test.YtmhehohiodggcaaFLives
import Derived.Test.YtmhehohiodggcaaKApart
import Derived.Test.YtmhehohiodggcaaFEach
import Derived.Test.YtmhehohiodggcaaRScan
import Derived.Test.YtmhehohiodggcaaKRecsAt
import Derived.Test.YtmhehohiodggcaaCPick
namespace Go.Proofs.Ytmhehohiodggcaa.frameScan
open Go.ChangeShapes Go.WideShapes Go.ChangeAt Go.RowKit Go.Shelf
open Go.Proofs.Ytmhehohiodggcaa

theorem rdR_le (l : List UInt8) : (rdR l).length ≤ l.length := by
  unfold rdR
  split
  · unfold opnL
    split
    · rw [List.length_take, List.length_take, List.length_drop]; omega
    · simp
  · simp
/-- No more records than bytes, and none longer. -/
theorem scn_few : ∀ (n : Nat) (l : List UInt8), l.length ≤ n → (scn l).1.length ≤ l.length ∧ ∀ r ∈ (scn l).1, r.length ≤ l.length := by
  intro n
  induction n with
  | zero =>
    intro l h
    have : l = [] := List.eq_nil_of_length_eq_zero (by omega)
    subst this
    exact ⟨Nat.le_refl _, fun r hr => by rw [scn_nil] at hr; cases hr⟩
  | succ n ih =>
    intro l h
    by_cases he : rdE l = 0
    · have hp := rdN_pos he
      obtain ⟨i1, i2⟩ := ih (l.drop (rdN l)) (by rw [List.length_drop]; omega)
      rw [List.length_drop] at i1 i2
      rw [scn_good l he]
      refine ⟨by rw [List.length_cons]; omega, fun r hr => ?_⟩
      rcases List.mem_cons.mp hr with rfl | hr
      · exact rdR_le l
      · have := i2 r hr; omega
    · by_cases h0 : l = []
      · subst h0
        exact ⟨Nat.le_refl _, fun r hr => by rw [scn_nil] at hr; cases hr⟩
      · rw [scn_bad l h0 he]
        exact ⟨Nat.zero_le _, fun r hr => by cases hr⟩

theorem equalIn_func_nil (w : World) (d k : Nat) (cap : Array Value) : (Op.equalIn (d + 1) 41 (.func (.func k) #[] cap) .nilFunc).run Try.prog w = .ok false w := by
  simp [Op.equalIn, run_underlying Try.underlying41]
theorem eql_func_nil (w : World) (k : Nat) (cap : Array Value) : (binOp .eql 41 (.func (.func k) #[] cap) .nilFunc).run Try.prog w = .ok (.bool false) w := by
  simp only [binOp]
  simp [Op.equal, Op.maxDepth, equalIn_func_nil w 9999 k cap]

theorem walk_off (w : World) (a0 : Option Addr) (c0 n : Nat) (stop' : Int) (h : 20000 < n) :
    Calls Try.prog 5 #[.slice a0 n c0, .int .i64 stop'] w fun e w' => e = .returned (.bool true) ∧ Below w.heap.size w w' := by
  have i1 : (n : Int) > 20000 := by omega
  refine (callsIn_wide (n := 5)).1 ?_
  refine callsIn_of_wp_marks Try.func5 rfl trivial ?_ rfl
  simp only [Try.ntmps5, List.size_toArray, List.length_cons, List.length_nil, Nat.reduceAdd, Nat.reduceSub, Array.replicate_succ, Array.replicate_zero, List.push_toArray, List.append_toArray, List.nil_append, List.cons_append]
  rw [wpIn_wide]
  have X0 := Boxed.new w 4 (.bool false)
  go_wp2_with (go_at_call 13; refine (lives_any _).mono ?_; rintro e w1 ⟨rfl, B1⟩; have X1 := boxed_later X0 B1; have c1 := X1.cell; have f1 := X1.frozen)
  have c2 := (X1.set (.bool true)).cell
  have B2 : Below w.heap.size w w1 := ((Below.refl _ _).alloc (Nat.le_refl _) _).trans (B1.mono (by simp))
  exact ⟨.bool true, (by simp [results, Try.results5, go_sem, c2]), rfl, B2.setCell (p := ⟨w.heap.size, 0, none⟩) (Nat.le_refl _) _⟩

/-- The lists of a list that the call owns share no memory. -/
theorem apart_recs (w : World) (base g n cap : Nat) (rs : List (List UInt8)) (vs : List Value) (hR : Recs base w (.slice (some ⟨g, 0, none⟩) n cap) rs vs) (hnn : n = rs.length) (hn : rs.length ≤ 1000000) (hz : ∀ r ∈ rs, r.length ≤ 140737488355328) (hb : base ≤ w.heap.size) :
    Calls Try.prog 19 #[.slice (some ⟨g, 0, none⟩) n cap] w fun e w' => e = .returned (.bool true) ∧ Below base w w' ∧ KeepsOthers w w' := by
  have hlen : (vs.zip rs).length = n := by rw [List.length_zip, hR.len]; omega
  have hrow := hR.row
  rw [← hnn] at hrow
  have hv : ∀ k, k < (vs.zip rs).length → k < vs.length ∧ k < rs.length := fun k hk => by rw [hlen] at hk; rw [hR.len]; omega
  have := apart_vals_keeps w base g cap (vs.zip rs) (by omega) (fun k hk => by
      rw [List.getElem_zip, hrow.cellAt k (by rw [hlen] at hk; omega), List.getElem?_eq_getElem (hv k hk).1]) (fun k hk => by
      rw [List.getElem_zip]
      exact hR.own k (hv k hk).1 (hv k hk).2) (fun k hk => by
      rw [List.getElem_zip]
      exact hz _ (List.getElem_mem (hv k hk).2)) (fun i k hi hk hik => by
      rw [List.getElem_zip, List.getElem_zip]
      exact hR.two i k (hv i hi).1 (hv k hk).1 hik) (fun k hk => by
      rw [List.getElem_zip]
      rcases own_ne (hR.own k (hv k hk).1 (hv k hk).2) hR.row (by decide) with e | e
      · rw [e]; simp
      · exact e) hb
  rw [hlen] at this
  exact this

/-- What is handed over, and its place. -/
def gives (RS : List (List UInt8)) (k : Nat) (u : Value) (A : World) : Prop := ∃ ad c, u = .slice ad (RS[k]?.getD []).length c ∧ BytesIn A u (RS[k]?.getD [])
def givenTo (PL : List Nat) (k : Nat) (u : Value) : Array Value := #[.int .i64 ((PL[k]?.getD 0 : Nat) : Int), u]
theorem gives_tells (l : List UInt8) : tells l = gives (scn l).1 := by funext k u A; unfold tells gives; rw [List.getD_eq_getElem?_getD]
theorem givenTo_told (l : List UInt8) : told l = givenTo (plc 0 l) := by funext k u; unfold told givenTo; rw [List.getD_eq_getElem?_getD]

theorem bytes_kept {A B : World} {row : Option Nat} {u : Value} {r : List UInt8} (h : BytesIn A u r) (hg : A.grownBy B row) (hr : ∀ q, row = some q → ∃ o : Obj, A.heap[q]? = some o ∧ o.isCells = false) : BytesIn B u r := by
  obtain ⟨⟨a, cap, hv, hf⟩, hlen⟩ := h
  exact ⟨⟨a, cap, hv, fun h0 => by obtain ⟨b, off, ha, hat⟩ := hf h0; exact ⟨b, off, ha, fun j hj => cell_kept (hat j hj) hg hr⟩⟩, hlen⟩
theorem gives_own (RS : List (List UInt8)) (b : Nat) : OwnFrom b (fun (x : Nat × Value) A => gives RS x.1 x.2 A) := by
  rintro x A B row ⟨ad, c, e, h⟩ hg hr
  exact ⟨ad, c, e, bytes_kept h hg (fun q hq => (hr q hq).2)⟩
theorem boxed_grown {A B : World} {row : Option Nat} {b : Nat} {t : TypeId} {v : Value} (h : Boxed A b t v) (hg : A.grownBy B row) (hr : ∀ q, row = some q → ∃ o : Obj, A.heap[q]? = some o ∧ o.isCells = false) : Boxed B b t v := by
  refine h.kept hg (fun e => ?_)
  obtain ⟨o, ho, hc⟩ := hr b e.symm
  rw [show A.heap[b]? = _ from h] at ho
  cases ho
  cases hc
theorem keeps_of_below {A B : World} (b : Nat) (h : Below A.heap.size A B) : KeepsFrom b A B := ⟨h.size, fun k _ _ hk _ => (h.block k (Array.getElem?_eq_some_iff.1 hk).1).trans hk⟩

/-- Blocks that hold no calls that were put off. -/
def Marks (Ds : List Nat) (A : World) : Prop := ∀ D ∈ Ds, A.heap[D]? = some (.deferred (some []))
theorem Marks.grown {Ds : List Nat} {A B : World} {row : Option Nat} {b : Nat} (h : Marks Ds A) (hD : ∀ D ∈ Ds, D < b) (hg : A.grownBy B row) (hr : ∀ q, row = some q → b ≤ q) : Marks Ds B := fun D hd =>
  (hg.block D (Array.getElem?_eq_some_iff.1 (h D hd)).1 (fun e => by have := hr D e.symm; have := hD D hd; omega)).trans (h D hd)
theorem Marks.later {Ds : List Nat} {A B : World} (h : Marks Ds A) (hb : Below A.heap.size A B) : Marks Ds B := fun D hd => (hb.block D (Array.getElem?_eq_some_iff.1 (h D hd)).1).trans (h D hd)
theorem Marks.over {Ds : List Nat} {A B : World} {row : Option Nat} {o : Obj} {lo : Nat} (h : Marks Ds A) (hD : ∀ D ∈ Ds, lo < D) (hg : (A.alloc o).grownBy B row) (hr : ∀ q, row = some q → q < lo) : Marks Ds B := fun D hd => by
  have hq := (h.later ((Below.refl _ _).alloc (Nat.le_refl _) o)) D hd
  exact (hg.block D (Array.getElem?_eq_some_iff.1 hq).1 (fun e => by have := hr D e.symm; have := hD D hd; omega)).trans hq
/-- A function that went over an iterator twice returns: the two blocks are shut, and what lay below lies as it lay. -/
theorem leaves_two {w A : World} {D1 D2 n : Nat} {fn : Func} {tmps : Array Value} {v : Value} {R : Ending → World → Prop} (h1 : A.heap[D1]? = some (.deferred (some []))) (h2 : A.heap[D2]? = some (.deferred (some []))) (hne : D1 ≠ D2)
    (hr : ∀ B : World, (∀ (q : Nat) (o : Obj), A.heap[q]? = some o → o.isCells = true → B.heap[q]? = some o) → (results fn tmps).run Try.prog B = .ok v B) (hb : Below w.heap.size w A) (l1 : w.heap.size ≤ D1) (l2 : w.heap.size ≤ D2) (hR : ∀ B : World, Below w.heap.size w B → R (.returned v) B) :
    bodyPostM Fence.wide n Try.prog fn R .ret { tmps := tmps, defers := [{ target := .collected D2, args := #[] }, { target := .collected D1, args := #[] }] } A := by
  have h1' : (A.putObj D2 (.deferred none)).heap[D1]? = some (.deferred (some [])) := (World.putObj_heap_other hne).trans h1
  refine ⟨by simp, .inl ⟨_, _, rfl, run_takeDeferred h2, ?_⟩⟩
  refine ⟨by simp, .inl ⟨_, _, rfl, run_takeDeferred h1', ?_⟩⟩
  have b2 : Below w.heap.size w (A.putObj D2 (.deferred none)) := hb.grown (grownBy_putObj' A D2 _) hb.size (fun q hq => by cases hq; exact l2)
  have b1 : Below w.heap.size w ((A.putObj D2 (.deferred none)).putObj D1 (.deferred none)) := b2.grown (grownBy_putObj' _ D1 _) b2.size (fun q hq => by cases hq; exact l1)
  refine ⟨v, hr _ (fun q o hq hc => ?_), hR _ b1⟩
  have n1 : q ≠ D1 := by intro e; subst e; rw [h1] at hq; cases hq; cases hc
  have n2 : q ≠ D2 := by intro e; subst e; rw [h2] at hq; cases hq; cases hc
  rw [World.putObj_heap_other n1, World.putObj_heap_other n2]
  exact hq

/-- Between two rounds: the count stands in its box. -/
def Cnt (w9 : World) (Bi N mst : Nat) (Ds : List Nat) (k : Nat) (A : World) : Prop := Boxed A Bi 3 (.int .i64 (k : Int)) ∧ Below w9.heap.size w9 A ∧ (N = 0 ∨ k < mst) ∧ Marks Ds A
/-- Behind the break. -/
def Fin (w9 : World) (Bi mst : Nat) (Ds : List Nat) (k : Nat) (A : World) : Prop := (k = mst ∧ 0 < k) ∧ Boxed A Bi 3 (.int .i64 (mst : Int)) ∧ Below w9.heap.size w9 A ∧ Marks Ds A
theorem cnt_own {w9 : World} {Bi N mst b : Nat} {Ds : List Nat} (hb : w9.heap.size ≤ b) (hD : ∀ D ∈ Ds, D < b) : OwnFrom b (Cnt w9 Bi N mst Ds) := by
  rintro k A B row ⟨h1, h2, h3, h4⟩ hg hr
  exact ⟨boxed_grown h1 hg (fun q hq => (hr q hq).2), h2.grown hg h2.size (fun q hq => by have := (hr q hq).1; omega), h3, h4.grown hD hg (fun q hq => (hr q hq).1)⟩
theorem fin_own {w9 : World} {Bi mst b : Nat} {Ds : List Nat} (hb : w9.heap.size ≤ b) (hD : ∀ D ∈ Ds, D < b) : OwnFrom b (Fin w9 Bi mst Ds) := by
  rintro k A B row ⟨h1, h2, h3, h4⟩ hg hr
  exact ⟨h1, boxed_grown h2 hg (fun q hq => (hr q hq).2), h3.grown hg h3.size (fun q hq => by have := (hr q hq).1; omega), h4.grown hD hg (fun q hq => (hr q hq).1)⟩

attribute [local go_sem] Oper.semAt_some

set_option maxRecDepth 100000 in
set_option maxHeartbeats 8000000 in
theorem walk_on (w : World) (a0 : Option Addr) (c0 : Nat) (l : List UInt8) (stop' : Int) (hb : BytesIn w (.slice a0 l.length c0) l) (n0 : a0 = none → c0 = 0) (hc : l.length ≤ c0) (hl : l.length ≤ 20000) (h1 : -9223372036854775808 ≤ stop') (h2 : stop' ≤ 9223372036854775807) :
    Calls Try.prog 5 #[.slice a0 l.length c0, .int .i64 stop'] w fun e w' => e = .returned (.bool true) ∧ Below w.heap.size w w' := by
  obtain ⟨F, hF⟩ : ∃ F, F = lentB l := ⟨_, rfl⟩
  have lF : F.length = l.length + 3 := by rw [hF, lentB_length]
  have tF : F.take l.length = l := by rw [hF]; unfold lentB; exact List.take_left' rfl
  have ZF : Hid (F.length ≤ 140737488355328) := by show _ ≤ _; omega
  obtain ⟨M, hM⟩ : ∃ M, M = (scn l).2.1 := ⟨_, rfl⟩
  obtain ⟨E, hE⟩ : ∃ E, E = (scn l).2.2 := ⟨_, rfl⟩
  obtain ⟨RS, hRS⟩ : ∃ RS, RS = (scn l).1 := ⟨_, rfl⟩
  obtain ⟨PL, hPL⟩ : ∃ PL, PL = plc 0 l := ⟨_, rfl⟩
  have lPL : PL.length = RS.length := by rw [hPL, hRS]; exact plc_length _ 0 l (Nat.le_refl _)
  have LN : Hid (∀ wx, Below w.heap.size w wx → Calls Try.prog 14 #[.slice a0 l.length c0] wx fun e w' => ∃ g cap, e = .returned (.slice (some ⟨g, 0, none⟩) F.length cap) ∧ Ext wx.heap.size wx (.slice none 0 0) w' (.slice (some ⟨g, 0, none⟩) F.length cap) F ∧ BytesIn w' (.slice (some ⟨g, 0, none⟩) l.length cap) l ∧ l.length ≤ cap) := fun wx hw => by
    refine (lentBytes_any wx a0 c0 l (hb.later hw) n0 (by omega)).mono ?_
    rintro e w' ⟨g, cap, rfl, hx⟩
    rw [← hF, ← lF] at hx
    rw [← lF]
    have := (bytes_of_own hx.own ZF.out).cut l.length (by omega) cap
    rw [tF] at this
    exact ⟨g, cap, rfl, hx, this, by have := (own_cap hx.own).1; omega⟩
  have SC : Hid (∀ wx g cap, BytesIn wx (.slice (some ⟨g, 0, none⟩) l.length cap) l → l.length ≤ cap → Calls Try.prog 12 #[.slice (some ⟨g, 0, none⟩) l.length cap] wx fun e w' => ∃ a c vs, e = .returned (.tuple #[.slice a RS.length c, .int .i64 (M : Int), .int .i64 E]) ∧ Recs wx.heap.size w' (.slice a RS.length c) RS vs ∧ Below wx.heap.size wx w') := fun wx g cap h hcap => by
    rw [hM, hE, hRS]
    refine (fscan_any wx _ cap l h hcap (by omega)).mono ?_
    rintro e w' ⟨v, vs, rfl, hR, hbb⟩
    obtain ⟨a, c, rfl, _, _⟩ := hR.shape
    exact ⟨a, c, vs, rfl, hR, hbb⟩
  have RC : Hid (∀ wx, Below w.heap.size w wx → Calls Try.prog 20 #[.slice a0 l.length c0] wx fun e w' => ∃ a c, e = .returned (.tuple #[.slice a RS.length c, .int .i64 (M : Int), .int .i64 E]) ∧ RecsAt w' (.slice a RS.length c) RS ∧ Below wx.heap.size wx w') := fun wx hw => by
    rw [hM, hE, hRS]
    refine (refScan_any wx a0 c0 l (hb.later hw) hc (by omega)).mono ?_
    rintro e w' ⟨v, vs, rfl, hR, hbb⟩
    obtain ⟨a, c, rfl, _, _⟩ := hR.shape
    exact ⟨a, c, rfl, hR.at, hbb⟩
  have few := scn_few _ l (Nat.le_refl _)
  rw [← hRS] at few
  have ZR : Hid (∀ r ∈ RS, r.length ≤ 20000) := fun r hr => by have := few.2 r hr; omega
  have ZN : RS.length ≤ 20000 := by omega
  have SR : Hid (∀ wx u u', RecsAt wx u RS → RecsAt wx u' RS → Calls Try.prog 21 #[u, u'] wx fun e w' => e = .returned (.bool true) ∧ Below wx.heap.size wx w') := fun wx u u' x y => sameRecs_any wx u u' RS x y (fun r hr => by have := ZR.out r hr; omega)
  have PC : Hid (∀ wx, Below w.heap.size w wx → Calls Try.prog 22 #[.slice a0 l.length c0] wx fun e w' => ∃ a n c, e = .returned (.slice a n c) ∧ w'.ownsRow wx.heap.size 3 1 (.slice a n c) RS.length (numV PL) ∧ Below wx.heap.size wx w') := fun wx hw => by
    refine (refPlaces_any wx a0 c0 l (hb.later hw) n0 hc (by omega)).mono ?_
    rintro e w' ⟨v, rfl, ho, hbb⟩
    rw [← hPL, lPL] at ho
    rcases ho.2 with ⟨rfl, _⟩ | ⟨g, cp, cur, rfl, _⟩
    · exact ⟨_, _, _, rfl, ho, hbb⟩
    · exact ⟨_, _, _, rfl, ho, hbb⟩
  have PK : Hid (0 < RS.length → ∀ wx, Calls Try.prog 23 #[.int .i64 stop', .int .i64 (RS.length : Int)] wx fun e w' => ∃ k : Nat, k < RS.length ∧ e = .returned (.int .i64 (k : Int)) ∧ w' = wx) := fun h0 wx => pick_any wx stop' RS.length h0 (by omega) h1 h2
  have EA : Hid (∀ wx g cap, BytesIn wx (.slice (some ⟨g, 0, none⟩) l.length cap) l → Calls Try.prog 24 #[.slice (some ⟨g, 0, none⟩) l.length cap] wx fun e w' => ∃ B ad c, e = .returned (.func (.func 39) #[] #[.pointer (some ⟨B, 0, none⟩)]) ∧ Boxed w' B 22 (.slice ad l.length c) ∧ w'.ownsRow wx.heap.size 5 1 (.slice ad l.length c) l.length (bc l) ∧ Below wx.heap.size wx w') := fun wx g cap h => each_any wx _ cap l h (fun e => by cases e)
  have EH : Hid (∀ n n₀ B w0 ad c, Boxed w0 B 22 (.slice ad l.length c) → B < n₀ → n₀ ≤ w0.heap.size → (∀ A, Below n₀ w0 A → BytesIn A (.slice ad l.length c) l) → l.length ≤ c → Hands Fence.wide n Try.prog 39 #[.pointer (some ⟨B, 0, none⟩)] RS.length n₀ (givenTo PL) (gives RS) w0) := fun n n₀ B w0 ad c x1 x2 x3 x4 x5 => by
    rw [hRS, hPL, ← gives_tells, ← givenTo_told]
    exact each_hands n n₀ B w0 ad c l x1 x2 x3 x4 x5 (by omega)
  have LPL : Hid (PL.length = RS.length) := lPL
  have SB : Hid (∀ (r : List UInt8) wx v u, BytesIn wx v r → BytesIn wx u r → Calls Try.prog 17 #[v, u] wx fun e w' => e = .returned (.bool true) ∧ Below wx.heap.size wx w') := fun r wx v u hv hu => by
    have := same_any wx v u _ _ hv hu
    rwa [decide_eq_true rfl] at this
  have KB : Hid (∀ wx v, BytesIn wx v F → Below w.heap.size w wx → Calls Try.prog 18 #[v, .slice a0 l.length c0] wx fun e w' => e = .returned (.bool true) ∧ Below wx.heap.size wx w') := fun wx v hv hw => keptBytes_any wx v l (by rw [← hF]; exact hv) a0 c0 (hb.later hw) n0 (by omega)
  have i1 : ¬ (l.length : Int) > 20000 := by omega
  have kfn := eql_func_nil
  clear hF lF tF hM hE hRS hPL lPL n0 hc few
  refine (callsIn_wide (n := 5)).1 ?_
  refine callsIn_of_wp_marks Try.func5 rfl trivial ?_ rfl
  simp only [Try.ntmps5, List.size_toArray, List.length_cons, List.length_nil, Nat.reduceAdd, Nat.reduceSub, Array.replicate_succ, Array.replicate_zero, List.push_toArray, List.append_toArray, List.nil_append, List.cons_append]
  rw [wpIn_wide]
  have X0 := Boxed.new w 4 (.bool false)
  have K0 : Below w.heap.size w (w.alloc (.cells #[.bool false] 4)) := (Below.refl _ _).alloc (Nat.le_refl _) _
  go_wp2_with (first
    | (go_at_call 13; refine (lives_any _).mono ?_; rintro e w1 ⟨rfl, b1⟩; have B1 := K0.trans (b1.mono K0.size); have X1 := boxed_later X0 b1; clear X0 K0 b1)
    | (go_at_call 14; refine (LN.out _ B1).mono ?_; rintro e w2 ⟨g2, cap2, rfl, x2, V2, y2⟩; have b2 : Below w1.heap.size w1 w2 := x2.below (Nat.le_refl _) (by simp [Value.ownBlock]); have B2 := B1.trans (b2.mono B1.size); have X2 := boxed_later X1 b2; have Y2 : Hid (l.length ≤ cap2) := y2; have j2 : (l.length : Int) ≤ (cap2 : Int) := (by omega); have O2 : Hid (w2.ownsRow w1.heap.size 5 1 (.slice (some ⟨g2, 0, none⟩) F.length cap2) F.length (bc F)) := x2.own; have D2 : Hid (g2 < w2.heap.size ∧ w1.heap.size ≤ w2.heap.size ∧ w.heap.size < w1.heap.size) := ⟨(x2.own.lt g2 rfl).2, b2.size, X1.lt⟩; clear LN y2 x2 X1 b2 B1)
    | (go_at_call 12; refine (SC.out _ _ _ V2 Y2.out).mono ?_; rintro e w3 ⟨la, lc, lvs, rfl, R3, b3⟩; have V3 := V2.later b3; have B3 := B2.trans (b3.mono B2.size); have X3 := boxed_later X2 b3; have O3 : Hid (w3.ownsRow w1.heap.size 5 1 (.slice (some ⟨g2, 0, none⟩) F.length cap2) F.length (bc F)) := own_later O2.out b3; have Q3 : Hid (Recs w2.heap.size w3 (.slice la RS.length lc) RS lvs) := R3; clear SC O2 V2 X2 B2 R3 b3)
    | (go_at_call 20; refine (RC.out _ B3).mono ?_; rintro e w4 ⟨ma, mc, rfl, R4, b4⟩; have V4 := V3.later b4; have B4 := B3.trans (b4.mono B3.size); have X4 := boxed_later X3 b4; have O4 : Hid (w4.ownsRow w1.heap.size 5 1 (.slice (some ⟨g2, 0, none⟩) F.length cap2) F.length (bc F)) := own_later O3.out b4; have Q4 : Hid (Recs w2.heap.size w4 (.slice la RS.length lc) RS lvs) := Q3.out.later b4; clear RC O3 Q3 V3 X3 B3 b4; have XM := Boxed.new w4 29 (.slice ma RS.length mc); have K4 := (Below.refl w4.heap.size w4).alloc (Nat.le_refl _) (.cells #[.slice ma RS.length mc] 29); have L4 := Q4.out.at.later K4; have M4 := R4.later K4)
    | (go_at_call 21; refine (SR.out _ _ _ L4 M4).mono ?_; rintro e w5 ⟨rfl, b5⟩; have K5 := K4.trans (b5.mono K4.size); have V5 := V4.later K5; have B5 := B4.trans (K5.mono B4.size); have X5 := boxed_later X4 K5; have XM5 := boxed_later XM b5; have R5 := R4.later K5; have O5 : Hid (w5.ownsRow w1.heap.size 5 1 (.slice (some ⟨g2, 0, none⟩) F.length cap2) F.length (bc F)) := own_later O4.out K5; have Q5 : Hid (Recs w2.heap.size w5 (.slice la RS.length lc) RS lvs) := Q4.out.later K5; clear SR O4 Q4 V4 X4 XM B4 b5 L4 M4 R4 K4 K5)
    | (go_at_call 22; refine (PC.out _ B5).mono ?_; rintro e w6 ⟨pa, pn, pc, rfl, o6, b6⟩;
        have XM6 := boxed_later XM5 b6; have V6 := V5.later b6; have B6 := B5.trans (b6.mono B5.size); have X6 := boxed_later X5 b6; have R6 := R5.later b6; have z5 := B5.size;
        have O6 : Hid (w6.ownsRow w1.heap.size 5 1 (.slice (some ⟨g2, 0, none⟩) F.length cap2) F.length (bc F)) := own_later O5.out b6; have Q6 : Hid (Recs w2.heap.size w6 (.slice la RS.length lc) RS lvs) := Q5.out.later b6;
        have XP0 := (Boxed.new w6 37 (.slice pa pn pc)).alloc (.cells #[.int .i64 (RS.length : Int)] 3);
        have XO0 := Boxed.new (w6.alloc (.cells #[.slice pa pn pc] 37)) 3 (.int .i64 (RS.length : Int)); rw [World.size_alloc] at XO0;
        have cm1 := (XM6.alloc (.cells #[.slice pa pn pc] 37)).cell; have cm := ((XM6.alloc (.cells #[.slice pa pn pc] 37)).alloc (.cells #[.int .i64 (RS.length : Int)] 3)).cell; have co := XO0.cell; have fo := XO0.frozen;
        have K7 := ((Below.refl w6.heap.size w6).alloc (Nat.le_refl _) (.cells #[.slice pa pn pc] 37)).alloc (by simp) (.cells #[.int .i64 (RS.length : Int)] 3);
        clear PC O5 Q5 V5 X5 XM5 B5 R5 b6)
    | (go_at_call 23; refine (PK.out (by omega) _).mono ?_; rintro e w7 ⟨k, hk, rfl, rfl⟩; clear PK))
  all_goals first
    | (obtain ⟨mst, hmst⟩ : ∃ mst, mst = 1 + k := ⟨_, rfl⟩; have HM : Hid (RS.length = 0 ∧ mst = 0 ∨ 0 < mst ∧ mst ≤ RS.length) := .inr ⟨by omega, by omega⟩; rw [show (Obj.cells #[.int .i64 (1 + (k : Int))] 3) = Obj.cells #[.int .i64 (mst : Int)] 3 from by rw [hmst]; simp]; clear hmst hk)
    | (obtain ⟨mst, hmst⟩ : ∃ mst, mst = RS.length := ⟨_, rfl⟩; have HM : Hid (RS.length = 0 ∧ mst = 0 ∨ 0 < mst ∧ mst ≤ RS.length) := .inl ⟨by omega, by omega⟩; rw [show (Obj.cells #[.int .i64 (RS.length : Int)] 3) = Obj.cells #[.int .i64 (mst : Int)] 3 from by rw [hmst]]; clear hmst)
  all_goals
    clear XP0 XO0 cm1 cm co fo K7
    have XP := (Boxed.new w6 37 (.slice pa pn pc)).alloc (.cells #[.int .i64 (mst : Int)] 3)
    have XO := Boxed.new (w6.alloc (.cells #[.slice pa pn pc] 37)) 3 (.int .i64 (mst : Int))
    rw [World.size_alloc] at XO
    have K8 := ((Below.refl w6.heap.size w6).alloc (Nat.le_refl _) (.cells #[.slice pa pn pc] 37)).alloc (by simp) (.cells #[.int .i64 (mst : Int)] 3)
    obtain ⟨w8, hw8⟩ : ∃ w8, w8 = (w6.alloc (.cells #[.slice pa pn pc] 37)).alloc (.cells #[.int .i64 (mst : Int)] 3) := ⟨_, rfl⟩
    rw [← hw8] at XP XO K8 ⊢
    have XM8 := boxed_later XM6 K8
    have V8 := V6.later K8
    have B8 := B6.trans (K8.mono B6.size)
    have X8 := boxed_later X6 K8
    have R8 := R6.later K8
    have o8 := o6.kept (w' := w8) (row := none) ⟨K8.os, K8.tape, K8.output, K8.size, fun q hq _ => K8.block q hq⟩ (none_kept _)
    have O8 : Hid (w8.ownsRow w1.heap.size 5 1 (.slice (some ⟨g2, 0, none⟩) F.length cap2) F.length (bc F)) := own_later O6.out K8
    have Q8 : Hid (Recs w2.heap.size w8 (.slice la RS.length lc) RS lvs) := Q6.out.later K8
    clear hw8 XM6 V6 B6 X6 R6 o6 O6 Q6 K8
    go_wp2_with (go_at_call 24; refine (EA.out _ _ _ V8).mono ?_; rintro e w9 ⟨BK, ka, kc, rfl, XK, oK, b9⟩; clear EA)
    have XP9 := boxed_later XP b9
    have XO9 := boxed_later XO b9
    have XM9 := boxed_later XM8 b9
    have B9 := B8.trans (b9.mono B8.size)
    have X9 := boxed_later X8 b9
    have R9 := R8.later b9
    have o9 := o8.kept (w' := w9) (row := none) ⟨b9.os, b9.tape, b9.output, b9.size, fun q hq _ => b9.block q hq⟩ (none_kept _)
    have O9 : Hid (w9.ownsRow w1.heap.size 5 1 (.slice (some ⟨g2, 0, none⟩) F.length cap2) F.length (bc F)) := own_later O8.out b9
    have Q9 : Hid (Recs w2.heap.size w9 (.slice la RS.length lc) RS lvs) := Q8.out.later b9
    clear XP XO XM8 B8 X8 R8 o8 O8 Q8 V8 b9
    refine wp_loop_rounds 3 ?_
    rw [rounds_succ]
    go_wp2_with (fail)
    have hkc : l.length ≤ kc := by
      obtain ⟨ad', c', e1, hc1, _⟩ := RecAt.of_own oK
      simp only [Value.slice.injEq] at e1
      obtain ⟨-, -, rfl⟩ := e1
      exact hc1
    have HH : Hid (∀ n, Hands Fence.wide n Try.prog 39 #[.pointer (some ⟨BK, 0, none⟩)] RS.length w9.heap.size (givenTo PL) (gives RS) w9) := fun n => EH.out n w9.heap.size BK w9 ka kc XK XK.lt (Nat.le_refl _) (fun A hA => (bytes_of_own oK (by omega)).later hA) hkc
    clear EH XK oK hkc
    have BODY : Hid (∀ (Bi : Nat) (Ds : List Nat) (k : Nat) (ad : Option Addr) (c : Nat) (A : World), w9.heap.size ≤ Bi → (∀ D ∈ Ds, D < Bi) → k < RS.length → Cnt w9 Bi RS.length mst Ds k A → BytesIn A (.slice ad (RS[k]?.getD []).length c) (RS[k]?.getD []) → ∃ pg mb moff rd rc, pa = some ⟨pg, 0, none⟩ ∧ pn = RS.length ∧ ma = some ⟨mb, moff, none⟩ ∧ A.cell? ⟨Bi, 0, none⟩ = some (.int .i64 (k : Int)) ∧ A.cell? ⟨w4.heap.size, 0, none⟩ = some (.slice ma RS.length mc) ∧ A.cell? ⟨w6.heap.size, 0, none⟩ = some (.slice pa pn pc) ∧ A.cell? ⟨pg, k, none⟩ = some (.int .i64 ((PL[k]?.getD 0 : Nat) : Int)) ∧ A.cell? ⟨mb, moff + k, none⟩ = some (.slice rd (RS[k]?.getD []).length rc) ∧
        Hid (Calls Try.prog 17 #[.slice ad (RS[k]?.getD []).length c, .slice rd (RS[k]?.getD []).length rc] A fun e A1 => e = .returned (.bool true) ∧ A1.cell? ⟨Bi, 0, none⟩ = some (.int .i64 (k : Int)) ∧ A1.frozen? ⟨Bi, 0, none⟩ = false ∧ (A1.setCell ⟨Bi, 0, none⟩ (.int .i64 ((k : Int) + 1))).cell? ⟨w6.heap.size + 1, 0, none⟩ = some (.int .i64 (mst : Int)) ∧
          Hid (∀ b, KeepsFrom b A (A1.setCell ⟨Bi, 0, none⟩ (.int .i64 ((k : Int) + 1))) ∧ Below w9.heap.size A (A1.setCell ⟨Bi, 0, none⟩ (.int .i64 ((k : Int) + 1))) ∧ (k + 1 = mst → Fin w9 Bi mst Ds (k + 1) (A1.setCell ⟨Bi, 0, none⟩ (.int .i64 ((k : Int) + 1)))) ∧ (¬ k + 1 = mst → Cnt w9 Bi RS.length mst Ds (k + 1) (A1.setCell ⟨Bi, 0, none⟩ (.int .i64 ((k : Int) + 1))))))) := by
      rintro Bi Ds k ad c A hBi hDs hk ⟨hbx, hbel, hcc, hmk⟩ hby
      have hgd : RS[k]?.getD [] = RS[k] := by rw [List.getElem?_eq_getElem hk]; rfl
      obtain ⟨mb, moff, rd, rc, rfl, dm, um⟩ := (R9.later hbel).get k hk
      have oA := o9.kept (w' := A) (row := none) ⟨hbel.os, hbel.tape, hbel.output, hbel.size, fun q hq _ => hbel.block q hq⟩ (none_kept _)
      rcases oA.2 with ⟨_, e0⟩ | ⟨pg, pcp, cur, e1, _⟩
      · omega
      · simp only [Value.slice.injEq] at e1
        obtain ⟨rfl, rfl, rfl⟩ := e1
        have hkp : k < PL.length := by rw [LPL.out]; exact hk
        have dp : A.cell? ⟨pg, k, none⟩ = some (.int .i64 ((PL[k]?.getD 0 : Nat) : Int)) := by
          rw [oA.cellAt k (by omega), numV_get PL k hkp, List.getElem?_eq_getElem hkp]
          rfl
        rw [← hgd] at dm um
        have hz : (RS[k]?.getD []).length ≤ 140737488355328 := by rw [hgd]; have := ZR.out _ (List.getElem_mem hk); omega
        refine ⟨pg, mb, moff, rd, rc, rfl, rfl, rfl, hbx.cell, (boxed_later XM9 hbel).cell, (boxed_later XP9 hbel).cell, dp, dm, ?_⟩
        refine (SB.out _ A _ _ hby (um.bytes hz)).mono ?_
        rintro e A1 ⟨rfl, b1⟩
        have hb1 := boxed_later hbx b1
        have hl1 := hbel.trans (b1.mono hbel.size)
        have ne1 : w6.heap.size + 1 ≠ Bi := by have := XO9.lt; omega
        have hset := hb1.set (.int .i64 ((k : Int) + 1))
        rw [show ((k : Int) + 1) = ((k + 1 : Nat) : Int) from by omega] at hset ⊢
        have hl2 := hl1.setCell (p := ⟨Bi, 0, none⟩) hBi (.int .i64 ((k + 1 : Nat) : Int))
        have hm2 : Marks Ds (A1.setCell ⟨Bi, 0, none⟩ (.int .i64 ((k + 1 : Nat) : Int))) := (hmk.later b1).grown hDs (grownBy_setCell' A1 Bi _) (fun q hq => by cases hq; exact Nat.le_refl _)
        refine ⟨rfl, hb1.cell, hb1.frozen, ((boxed_later (boxed_later XO9 hbel) b1).other ne1 _).cell, fun b => ⟨(keeps_of_below _ b1).trans ((KeepsOthers.setCell _ _ _).from _), (b1.mono hbel.size).setCell (p := ⟨Bi, 0, none⟩) hBi _, fun hm => ⟨⟨hm, by omega⟩, by rw [← hm]; exact hset, hl2, hm2⟩, fun hm => ⟨hset, hl2, by omega, hm2⟩⟩⟩
    rw [← wpIn_wide (n := 5)]
    refine wpIn_hands (brk := 2) rfl (by decide) (gf := 39) (lb := #[.pointer (some ⟨BK, 0, none⟩)]) rfl trivial (enters_of Try.func39 (by kernel_rfl) rfl) (HH.out _) ((Below.refl _ _).alloc (Nat.le_refl _) _) (by simp) (fun _ _ => rfl)
      (Cnt w9 w9.heap.size RS.length mst []) (Fin w9 w9.heap.size mst []) (cnt_own (by simp) (by simp)) (fin_own (by simp) (by simp)) (gives_own RS _) ⟨Boxed.new w9 _ _, (Below.refl _ _).alloc (Nat.le_refl _) _, by have := HM.out; omega, by intro D hD; cases hD⟩ ?_ ?_ ?_ ?_ ?_
    rotate_left
    · intro L k u A K hK
      simp only [givenTo]
      gi_wp2_with (fail)
      exact hK
    · rintro L k u A hk hcnt ⟨ad, c, rfl, hby⟩
      try (exfalso; omega)
      all_goals
        obtain ⟨pg, mb, moff, rd, rc, rfl, rfl, rfl, e1, e2, e3, e4, e5, E6⟩ := BODY.out w9.heap.size [] k ad c A (Nat.le_refl _) (by simp) hk hcnt hby
        obtain ⟨pl, hpl⟩ : ∃ pl, pl = PL[k]?.getD 0 := ⟨_, rfl⟩
        obtain ⟨rl, hrl⟩ : ∃ rl, rl = (RS[k]?.getD []).length := ⟨_, rfl⟩
        rw [← hpl] at e4
        rw [← hrl] at e5 E6
        rw [← hpl, ← hrl]
        have j1 : ¬ (k : Int) ≥ (RS.length : Int) := by omega
        clear hby hpl hrl BODY HH hcnt
        by_cases hm : k + 1 = mst
        · have q1 : ((k : Int) + 1 == (mst : Int)) = true := by simp; omega
          gi_wp2_with (first
            | (refine ⟨trivial, ?_⟩; gi_at_call 17; refine (CallsIn.inRound L (callsIn_wide.2 E6.out)).mono ?_; rintro e A1 ⟨rfl, d1, d2, d4, Z⟩; clear E6))
          exact ⟨rfl, (Z.out _).1, (Z.out 0).2.2.1 hm⟩
        · have q1 : ((k : Int) + 1 == (mst : Int)) = false := by simp; omega
          gi_wp2_with (first
            | (refine ⟨trivial, ?_⟩; gi_at_call 17; refine (CallsIn.inRound L (callsIn_wide.2 E6.out)).mono ?_; rintro e A1 ⟨rfl, d1, d2, d4, Z⟩; clear E6))
          exact ⟨(Z.out _).1, (Z.out 0).2.1, (Z.out 0).2.2.2 hm⟩
    · rintro B ⟨hbx, hbl, hcc, hmk⟩ hD
      try (exfalso; have := HM.out; omega)
      all_goals
        have e0 : RS.length = mst := by have := HM.out; omega
        rw [e0] at hbx
        clear e0 hcc
        rw [World.size_alloc] at hD
        have ci := hbx.cell
        have co := (boxed_later XO9 hbl).cell
        go_wp2_with (fail)
        rw [rounds_succ]
        go_wp2_with (fail)
        clear ci co
        have mk1 : Marks [w9.heap.size + 1] B := by intro D hd; simp only [List.mem_singleton] at hd; subst hd; exact hD
        have lt1 : w9.heap.size + 1 < B.heap.size := (Array.getElem?_eq_some_iff.1 hD).1
        rw [← wpIn_wide (n := 5)]
        refine wpIn_hands (brk := 2) rfl (by decide) (gf := 39) (lb := #[.pointer (some ⟨BK, 0, none⟩)]) rfl trivial (enters_of Try.func39 (by kernel_rfl) rfl) (HH.out _) (hbl.alloc hbl.size _) (by have := hbl.size; simp; omega) (fun _ _ => rfl)
          (Cnt w9 B.heap.size RS.length mst [w9.heap.size + 1]) (Fin w9 B.heap.size mst [w9.heap.size + 1]) (cnt_own (by have := hbl.size; simp; omega) (by simp; omega)) (fin_own (by have := hbl.size; simp; omega) (by simp; omega)) (gives_own RS _) ⟨Boxed.new B _ _, hbl.alloc hbl.size _, by have := HM.out; omega, mk1.later ((Below.refl _ _).alloc (Nat.le_refl _) _)⟩ ?_ ?_ ?_ ?_ ?_
        rotate_left
        · intro L k u A K hK
          simp only [givenTo]
          gi_wp2_with (fail)
          exact hK
        · rintro L k u A hk hcnt ⟨ad, c, rfl, hby⟩
          try (exfalso; omega)
          all_goals
            obtain ⟨pg, mb, moff, rd, rc, rfl, rfl, rfl, e1, e2, e3, e4, e5, E6⟩ := BODY.out B.heap.size [w9.heap.size + 1] k ad c A hbl.size (by simp; omega) hk hcnt hby
            obtain ⟨pl, hpl⟩ : ∃ pl, pl = PL[k]?.getD 0 := ⟨_, rfl⟩
            obtain ⟨rl, hrl⟩ : ∃ rl, rl = (RS[k]?.getD []).length := ⟨_, rfl⟩
            rw [← hpl] at e4
            rw [← hrl] at e5 E6
            rw [← hpl, ← hrl]
            have j1 : ¬ (k : Int) ≥ (RS.length : Int) := by omega
            clear hby hpl hrl BODY HH hcnt
            by_cases hm : k + 1 = mst
            · have q1 : ((k : Int) + 1 == (mst : Int)) = true := by simp; omega
              gi_wp2_with (first
                | (refine ⟨trivial, ?_⟩; gi_at_call 17; refine (CallsIn.inRound L (callsIn_wide.2 E6.out)).mono ?_; rintro e A1 ⟨rfl, d1, d2, d4, Z⟩; clear E6))
              exact ⟨rfl, (Z.out _).1, (Z.out 0).2.2.1 hm⟩
            · have q1 : ((k : Int) + 1 == (mst : Int)) = false := by simp; omega
              gi_wp2_with (first
                | (refine ⟨trivial, ?_⟩; gi_at_call 17; refine (CallsIn.inRound L (callsIn_wide.2 E6.out)).mono ?_; rintro e A1 ⟨rfl, d1, d2, d4, Z⟩; clear E6))
              exact ⟨(Z.out _).1, (Z.out 0).2.1, (Z.out 0).2.2.2 hm⟩
        · rintro B2 ⟨hbx2, hbl2, hcc2, hmk2⟩ hD2
          try (exfalso; have := HM.out; omega)
          all_goals
            have e2 : RS.length = mst := by have := HM.out; omega
            rw [e2] at hbx2
            clear e2 hcc2
            rw [World.size_alloc] at hD2
            have ci := hbx2.cell
            have co := (boxed_later XO9 hbl2).cell
            go_wp2_with (fail)
            rw [rounds_succ]
            have K2 := hbl2
            have U2 := (bytes_of_own (own_later O9.out K2) ZF.out)
            have C2 := KB.out B2 _ U2 (B9.trans (K2.mono B9.size))
            have HC2 : Hid (Calls Try.prog 18 #[.slice (some ⟨g2, 0, none⟩) F.length cap2, .slice a0 l.length c0] B2 fun e w' => e = .returned (.bool true) ∧ Below B2.heap.size B2 w') := C2
            have MK2 : Hid (Marks [w9.heap.size + 1, B.heap.size + 1] B2) := by
              intro D hd
              rcases List.mem_cons.mp hd with rfl | hd
              · exact hmk2 _ (by simp)
              · simp only [List.mem_singleton] at hd
                subst hd
                exact hD2
            have z12 := D2.out.2.1
            have zw1 := D2.out.2.2
            have z19 : w1.heap.size ≤ w9.heap.size := by have := O9.out.lt g2 rfl; omega
            have NE : Hid (∀ k (hk : k < lvs.length), (lvs[k]).ownBlock ≠ none → (lvs[k]).ownBlock ≠ (Value.slice (some ⟨g2, 0, none⟩) F.length cap2).ownBlock) := fun k hk hn he => by
              have h5 := (Q9.out.own k hk (by rw [← Q9.out.len]; exact hk)).lt g2 he
              have := D2.out.1
              omega
            have RQ : Hid (∀ q, (Value.slice la RS.length lc).ownBlock = some q → w1.heap.size ≤ q ∧ q < w9.heap.size) := fun q hq => by have := Q9.out.row.lt q hq; omega
            have HZ : Hid (∀ r ∈ RS ++ [F], r.length ≤ 140737488355328) := fun r hr => by
              rcases List.mem_append.mp hr with hr | hr
              · have := ZR.out r hr; omega
              · simp only [List.mem_singleton] at hr; subst hr; exact ZF.out
            have QF : Hid (∀ wx, Below w9.heap.size w9 wx → Recs w1.heap.size wx (.slice la RS.length lc) RS lvs ∧ wx.ownsRow w1.heap.size 5 1 (.slice (some ⟨g2, 0, none⟩) F.length cap2) F.length (bc F) ∧ Boxed wx w.heap.size 4 (.bool false)) := fun wx hw => ⟨(Q9.out.later hw).mono z12, own_later O9.out hw, boxed_later X9 hw⟩
            have BF : Hid (Below w.heap.size w w9) := B9
            have HD9 : Hid (∀ D ∈ [w9.heap.size + 1, B.heap.size + 1], w9.heap.size < D) := by
              intro D hd
              rcases List.mem_cons.mp hd with rfl | hd
              · omega
              · simp only [List.mem_singleton] at hd
                subst hd
                omega
            clear C2 ci co HH BODY U2 hbx2 hD2 hmk2 KB Q9 O9 X9 B9
            go_wp2_with (first
              | (go_at_call 18; refine HC2.out.mono ?_; rintro e w10 ⟨rfl, b10⟩; have K10 := K2.trans (b10.mono K2.size); obtain ⟨Q10, O10, X10⟩ := QF.out _ K10; have M10 := MK2.out.later b10; have zz : ∀ o, w1.heap.size ≤ (w10.alloc o).heap.size := (fun o => by have := K10.size; simp; omega); have T10 : Hid (Marks [w9.heap.size + 1, B.heap.size + 1] w10) := M10; have Y10 : Hid (Boxed w10 w.heap.size 4 (.bool false)) := X10; have V10 : Hid (Below w.heap.size w w10) := BF.out.trans (K10.mono BF.out.size); clear HC2 QF MK2 M10 X10)
              | (at_builtin; refine wpList_append_rec_if _ (by rfl) _ _ rfl w1.heap.size _ RS lvs rfl (Q10.alloc _) (.slice (some ⟨g2, 0, none⟩) F.length cap2) F (O10.alloc _) NE.out w10.heap.size 1 rfl (by simp) (by omega) (zz _) ?_; intro g11 cap11 w11 R11 G11 l11;
                  have T11 : Hid (Marks [w9.heap.size + 1, B.heap.size + 1] w11) := T10.out.over HD9.out G11 (fun q hq => (RQ.out q hq).2);
                  have Y11 : Hid (Boxed w11 w.heap.size 4 (.bool false)) := (Y10.out.alloc _).kept G11 (fun e => by have := RQ.out _ e.symm; omega);
                  have z11 : w1.heap.size ≤ w11.heap.size := Nat.le_trans (zz _) G11.size;
                  have V11 : Hid (Below w.heap.size w w11) := (V10.out.alloc V10.out.size _).grown G11 (by have := V10.out.size; simp; omega) (fun q hq => by have := RQ.out q hq; omega);
                  have P11 : Hid (Recs w1.heap.size w11 (.slice (some ⟨g11, 0, none⟩) (RS.length + 1) cap11) (RS ++ [F]) (lvs ++ [.slice (some ⟨g2, 0, none⟩) F.length cap2])) := R11; clear T10 Y10 V10 R11 G11 Q10 O10)
              | (go_at_call 19; refine (apart_recs w11 w1.heap.size g11 (RS.length + 1) cap11 (RS ++ [F]) _ P11.out (by simp) (by simp; omega) HZ.out z11).mono ?_; rintro e w12 ⟨rfl, b12, k12⟩;
                  have X12 : Boxed w12 w.heap.size 4 (.bool false) := (b12.block _ zw1).trans Y11.out; have c12 := X12.cell; have f12 := X12.frozen;
                  have T12 : Hid (Marks [w9.heap.size + 1, B.heap.size + 1] w12) := (fun D hd => k12.same D _ (T11.out D hd) rfl);
                  have V12 : Hid (Below w.heap.size w w12) := V11.out.trans (b12.mono (by omega)); clear T11 Y11 V11 P11 b12 k12))
            have c13 := (X12.set (.bool true)).cell
            have hcl := X12.set (.bool true)
            have W13 := V12.out.setCell (p := ⟨w.heap.size, 0, none⟩) (Nat.le_refl _) (.bool true)
            have t1 := (KeepsOthers.setCell w12 ⟨w.heap.size, 0, none⟩ (.bool true)).same _ _ (T12.out (w9.heap.size + 1) (by simp)) rfl
            have t2 := (KeepsOthers.setCell w12 ⟨w.heap.size, 0, none⟩ (.bool true)).same _ _ (T12.out (B.heap.size + 1) (by simp)) rfl
            have zf := BF.out.size
            refine leaves_two (v := .bool true) t1 t2 (by omega) (fun C hC => ?_) W13 (by omega) (by omega) (fun C hC => ⟨rfl, hC⟩)
            have cC := (show Boxed C w.heap.size 4 (.bool true) from hC _ _ hcl rfl).cell
            simp [results, Try.results5, go_sem, cC]
        · rintro k2 B2 hkN2 ⟨⟨hk12, hk22⟩, hbx2, hbl2, hmk2⟩ hD2
          try (exfalso; have := HM.out; omega)
          all_goals
            rw [World.size_alloc] at hD2
            have ci := hbx2.cell
            have co := (boxed_later XO9 hbl2).cell
            rw [wpIn_wide]
            go_wp2_with (fail)
            rw [rounds_succ]
            have K2 := hbl2
            have U2 := (bytes_of_own (own_later O9.out K2) ZF.out)
            have C2 := KB.out B2 _ U2 (B9.trans (K2.mono B9.size))
            have HC2 : Hid (Calls Try.prog 18 #[.slice (some ⟨g2, 0, none⟩) F.length cap2, .slice a0 l.length c0] B2 fun e w' => e = .returned (.bool true) ∧ Below B2.heap.size B2 w') := C2
            have MK2 : Hid (Marks [w9.heap.size + 1, B.heap.size + 1] B2) := by
              intro D hd
              rcases List.mem_cons.mp hd with rfl | hd
              · exact hmk2 _ (by simp)
              · simp only [List.mem_singleton] at hd
                subst hd
                exact hD2
            have z12 := D2.out.2.1
            have zw1 := D2.out.2.2
            have z19 : w1.heap.size ≤ w9.heap.size := by have := O9.out.lt g2 rfl; omega
            have NE : Hid (∀ k (hk : k < lvs.length), (lvs[k]).ownBlock ≠ none → (lvs[k]).ownBlock ≠ (Value.slice (some ⟨g2, 0, none⟩) F.length cap2).ownBlock) := fun k hk hn he => by
              have h5 := (Q9.out.own k hk (by rw [← Q9.out.len]; exact hk)).lt g2 he
              have := D2.out.1
              omega
            have RQ : Hid (∀ q, (Value.slice la RS.length lc).ownBlock = some q → w1.heap.size ≤ q ∧ q < w9.heap.size) := fun q hq => by have := Q9.out.row.lt q hq; omega
            have HZ : Hid (∀ r ∈ RS ++ [F], r.length ≤ 140737488355328) := fun r hr => by
              rcases List.mem_append.mp hr with hr | hr
              · have := ZR.out r hr; omega
              · simp only [List.mem_singleton] at hr; subst hr; exact ZF.out
            have QF : Hid (∀ wx, Below w9.heap.size w9 wx → Recs w1.heap.size wx (.slice la RS.length lc) RS lvs ∧ wx.ownsRow w1.heap.size 5 1 (.slice (some ⟨g2, 0, none⟩) F.length cap2) F.length (bc F) ∧ Boxed wx w.heap.size 4 (.bool false)) := fun wx hw => ⟨(Q9.out.later hw).mono z12, own_later O9.out hw, boxed_later X9 hw⟩
            have BF : Hid (Below w.heap.size w w9) := B9
            have HD9 : Hid (∀ D ∈ [w9.heap.size + 1, B.heap.size + 1], w9.heap.size < D) := by
              intro D hd
              rcases List.mem_cons.mp hd with rfl | hd
              · omega
              · simp only [List.mem_singleton] at hd
                subst hd
                omega
            clear C2 ci co HH BODY U2 hbx2 hD2 hmk2 KB Q9 O9 X9 B9
            go_wp2_with (first
              | (go_at_call 18; refine HC2.out.mono ?_; rintro e w10 ⟨rfl, b10⟩; have K10 := K2.trans (b10.mono K2.size); obtain ⟨Q10, O10, X10⟩ := QF.out _ K10; have M10 := MK2.out.later b10; have zz : ∀ o, w1.heap.size ≤ (w10.alloc o).heap.size := (fun o => by have := K10.size; simp; omega); have T10 : Hid (Marks [w9.heap.size + 1, B.heap.size + 1] w10) := M10; have Y10 : Hid (Boxed w10 w.heap.size 4 (.bool false)) := X10; have V10 : Hid (Below w.heap.size w w10) := BF.out.trans (K10.mono BF.out.size); clear HC2 QF MK2 M10 X10)
              | (at_builtin; refine wpList_append_rec_if _ (by rfl) _ _ rfl w1.heap.size _ RS lvs rfl (Q10.alloc _) (.slice (some ⟨g2, 0, none⟩) F.length cap2) F (O10.alloc _) NE.out w10.heap.size 1 rfl (by simp) (by omega) (zz _) ?_; intro g11 cap11 w11 R11 G11 l11;
                  have T11 : Hid (Marks [w9.heap.size + 1, B.heap.size + 1] w11) := T10.out.over HD9.out G11 (fun q hq => (RQ.out q hq).2);
                  have Y11 : Hid (Boxed w11 w.heap.size 4 (.bool false)) := (Y10.out.alloc _).kept G11 (fun e => by have := RQ.out _ e.symm; omega);
                  have z11 : w1.heap.size ≤ w11.heap.size := Nat.le_trans (zz _) G11.size;
                  have V11 : Hid (Below w.heap.size w w11) := (V10.out.alloc V10.out.size _).grown G11 (by have := V10.out.size; simp; omega) (fun q hq => by have := RQ.out q hq; omega);
                  have P11 : Hid (Recs w1.heap.size w11 (.slice (some ⟨g11, 0, none⟩) (RS.length + 1) cap11) (RS ++ [F]) (lvs ++ [.slice (some ⟨g2, 0, none⟩) F.length cap2])) := R11; clear T10 Y10 V10 R11 G11 Q10 O10)
              | (go_at_call 19; refine (apart_recs w11 w1.heap.size g11 (RS.length + 1) cap11 (RS ++ [F]) _ P11.out (by simp) (by simp; omega) HZ.out z11).mono ?_; rintro e w12 ⟨rfl, b12, k12⟩;
                  have X12 : Boxed w12 w.heap.size 4 (.bool false) := (b12.block _ zw1).trans Y11.out; have c12 := X12.cell; have f12 := X12.frozen;
                  have T12 : Hid (Marks [w9.heap.size + 1, B.heap.size + 1] w12) := (fun D hd => k12.same D _ (T11.out D hd) rfl);
                  have V12 : Hid (Below w.heap.size w w12) := V11.out.trans (b12.mono (by omega)); clear T11 Y11 V11 P11 b12 k12))
            have c13 := (X12.set (.bool true)).cell
            have hcl := X12.set (.bool true)
            have W13 := V12.out.setCell (p := ⟨w.heap.size, 0, none⟩) (Nat.le_refl _) (.bool true)
            have t1 := (KeepsOthers.setCell w12 ⟨w.heap.size, 0, none⟩ (.bool true)).same _ _ (T12.out (w9.heap.size + 1) (by simp)) rfl
            have t2 := (KeepsOthers.setCell w12 ⟨w.heap.size, 0, none⟩ (.bool true)).same _ _ (T12.out (B.heap.size + 1) (by simp)) rfl
            have zf := BF.out.size
            refine leaves_two (v := .bool true) t1 t2 (by omega) (fun C hC => ?_) W13 (by omega) (by omega) (fun C hC => ⟨rfl, hC⟩)
            have cC := (show Boxed C w.heap.size 4 (.bool true) from hC _ _ hcl rfl).cell
            simp [results, Try.results5, go_sem, cC]
    · rintro k B hkN ⟨⟨hk1, hk2⟩, hbx, hbl, hmk⟩ hD
      try (exfalso; have := HM.out; omega)
      all_goals
        rw [World.size_alloc] at hD
        have ci := hbx.cell
        have co := (boxed_later XO9 hbl).cell
        rw [wpIn_wide]
        go_wp2_with (fail)
        rw [rounds_succ]
        go_wp2_with (fail)
        clear ci co
        have mk1 : Marks [w9.heap.size + 1] B := by intro D hd; simp only [List.mem_singleton] at hd; subst hd; exact hD
        have lt1 : w9.heap.size + 1 < B.heap.size := (Array.getElem?_eq_some_iff.1 hD).1
        rw [← wpIn_wide (n := 5)]
        refine wpIn_hands (brk := 2) rfl (by decide) (gf := 39) (lb := #[.pointer (some ⟨BK, 0, none⟩)]) rfl trivial (enters_of Try.func39 (by kernel_rfl) rfl) (HH.out _) (hbl.alloc hbl.size _) (by have := hbl.size; simp; omega) (fun _ _ => rfl)
          (Cnt w9 B.heap.size RS.length mst [w9.heap.size + 1]) (Fin w9 B.heap.size mst [w9.heap.size + 1]) (cnt_own (by have := hbl.size; simp; omega) (by simp; omega)) (fin_own (by have := hbl.size; simp; omega) (by simp; omega)) (gives_own RS _) ⟨Boxed.new B _ _, hbl.alloc hbl.size _, by have := HM.out; omega, mk1.later ((Below.refl _ _).alloc (Nat.le_refl _) _)⟩ ?_ ?_ ?_ ?_ ?_
        rotate_left
        · intro L k u A K hK
          simp only [givenTo]
          gi_wp2_with (fail)
          exact hK
        · rintro L k u A hk hcnt ⟨ad, c, rfl, hby⟩
          try (exfalso; omega)
          all_goals
            obtain ⟨pg, mb, moff, rd, rc, rfl, rfl, rfl, e1, e2, e3, e4, e5, E6⟩ := BODY.out B.heap.size [w9.heap.size + 1] k ad c A hbl.size (by simp; omega) hk hcnt hby
            obtain ⟨pl, hpl⟩ : ∃ pl, pl = PL[k]?.getD 0 := ⟨_, rfl⟩
            obtain ⟨rl, hrl⟩ : ∃ rl, rl = (RS[k]?.getD []).length := ⟨_, rfl⟩
            rw [← hpl] at e4
            rw [← hrl] at e5 E6
            rw [← hpl, ← hrl]
            have j1 : ¬ (k : Int) ≥ (RS.length : Int) := by omega
            clear hby hpl hrl BODY HH hcnt
            by_cases hm : k + 1 = mst
            · have q1 : ((k : Int) + 1 == (mst : Int)) = true := by simp; omega
              gi_wp2_with (first
                | (refine ⟨trivial, ?_⟩; gi_at_call 17; refine (CallsIn.inRound L (callsIn_wide.2 E6.out)).mono ?_; rintro e A1 ⟨rfl, d1, d2, d4, Z⟩; clear E6))
              exact ⟨rfl, (Z.out _).1, (Z.out 0).2.2.1 hm⟩
            · have q1 : ((k : Int) + 1 == (mst : Int)) = false := by simp; omega
              gi_wp2_with (first
                | (refine ⟨trivial, ?_⟩; gi_at_call 17; refine (CallsIn.inRound L (callsIn_wide.2 E6.out)).mono ?_; rintro e A1 ⟨rfl, d1, d2, d4, Z⟩; clear E6))
              exact ⟨(Z.out _).1, (Z.out 0).2.1, (Z.out 0).2.2.2 hm⟩
        · rintro B2 ⟨hbx2, hbl2, hcc2, hmk2⟩ hD2
          try (exfalso; have := HM.out; omega)
          all_goals
            have e2 : RS.length = mst := by have := HM.out; omega
            rw [e2] at hbx2
            clear e2 hcc2
            rw [World.size_alloc] at hD2
            have ci := hbx2.cell
            have co := (boxed_later XO9 hbl2).cell
            go_wp2_with (fail)
            rw [rounds_succ]
            have K2 := hbl2
            have U2 := (bytes_of_own (own_later O9.out K2) ZF.out)
            have C2 := KB.out B2 _ U2 (B9.trans (K2.mono B9.size))
            have HC2 : Hid (Calls Try.prog 18 #[.slice (some ⟨g2, 0, none⟩) F.length cap2, .slice a0 l.length c0] B2 fun e w' => e = .returned (.bool true) ∧ Below B2.heap.size B2 w') := C2
            have MK2 : Hid (Marks [w9.heap.size + 1, B.heap.size + 1] B2) := by
              intro D hd
              rcases List.mem_cons.mp hd with rfl | hd
              · exact hmk2 _ (by simp)
              · simp only [List.mem_singleton] at hd
                subst hd
                exact hD2
            have z12 := D2.out.2.1
            have zw1 := D2.out.2.2
            have z19 : w1.heap.size ≤ w9.heap.size := by have := O9.out.lt g2 rfl; omega
            have NE : Hid (∀ k (hk : k < lvs.length), (lvs[k]).ownBlock ≠ none → (lvs[k]).ownBlock ≠ (Value.slice (some ⟨g2, 0, none⟩) F.length cap2).ownBlock) := fun k hk hn he => by
              have h5 := (Q9.out.own k hk (by rw [← Q9.out.len]; exact hk)).lt g2 he
              have := D2.out.1
              omega
            have RQ : Hid (∀ q, (Value.slice la RS.length lc).ownBlock = some q → w1.heap.size ≤ q ∧ q < w9.heap.size) := fun q hq => by have := Q9.out.row.lt q hq; omega
            have HZ : Hid (∀ r ∈ RS ++ [F], r.length ≤ 140737488355328) := fun r hr => by
              rcases List.mem_append.mp hr with hr | hr
              · have := ZR.out r hr; omega
              · simp only [List.mem_singleton] at hr; subst hr; exact ZF.out
            have QF : Hid (∀ wx, Below w9.heap.size w9 wx → Recs w1.heap.size wx (.slice la RS.length lc) RS lvs ∧ wx.ownsRow w1.heap.size 5 1 (.slice (some ⟨g2, 0, none⟩) F.length cap2) F.length (bc F) ∧ Boxed wx w.heap.size 4 (.bool false)) := fun wx hw => ⟨(Q9.out.later hw).mono z12, own_later O9.out hw, boxed_later X9 hw⟩
            have BF : Hid (Below w.heap.size w w9) := B9
            have HD9 : Hid (∀ D ∈ [w9.heap.size + 1, B.heap.size + 1], w9.heap.size < D) := by
              intro D hd
              rcases List.mem_cons.mp hd with rfl | hd
              · omega
              · simp only [List.mem_singleton] at hd
                subst hd
                omega
            clear C2 ci co HH BODY U2 hbx2 hD2 hmk2 KB Q9 O9 X9 B9
            go_wp2_with (first
              | (go_at_call 18; refine HC2.out.mono ?_; rintro e w10 ⟨rfl, b10⟩; have K10 := K2.trans (b10.mono K2.size); obtain ⟨Q10, O10, X10⟩ := QF.out _ K10; have M10 := MK2.out.later b10; have zz : ∀ o, w1.heap.size ≤ (w10.alloc o).heap.size := (fun o => by have := K10.size; simp; omega); have T10 : Hid (Marks [w9.heap.size + 1, B.heap.size + 1] w10) := M10; have Y10 : Hid (Boxed w10 w.heap.size 4 (.bool false)) := X10; have V10 : Hid (Below w.heap.size w w10) := BF.out.trans (K10.mono BF.out.size); clear HC2 QF MK2 M10 X10)
              | (at_builtin; refine wpList_append_rec_if _ (by rfl) _ _ rfl w1.heap.size _ RS lvs rfl (Q10.alloc _) (.slice (some ⟨g2, 0, none⟩) F.length cap2) F (O10.alloc _) NE.out w10.heap.size 1 rfl (by simp) (by omega) (zz _) ?_; intro g11 cap11 w11 R11 G11 l11;
                  have T11 : Hid (Marks [w9.heap.size + 1, B.heap.size + 1] w11) := T10.out.over HD9.out G11 (fun q hq => (RQ.out q hq).2);
                  have Y11 : Hid (Boxed w11 w.heap.size 4 (.bool false)) := (Y10.out.alloc _).kept G11 (fun e => by have := RQ.out _ e.symm; omega);
                  have z11 : w1.heap.size ≤ w11.heap.size := Nat.le_trans (zz _) G11.size;
                  have V11 : Hid (Below w.heap.size w w11) := (V10.out.alloc V10.out.size _).grown G11 (by have := V10.out.size; simp; omega) (fun q hq => by have := RQ.out q hq; omega);
                  have P11 : Hid (Recs w1.heap.size w11 (.slice (some ⟨g11, 0, none⟩) (RS.length + 1) cap11) (RS ++ [F]) (lvs ++ [.slice (some ⟨g2, 0, none⟩) F.length cap2])) := R11; clear T10 Y10 V10 R11 G11 Q10 O10)
              | (go_at_call 19; refine (apart_recs w11 w1.heap.size g11 (RS.length + 1) cap11 (RS ++ [F]) _ P11.out (by simp) (by simp; omega) HZ.out z11).mono ?_; rintro e w12 ⟨rfl, b12, k12⟩;
                  have X12 : Boxed w12 w.heap.size 4 (.bool false) := (b12.block _ zw1).trans Y11.out; have c12 := X12.cell; have f12 := X12.frozen;
                  have T12 : Hid (Marks [w9.heap.size + 1, B.heap.size + 1] w12) := (fun D hd => k12.same D _ (T11.out D hd) rfl);
                  have V12 : Hid (Below w.heap.size w w12) := V11.out.trans (b12.mono (by omega)); clear T11 Y11 V11 P11 b12 k12))
            have c13 := (X12.set (.bool true)).cell
            have hcl := X12.set (.bool true)
            have W13 := V12.out.setCell (p := ⟨w.heap.size, 0, none⟩) (Nat.le_refl _) (.bool true)
            have t1 := (KeepsOthers.setCell w12 ⟨w.heap.size, 0, none⟩ (.bool true)).same _ _ (T12.out (w9.heap.size + 1) (by simp)) rfl
            have t2 := (KeepsOthers.setCell w12 ⟨w.heap.size, 0, none⟩ (.bool true)).same _ _ (T12.out (B.heap.size + 1) (by simp)) rfl
            have zf := BF.out.size
            refine leaves_two (v := .bool true) t1 t2 (by omega) (fun C hC => ?_) W13 (by omega) (by omega) (fun C hC => ⟨rfl, hC⟩)
            have cC := (show Boxed C w.heap.size 4 (.bool true) from hC _ _ hcl rfl).cell
            simp [results, Try.results5, go_sem, cC]
        · rintro k2 B2 hkN2 ⟨⟨hk12, hk22⟩, hbx2, hbl2, hmk2⟩ hD2
          try (exfalso; have := HM.out; omega)
          all_goals
            rw [World.size_alloc] at hD2
            have ci := hbx2.cell
            have co := (boxed_later XO9 hbl2).cell
            rw [wpIn_wide]
            go_wp2_with (fail)
            rw [rounds_succ]
            have K2 := hbl2
            have U2 := (bytes_of_own (own_later O9.out K2) ZF.out)
            have C2 := KB.out B2 _ U2 (B9.trans (K2.mono B9.size))
            have HC2 : Hid (Calls Try.prog 18 #[.slice (some ⟨g2, 0, none⟩) F.length cap2, .slice a0 l.length c0] B2 fun e w' => e = .returned (.bool true) ∧ Below B2.heap.size B2 w') := C2
            have MK2 : Hid (Marks [w9.heap.size + 1, B.heap.size + 1] B2) := by
              intro D hd
              rcases List.mem_cons.mp hd with rfl | hd
              · exact hmk2 _ (by simp)
              · simp only [List.mem_singleton] at hd
                subst hd
                exact hD2
            have z12 := D2.out.2.1
            have zw1 := D2.out.2.2
            have z19 : w1.heap.size ≤ w9.heap.size := by have := O9.out.lt g2 rfl; omega
            have NE : Hid (∀ k (hk : k < lvs.length), (lvs[k]).ownBlock ≠ none → (lvs[k]).ownBlock ≠ (Value.slice (some ⟨g2, 0, none⟩) F.length cap2).ownBlock) := fun k hk hn he => by
              have h5 := (Q9.out.own k hk (by rw [← Q9.out.len]; exact hk)).lt g2 he
              have := D2.out.1
              omega
            have RQ : Hid (∀ q, (Value.slice la RS.length lc).ownBlock = some q → w1.heap.size ≤ q ∧ q < w9.heap.size) := fun q hq => by have := Q9.out.row.lt q hq; omega
            have HZ : Hid (∀ r ∈ RS ++ [F], r.length ≤ 140737488355328) := fun r hr => by
              rcases List.mem_append.mp hr with hr | hr
              · have := ZR.out r hr; omega
              · simp only [List.mem_singleton] at hr; subst hr; exact ZF.out
            have QF : Hid (∀ wx, Below w9.heap.size w9 wx → Recs w1.heap.size wx (.slice la RS.length lc) RS lvs ∧ wx.ownsRow w1.heap.size 5 1 (.slice (some ⟨g2, 0, none⟩) F.length cap2) F.length (bc F) ∧ Boxed wx w.heap.size 4 (.bool false)) := fun wx hw => ⟨(Q9.out.later hw).mono z12, own_later O9.out hw, boxed_later X9 hw⟩
            have BF : Hid (Below w.heap.size w w9) := B9
            have HD9 : Hid (∀ D ∈ [w9.heap.size + 1, B.heap.size + 1], w9.heap.size < D) := by
              intro D hd
              rcases List.mem_cons.mp hd with rfl | hd
              · omega
              · simp only [List.mem_singleton] at hd
                subst hd
                omega
            clear C2 ci co HH BODY U2 hbx2 hD2 hmk2 KB Q9 O9 X9 B9
            go_wp2_with (first
              | (go_at_call 18; refine HC2.out.mono ?_; rintro e w10 ⟨rfl, b10⟩; have K10 := K2.trans (b10.mono K2.size); obtain ⟨Q10, O10, X10⟩ := QF.out _ K10; have M10 := MK2.out.later b10; have zz : ∀ o, w1.heap.size ≤ (w10.alloc o).heap.size := (fun o => by have := K10.size; simp; omega); have T10 : Hid (Marks [w9.heap.size + 1, B.heap.size + 1] w10) := M10; have Y10 : Hid (Boxed w10 w.heap.size 4 (.bool false)) := X10; have V10 : Hid (Below w.heap.size w w10) := BF.out.trans (K10.mono BF.out.size); clear HC2 QF MK2 M10 X10)
              | (at_builtin; refine wpList_append_rec_if _ (by rfl) _ _ rfl w1.heap.size _ RS lvs rfl (Q10.alloc _) (.slice (some ⟨g2, 0, none⟩) F.length cap2) F (O10.alloc _) NE.out w10.heap.size 1 rfl (by simp) (by omega) (zz _) ?_; intro g11 cap11 w11 R11 G11 l11;
                  have T11 : Hid (Marks [w9.heap.size + 1, B.heap.size + 1] w11) := T10.out.over HD9.out G11 (fun q hq => (RQ.out q hq).2);
                  have Y11 : Hid (Boxed w11 w.heap.size 4 (.bool false)) := (Y10.out.alloc _).kept G11 (fun e => by have := RQ.out _ e.symm; omega);
                  have z11 : w1.heap.size ≤ w11.heap.size := Nat.le_trans (zz _) G11.size;
                  have V11 : Hid (Below w.heap.size w w11) := (V10.out.alloc V10.out.size _).grown G11 (by have := V10.out.size; simp; omega) (fun q hq => by have := RQ.out q hq; omega);
                  have P11 : Hid (Recs w1.heap.size w11 (.slice (some ⟨g11, 0, none⟩) (RS.length + 1) cap11) (RS ++ [F]) (lvs ++ [.slice (some ⟨g2, 0, none⟩) F.length cap2])) := R11; clear T10 Y10 V10 R11 G11 Q10 O10)
              | (go_at_call 19; refine (apart_recs w11 w1.heap.size g11 (RS.length + 1) cap11 (RS ++ [F]) _ P11.out (by simp) (by simp; omega) HZ.out z11).mono ?_; rintro e w12 ⟨rfl, b12, k12⟩;
                  have X12 : Boxed w12 w.heap.size 4 (.bool false) := (b12.block _ zw1).trans Y11.out; have c12 := X12.cell; have f12 := X12.frozen;
                  have T12 : Hid (Marks [w9.heap.size + 1, B.heap.size + 1] w12) := (fun D hd => k12.same D _ (T11.out D hd) rfl);
                  have V12 : Hid (Below w.heap.size w w12) := V11.out.trans (b12.mono (by omega)); clear T11 Y11 V11 P11 b12 k12))
            have c13 := (X12.set (.bool true)).cell
            have hcl := X12.set (.bool true)
            have W13 := V12.out.setCell (p := ⟨w.heap.size, 0, none⟩) (Nat.le_refl _) (.bool true)
            have t1 := (KeepsOthers.setCell w12 ⟨w.heap.size, 0, none⟩ (.bool true)).same _ _ (T12.out (w9.heap.size + 1) (by simp)) rfl
            have t2 := (KeepsOthers.setCell w12 ⟨w.heap.size, 0, none⟩ (.bool true)).same _ _ (T12.out (B.heap.size + 1) (by simp)) rfl
            have zf := BF.out.size
            refine leaves_two (v := .bool true) t1 t2 (by omega) (fun C hC => ?_) W13 (by omega) (by omega) (fun C hC => ⟨rfl, hC⟩)
            have cC := (show Boxed C w.heap.size 4 (.bool true) from hC _ _ hcl rfl).cell
            simp [results, Try.results5, go_sem, cC]

theorem walk (w : World) (a0 : Option Addr) (c0 : Nat) (l : List UInt8) (stop' : Int) (hb : BytesIn w (.slice a0 l.length c0) l) (n0 : a0 = none → c0 = 0) (hc : l.length ≤ c0) (h1 : -9223372036854775808 ≤ stop') (h2 : stop' ≤ 9223372036854775807) :
    Calls Try.prog 5 #[.slice a0 l.length c0, .int .i64 stop'] w fun e w' => e = .returned (.bool true) ∧ Below w.heap.size w w' := by
  by_cases h : 20000 < l.length
  · exact walk_off w a0 c0 l.length stop' h
  · exact walk_on w a0 c0 l stop' hb n0 hc (by omega) h1 h2

set_option maxRecDepth 100000 in
theorem lifted (os : Os) (started : os.Started) (H : Type) (enc : TypeId × Value → H) :
    ReturnsInHanded {} Try.checked os 5 .any (Rows.frameScanSpec.pre6 enc Try.prog Try.f5 Rows.frameScanRow.domain false) (Rows.frameScanSpec.post enc Try.prog Try.f5 false true false false) := by
  refine returnsInHanded_of_change_sized (C := Try.checked) own started (by kernel_rfl) Try.func5
    (ChangeSpec.witness6 (enc := enc) (C := Try.checked) false ⟨#[], #[.slice none 0 0, .int .i64 0], []⟩ 8 (by kernel_rfl) (by kernel_rfl) (by kernel_rfl) (by kernel_rfl)) ?_
  intro W base args ds gs before hval0 hW hcnd hsz0 _
  have hsz : (DataW.weightsEach Try.prog (Try.f5.params.toList ++ Rows.frameScanSpec.plain.varTypes Try.prog) (ds ++ gs)).all (· ≤ reachBytes) = true := hsz0
  have hval : ∀ (j : Nat) t v, Try.f5.params[j]? = some t → args[j]? = some v → Value.okWide Try.prog W .any base t v := hval0
  have hW' := hW
  obtain ⟨p, q, hA0, hV, rfl, hfz, hnd⟩ := hW
  have hA : DataW.TrodAll enc Try.prog W 0 (fun _ => true) true Try.f5.params.toList args.toList ds p := hA0
  rw [Try.params5] at hA hval hsz
  obtain ⟨v0, vs0, d0, ds0, p0, q0, hargs, rfl, rfl, h0, r0⟩ := trodAll_cons hA
  obtain ⟨v1, vs1, d1, ds1, p1, q1, rfl, rfl, rfl, h1, r1⟩ := trodAll_cons r0
  obtain ⟨rfl, rfl, rfl⟩ := trodAll_nil r1
  obtain rfl : args = #[v0, v1] := by cases args; simp_all
  obtain ⟨rfl, rfl⟩ := trodVars_none hV
  have k0 := h0
  have lt0 : ∀ x ∈ p0, x.block < W.heap.size := by obtain ⟨m, hm⟩ := k0; exact DataW.trod_lt m _ _ _ hm
  obtain ⟨a0, len0, cap0, rfl⟩ := okWide_slice Try.underlying22 (hval 0 22 v0 rfl rfl)
  obtain ⟨x1, rfl, rfl, rfl, w1⟩ := open_int Try.underlying3 (hval 1 3 v1 rfl rfl) h1
  have bx1 := bounds_i64 w1
  obtain ⟨l0, rfl, hb0, hl0, nn0, hc0⟩ := bytes_in h0 (fun elems spr e => by
    have := sized_slice hsz (j := 0) (t := 22) (e := 5) (elems := elems) (spare := spr) rfl (by rw [e]; rfl) Try.underlying22
    rwa [bytesT8] at this) rfl rfl
  clear hA0 hval0
  refine (walk W a0 cap0 l0 x1 hb0 nn0 hc0 (by omega) (by omega)).mono fun e W' ⟨he, bel⟩ => ?_
  subst he
  exact ⟨_, rfl, _, _, _, [], _, [], hW', trodAll_mk1 (shut_bool Try.underlying4 _), (trodAll_cons_mk (Below.trod laidOut (by kernel_rfl) (of_decide_eq_true (by kernel_rfl)) k0 bel lt0) (trodAll_cons_mk (shut_int Try.underlying3 w1) trodAll_mk0)), rfl, bel.frame _, fun h => by cases h⟩

theorem over : Rows.frameScanRow.holds Try.pinned (OpenSpec.ofChange Rows.frameScanSpec) :=
  OpenClaim.holds_of_wide 5 Try.f5 rfl rfl rfl rfl rfl rfl rfl ⟨rfl, rfl, rfl, rfl, rfl⟩ rfl rfl rfl rfl rfl (by kernel_rfl) Try.func5 (by kernel_rfl)
    (of_decide_eq_true (by kernel_rfl)) (by unfold Func.isWrapper; first | (rw [if_pos (by decide +kernel)]; kernel_rfl) | (rw [if_neg (by decide +kernel)]; exact ⟨rfl, rfl⟩))
    (fun os started H enc _ => lifted os started H enc)
end Go.Proofs.Ytmhehohiodggcaa.frameScan

namespace Go.Proofs.Ytmhehohiodggcaa
/-- THE STATEMENT. -/
theorem frameScan_holds : Rows.FrameScanSaid := frameScan.over
#print axioms frameScan_holds
end Go.Proofs.Ytmhehohiodggcaa
