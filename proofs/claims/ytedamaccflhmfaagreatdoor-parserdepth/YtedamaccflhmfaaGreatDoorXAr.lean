/-
  The library's tables, as a row lists them, and a variable of the library that holds some number. .. and what follows from it.
-/
import Derived.Test.YtedamaccflhmfaaGreatDoorXUf
import Derived.Test.YtedamaccflhmfaaGreatDoorRows
import Derived.Lib.LaidTab
import Derived.Lib.LaidU8T
import Derived.Shelf.Vars
import Derived.MakeChecks
import Derived.Stop.LaidErr
import Derived.Handed
import Derived.SizedLaws
import Derived.ProofKit
import Derived.WalkKit
import Derived.Test.YtedamaccflhmfaaGreatDoorXDw
import Derived.OpenShut
import Derived.Deep.Strs
namespace Go.Proofs.YtedamaccflhmfaaGreatDoor
open Go.ChangeShapes Go.WideShapes Go.ChangeAt Go.RowKit Go.Shelf

theorem u8extra : U8Extra Tryz.prog Tryz.lays196_ren := { n3 := by kernel_rfl, n4 := by kernel_rfl, y3 := by kernel_rfl, y4 := by kernel_rfl, c5 := by kernel_rfl, c119 := by kernel_rfl, c138 := by kernel_rfl }

theorem first_is : Rows.laid_unicode_utf8_first = Lib.firstData := by kernel_rfl
theorem accept_is : (Rows.laid_unicode_utf8_acceptRanges : DataW Unit) = Lib.acceptData := by kernel_rfl
theorem pow_is : (Rows.laid_internal_strconv_uint64pow10 : DataW Unit) = Lib.tabData .u64 Lib.pow10Tab := by kernel_rfl

/-- The row's list of tables. -/
def tabList : List (String × DataW Unit) := [("math/bits.deBruijn32tab", Rows.laid_math_bits_deBruijn32tab), ("math/bits.deBruijn64tab", Rows.laid_math_bits_deBruijn64tab), ("internal/strconv.uint64pow10", Rows.laid_internal_strconv_uint64pow10), ("unicode/utf8.acceptRanges", Rows.laid_unicode_utf8_acceptRanges), ("unicode/utf8.first", Rows.laid_unicode_utf8_first)]

theorem tabs_of {W : World} (h : laidMetH Tryz.prog tabList W) (hs : W.ShapedOpen Tryz.prog) : Tabs W := by
  rw [MakeChecks.laidMetH_plain _ _ _ (by kernel_rfl)] at h
  refine ⟨?_, ?_, ?_⟩
  · have h2 := h.tail.tail
    rw [pow_is] at h2
    exact Lib.tabIs_of_head (g := 7) (by kernel_rfl) (by kernel_rfl) Tryz.underlying232 Tryz.underlying58 (by kernel_rfl) (by kernel_rfl) h2
  · have h3 := Lib.laidMet.reads h (n := "unicode/utf8.first") (d := Lib.firstData) (by rw [← first_is]; simp [tabList])
    have h4 := Lib.laidMet.reads h (n := "unicode/utf8.acceptRanges") (d := Lib.acceptData) (by rw [← accept_is]; simp [tabList])
    exact utf8Tabs_of_readsT (U8Types.of196 Tryz.lays196) u8extra h3 h4
  · exact cell_of_shapedOpen_int (t := 3) (zero := #[.int .i64 0]) hs (by decide) (by kernel_rfl) (by kernel_rfl) (by kernel_rfl) (by kernel_rfl) Tryz.underlying3
end Go.Proofs.YtedamaccflhmfaaGreatDoor
namespace Go.Proofs.YtedamaccflhmfaaGreatDoor
open Go.RowKit

theorem handed_shaped {H : Type} {enc : TypeId × Value → H} {a : Assume} {C : Checked} {os : Os} {f : FuncId} {fn : Func} {s : ChangeSpec} {conds : List PathCond} {apart fresh handsOn again : Bool} {X : World → Array Value → Prop}
    (hX : ∀ (w w' : World) (args : Array Value), w.heap = w'.heap → X w args → X w' args)
    (own : ownKnob C.prog.godebug = none) (started : os.Started) (noInit : C.prog.inits.idxOf? f = none) (hfn : C.prog.funcs[f]? = some fn)
    (witness : ∃ (w : World) (tape : Tape) (i : Input), w.os = os ∧ (w.forCall tape i).Shaped C.prog ∧ i.vars = [] ∧ Input.okWide C.prog (w.forCall tape i) .any w.heap.size f i ∧
      ((s.pre enc C.prog fn conds apart (w.forCall tape i).memory i.args ∧ X (w.forCall tape i).memory i.args) ∧ sizedMet enc C.prog fn (OpenSpec.ofChange s) apart (w.forCall tape i).memory i.args) ∧ a.holds C.prog (lone (Frame.enter C.prog f i.args .normal) [] (w.forCall tape i)))
    (contract : ∀ (W : World) (base : Nat) (args : Array Value) (ds gs : List (DataW H)) (before : List MemPlace),
      (∀ (j : Nat) t v, fn.params[j]? = some t → args[j]? = some v → Value.okWide C.prog W .any base t v) →
      DataW.Whole enc C.prog fn.params.toList s.vars apart W args.toList ds gs before →
      (DataW.weightsEach C.prog (fn.params.toList ++ s.plain.varTypes C.prog) (ds ++ gs)).all (· ≤ reachBytes) = true → X W args → W.ShapedOpen C.prog →
      Calls C.prog f args W fun e W' => ∃ v, e = .returned v ∧ s.post enc C.prog fn apart fresh handsOn again W args v W') :
    ReturnsInHanded a C os f .any (fun w args => (s.pre enc C.prog fn conds apart w args ∧ X w args) ∧ sizedMet enc C.prog fn (OpenSpec.ofChange s) apart w args) (s.post enc C.prog fn apart fresh handsOn again) := by
  refine returnsInHanded_of_calls own started noInit witness ?_
  intro w tape i _ hsh _ hok hpre _
  obtain ⟨_, _, _, fn', hfn', _, _, _, _, hval⟩ := hok
  have e : fn' = fn := Option.some.inj (hfn'.symm.trans hfn)
  subst e
  obtain ⟨⟨⟨ds, gs, before, hw, _⟩, hx⟩, hz⟩ := hpre
  have hw' := DataW.Whole.of_heap (w' := w.forCall tape i) (by rfl) hw
  refine (contract (w.forCall tape i) w.heap.size i.args ds gs before hval hw' (hz.weights hw) (hX _ _ _ (by rfl) hx) hsh).mono fun e W' ⟨v, he, hp⟩ => ?_
  subst he
  exact ChangeSpec.post_blind hp
end Go.Proofs.YtedamaccflhmfaaGreatDoor
namespace Go.Proofs.YtedamaccflhmfaaGreatDoor
open Go.ChangeShapes Go.WideShapes Go.ChangeAt Go.RowKit Go.Shelf

theorem three {α : Type} {l : List α} (h : l.length = 3) : ∃ a b c, l = [a, b, c] := by
  match l, h with
  | [a, b, c], _ => exact ⟨a, b, c, rfl⟩
theorem two' {α : Type} {l : List α} (h : l.length = 2) : ∃ a b, l = [a, b] := by
  match l, h with
  | [a, b], _ => exact ⟨a, b, rfl⟩
theorem cells_operation : Tryz.prog.cellsOf 156 = 3 := by kernel_rfl
theorem cells_aggregate : Tryz.prog.cellsOf 200 = 2 := by kernel_rfl
theorem cells_kindWord : Tryz.prog.cellsOf 227 = 2 := by kernel_rfl
theorem cells_op8 : Tryz.prog.cellsOf 28 = 1 := by kernel_rfl
theorem cells_kind8 : Tryz.prog.cellsOf 29 = 1 := by kernel_rfl
theorem cells_str1 : Tryz.prog.cellsOf 9 = 1 := by kernel_rfl
theorem cells_int1 : Tryz.prog.cellsOf 3 = 1 := by kernel_rfl
abbrev TR (w : World) (n : Nat) (t : TypeId) (cs : List Value) (y : DataW Unit × List MemPlace) : Prop := DataW.trod (fun _ => ()) Tryz.prog w 0 (fun _ => true) false n t cs = some y
theorem chunk_op {w : World} {n : Nat} {cs : List Value} {y : DataW Unit × List MemPlace} (h : TR w n 156 cs y) {a k : Int} {s : List UInt8} (hy : y.1 = .agg [.lit (.int .u8 a), .lit (.string s), .lit (.int .i64 k)]) : cs = [.int .u8 a, .string ⟨s.toArray⟩, .int .i64 k] := by
  obtain ⟨zs, m2, _, hx, hl, zlen, hz⟩ := DataW.trod_struct Tryz.underlying156 h
  rw [cells_operation] at hl
  obtain ⟨c0, c1, c2, rfl⟩ := three hl
  have zlen' : zs.length = 3 := zlen
  obtain ⟨z0, z1, z2, rfl⟩ := three zlen'
  have g0 : TR w m2 28 [c0] z0 := by simpa [cells_op8] using hz 0 _ rfl
  have g1 : TR w m2 9 [c1] z1 := by simpa [cells_str1] using hz 1 _ rfl
  have g2 : TR w m2 3 [c2] z2 := by simpa [cells_int1] using hz 2 _ rfl
  obtain ⟨n0, e0, x0, _⟩ := DataW.trod_int Tryz.underlying28 g0
  obtain ⟨t1, e1, x1, _⟩ := DataW.trod_string Tryz.underlying9 g1
  obtain ⟨n2, e2, x2, _⟩ := DataW.trod_int Tryz.underlying3 g2
  subst hx x0 x1 x2
  simp at hy e0 e1 e2
  obtain ⟨h1, h2, h3⟩ := hy
  subst e0 e1 e2 h1 h2 h3
  simp
theorem chunk_agg {w : World} {n : Nat} {cs : List Value} {y : DataW Unit × List MemPlace} (h : TR w n 200 cs y) {a : Int} {s : List UInt8} (hy : y.1 = .agg [.lit (.int .u8 a), .lit (.string s)]) : cs = [.int .u8 a, .string ⟨s.toArray⟩] := by
  obtain ⟨zs, m2, _, hx, hl, zlen, hz⟩ := DataW.trod_struct Tryz.underlying200 h
  rw [cells_aggregate] at hl
  obtain ⟨c0, c1, rfl⟩ := two' hl
  have zlen' : zs.length = 2 := zlen
  obtain ⟨z0, z1, rfl⟩ := two' zlen'
  have g0 : TR w m2 28 [c0] z0 := by simpa [cells_op8] using hz 0 _ rfl
  have g1 : TR w m2 9 [c1] z1 := by simpa [cells_str1] using hz 1 _ rfl
  obtain ⟨n0, e0, x0, _⟩ := DataW.trod_int Tryz.underlying28 g0
  obtain ⟨t1, e1, x1, _⟩ := DataW.trod_string Tryz.underlying9 g1
  subst hx x0 x1
  simp at hy e0 e1
  obtain ⟨h1, h2⟩ := hy
  subst e0 e1 h1 h2
  simp
theorem chunk_kind {w : World} {n : Nat} {cs : List Value} {y : DataW Unit × List MemPlace} (h : TR w n 227 cs y) {a : Int} {s : List UInt8} (hy : y.1 = .agg [.lit (.int .u8 a), .lit (.string s)]) : cs = [.int .u8 a, .string ⟨s.toArray⟩] := by
  obtain ⟨zs, m2, _, hx, hl, zlen, hz⟩ := DataW.trod_struct Tryz.underlying227 h
  rw [cells_kindWord] at hl
  obtain ⟨c0, c1, rfl⟩ := two' hl
  have zlen' : zs.length = 2 := zlen
  obtain ⟨z0, z1, rfl⟩ := two' zlen'
  have g0 : TR w m2 29 [c0] z0 := by simpa [cells_kind8] using hz 0 _ rfl
  have g1 : TR w m2 9 [c1] z1 := by simpa [cells_str1] using hz 1 _ rfl
  obtain ⟨n0, e0, x0, _⟩ := DataW.trod_int Tryz.underlying29 g0
  obtain ⟨t1, e1, x1, _⟩ := DataW.trod_string Tryz.underlying9 g1
  subst hx x0 x1
  simp at hy e0 e1
  obtain ⟨h1, h2⟩ := hy
  subst e0 e1 h1 h2
  simp
theorem chunks {sz : Nat} (h0 : 0 < sz) : ∀ (L : List (List Value)) (cs : List Value), cs.length = L.length * sz → (∀ i (h : i < L.length), (cs.drop (i * sz)).take sz = L[i]) → cs = L.flatten
  | [], cs, hl, _ => by
    rw [List.length_nil, Nat.zero_mul] at hl
    rw [List.eq_nil_of_length_eq_zero hl]; rfl
  | x :: L, cs, hl, hc => by
    rw [List.length_cons, Nat.succ_mul] at hl
    have h1 := hc 0 (by simp)
    rw [Nat.zero_mul, List.drop_zero] at h1
    have h2 := chunks h0 L (cs.drop sz) (by rw [List.length_drop]; omega) (fun i hi => by
      have := hc (i + 1) (by simpa using hi)
      rw [Nat.succ_mul, Nat.add_comm] at this
      rw [List.drop_drop]
      simpa using this)
    rw [List.flatten_cons, ← h2, ← show cs.take sz = x from h1, List.take_append_drop]
theorem row_of {w : World} {n : Nat} {t e : TypeId} {sz k : Nat} {cs : List Value} {p : List MemPlace} {ds : List (DataW Unit)} {L : List (List Value)} (ht : Tryz.prog.underlying t = some (.array k e)) (hs : Tryz.prog.cellsOf e = sz) (hst : Tryz.prog.cellsOf t = k * sz) (h0 : 0 < sz) (hL : L.length = k) (hd : ds.length = k)
    (h : DataW.trod (fun _ => ()) Tryz.prog w 0 (fun _ => true) false n t cs = some (.agg ds, p)) (hc : ∀ i (h1 : i < L.length) (h2 : i < ds.length) m c y, TR w m e c y → y.1 = ds[i] → c = L[i]) : cs = L.flatten := by
  obtain ⟨xs, m, _, hx, hl, hn, hall⟩ := DataW.trod_array ht h
  refine chunks h0 L cs (by rw [hl, hst, hL]) fun i hi => ?_
  have hi2 : i < xs.length := by omega
  have h1 := hall i (by omega)
  rw [hs, List.getElem?_eq_getElem hi2] at h1
  refine hc i hi (by omega) m _ _ h1 ?_
  have h2 : ds = xs.map (·.1) := by
    have := congrArg Prod.fst hx
    injection this
  subst h2
  simp
theorem heap_of_var {W : World} {g : Nat} {t : TypeId} {zero : Array Value} {name : String} {d : DataW Unit} (hs : W.ShapedOpen Tryz.prog) (hg : g < Tryz.prog.globals.size) (h0 : ((begin Tryz.prog (fun _ _ => 0) default).world.heap[g]?).bind Obj.row? = some (zero, t)) (hgn : Tryz.prog.globalNamed name = some g) (hty : (Tryz.prog.globals[g]?).map (·.type) = some t) (hv : Lib.VarReads Tryz.prog W name d) :
    ∃ cs fuel p, W.heap[g]? = some (.cells cs t (0, 0)) ∧ DataW.trod (fun _ => ()) Tryz.prog W 0 (fun _ => true) false fuel t cs.toList = some (d, p) := by
  obtain ⟨cs0, hh, _, _⟩ := hs.1 g zero t hg h0
  obtain ⟨g', t', cs, fuel, p, h1, h2, h3, h4⟩ := hv
  obtain rfl := Option.some.inj (hgn.symm.trans h1)
  obtain rfl := Option.some.inj (hty.symm.trans h2)
  have e : cs = cs0 := by
    unfold World.var? at h3
    rw [hgn] at h3
    simp only [Option.bind_some, hh] at h3
    exact (Option.some.inj h3).symm
  subst e
  exact ⟨cs, fuel, p, hh, h4⟩
theorem ops_laid {W : World} {L : List (String × DataW Unit)} (h : laidMet Tryz.prog L W) (hs : W.ShapedOpen Tryz.prog) (h1 : ("stagepost/parser.operations", Rows.laid_stagepost_parser_operations) ∈ L) : W.heap[5]? = some (.cells opsC.toArray 202 (0, 0)) := by
  obtain ⟨cs, fuel, p, hh, hd⟩ := heap_of_var (g := 5) (zero := #[.int .u8 0, .string ⟨#[]⟩, .int .i64 0, .int .u8 0, .string ⟨#[]⟩, .int .i64 0, .int .u8 0, .string ⟨#[]⟩, .int .i64 0, .int .u8 0, .string ⟨#[]⟩, .int .i64 0, .int .u8 0, .string ⟨#[]⟩, .int .i64 0, .int .u8 0, .string ⟨#[]⟩, .int .i64 0, .int .u8 0, .string ⟨#[]⟩, .int .i64 0, .int .u8 0, .string ⟨#[]⟩, .int .i64 0, .int .u8 0, .string ⟨#[]⟩, .int .i64 0, .int .u8 0, .string ⟨#[]⟩, .int .i64 0, .int .u8 0, .string ⟨#[]⟩, .int .i64 0, .int .u8 0, .string ⟨#[]⟩, .int .i64 0, .int .u8 0, .string ⟨#[]⟩, .int .i64 0, .int .u8 0, .string ⟨#[]⟩, .int .i64 0]) (t := 202) hs (by decide) (by kernel_rfl) (by kernel_rfl) (by kernel_rfl) (Lib.laidMet.reads h h1)
  have e : cs.toList = (Ps.ops.map fun o => [Value.int .u8 o.1, .string ⟨o.2.1.toArray⟩, .int .i64 o.2.2]).flatten := by
    refine row_of (sz := 3) (k := 14) Tryz.underlying202 cells_operation (by kernel_rfl) (by decide) rfl rfl hd fun i h1 h2 m c y ht hy => ?_
    match i, h1, h2 with
    | 0, _, _ => exact chunk_op ht hy
    | 1, _, _ => exact chunk_op ht hy
    | 2, _, _ => exact chunk_op ht hy
    | 3, _, _ => exact chunk_op ht hy
    | 4, _, _ => exact chunk_op ht hy
    | 5, _, _ => exact chunk_op ht hy
    | 6, _, _ => exact chunk_op ht hy
    | 7, _, _ => exact chunk_op ht hy
    | 8, _, _ => exact chunk_op ht hy
    | 9, _, _ => exact chunk_op ht hy
    | 10, _, _ => exact chunk_op ht hy
    | 11, _, _ => exact chunk_op ht hy
    | 12, _, _ => exact chunk_op ht hy
    | 13, _, _ => exact chunk_op ht hy
    | n + 14, h1, _ => exact absurd h1 (by simp [Ps.ops])
  rw [hh, show cs = opsC.toArray from by rw [show opsC = cs.toList from e.symm]]
theorem aggs_laid {W : World} {L : List (String × DataW Unit)} (h : laidMet Tryz.prog L W) (hs : W.ShapedOpen Tryz.prog) (h1 : ("stagepost/parser.aggregates", Rows.laid_stagepost_parser_aggregates) ∈ L) : W.heap[4]? = some (.cells aggsC.toArray 201 (0, 0)) := by
  obtain ⟨cs, fuel, p, hh, hd⟩ := heap_of_var (g := 4) (zero := #[.int .u8 0, .string ⟨#[]⟩, .int .u8 0, .string ⟨#[]⟩, .int .u8 0, .string ⟨#[]⟩, .int .u8 0, .string ⟨#[]⟩]) (t := 201) hs (by decide) (by kernel_rfl) (by kernel_rfl) (by kernel_rfl) (Lib.laidMet.reads h h1)
  have e : cs.toList = (Ps.aggs.map fun o => [Value.int .u8 o.1, .string ⟨o.2.toArray⟩]).flatten := by
    refine row_of (sz := 2) (k := 4) Tryz.underlying201 cells_aggregate (by kernel_rfl) (by decide) rfl rfl hd fun i h1 h2 m c y ht hy => ?_
    match i, h1, h2 with
    | 0, _, _ => exact chunk_agg ht hy
    | 1, _, _ => exact chunk_agg ht hy
    | 2, _, _ => exact chunk_agg ht hy
    | 3, _, _ => exact chunk_agg ht hy
    | n + 4, h1, _ => exact absurd h1 (by simp [Ps.aggs])
  rw [hh, show cs = aggsC.toArray from by rw [show aggsC = cs.toList from e.symm]]
theorem kinds_laid {W : World} {L : List (String × DataW Unit)} (h : laidMet Tryz.prog L W) (hs : W.ShapedOpen Tryz.prog) (h1 : ("stagepost/parser.kinds", Rows.laid_stagepost_parser_kinds) ∈ L) : W.heap[6]? = some (.cells kindsC.toArray 228 (0, 0)) := by
  obtain ⟨cs, fuel, p, hh, hd⟩ := heap_of_var (g := 6) (zero := #[.int .u8 0, .string ⟨#[]⟩, .int .u8 0, .string ⟨#[]⟩, .int .u8 0, .string ⟨#[]⟩]) (t := 228) hs (by decide) (by kernel_rfl) (by kernel_rfl) (by kernel_rfl) (Lib.laidMet.reads h h1)
  have e : cs.toList = (kindL.map fun o => [Value.int .u8 o.1, .string ⟨o.2.toArray⟩]).flatten := by
    refine row_of (sz := 2) (k := 3) Tryz.underlying228 cells_kindWord (by kernel_rfl) (by decide) rfl rfl hd fun i h1 h2 m c y ht hy => ?_
    match i, h1, h2 with
    | 0, _, _ => exact chunk_kind ht hy
    | 1, _, _ => exact chunk_kind ht hy
    | 2, _, _ => exact chunk_kind ht hy
    | n + 3, h1, _ => exact absurd h1 (by simp [kindL])
  rw [hh, show cs = kindsC.toArray from by rw [show kindsC = cs.toList from e.symm]]
/-- The tables, and that they lie below. -/
theorem pstab_of {W : World} {L : List (String × DataW Unit)} (h : laidMet Tryz.prog L W) (hs : W.ShapedOpen Tryz.prog) (h1 : ("stagepost/parser.operations", Rows.laid_stagepost_parser_operations) ∈ L) (h2 : ("stagepost/parser.aggregates", Rows.laid_stagepost_parser_aggregates) ∈ L) (h3 : ("stagepost/parser.kinds", Rows.laid_stagepost_parser_kinds) ∈ L) : PsTab W ∧ tabB ≤ W.heap.size := by
  refine ⟨⟨ops_laid h hs h1, aggs_laid h hs h2, kinds_laid h hs h3⟩, ?_⟩
  obtain ⟨o, _, ho, _⟩ := hs.2 ((begin Tryz.prog (fun _ _ => 0) default).world.heap.size - 1) (Nat.le_of_ble_eq_true (by kernel_rfl)) (Nat.lt_of_lt_of_le (Nat.sub_lt (Nat.lt_of_lt_of_le (by decide : 0 < 1) (Nat.le_of_ble_eq_true (by kernel_rfl))) (by decide)) (Nat.le_refl _))
  have hlt := (Array.getElem?_eq_some_iff.1 ho).1
  have hb : tabB ≤ (begin Tryz.prog (fun _ _ => 0) default).world.heap.size - 1 := Nat.le_of_ble_eq_true (by kernel_rfl)
  omega
theorem tabIs_of_reads {W : World} {name : String} {k : IntKind} {zs : List Int} {g : Nat} {t e : TypeId} {n : Nat} (hg : Tryz.prog.globalNamed name = some g) (hty : (Tryz.prog.globals[g]?).map (·.type) = some t) (ht : Tryz.prog.underlying t = some (.array n e)) (he : Tryz.prog.underlying e = some (.int k)) (hce : Tryz.prog.cellsOf e = 1) (hct : Tryz.prog.cellsOf t = n) (h : Lib.VarReads Tryz.prog W name (Lib.tabData k zs)) : Lib.TabIs Tryz.prog W name k zs := by
  obtain ⟨g', t', cs, fuel, p, hg', ht', hvar, hd⟩ := h
  obtain rfl := Option.some.inj (hg.symm.trans hg')
  obtain rfl := Option.some.inj (hty.symm.trans ht')
  unfold Lib.TabIs
  rw [hvar, ← Lib.cells_of_tab ht he hce hct hd]
theorem tabs14_of {W : World} {L : List (String × DataW Unit)} (h : laidMet Tryz.prog L W) (hs : W.ShapedOpen Tryz.prog) (h1 : ("unicode/utf8.first", Rows.laid_unicode_utf8_first) ∈ L) (h2 : ("unicode/utf8.acceptRanges", Rows.laid_unicode_utf8_acceptRanges) ∈ L) (h3 : ("internal/strconv.uint64pow10", Rows.laid_internal_strconv_uint64pow10) ∈ L) : Tabs W := by
  refine ⟨?_, ?_, ?_⟩
  · rw [pow_is] at h3
    exact tabIs_of_reads (g := 7) (by kernel_rfl) (by kernel_rfl) Tryz.underlying232 Tryz.underlying58 (by kernel_rfl) (by kernel_rfl) (Lib.laidMet.reads h h3)
  · have h3 := Lib.laidMet.reads h (n := "unicode/utf8.first") (d := Lib.firstData) (by rw [← first_is]; exact h1)
    have h4 := Lib.laidMet.reads h (n := "unicode/utf8.acceptRanges") (d := Lib.acceptData) (by rw [← accept_is]; exact h2)
    exact utf8Tabs_of_readsT (U8Types.of196 Tryz.lays196) u8extra h3 h4
  · exact cell_of_shapedOpen_int (t := 3) (zero := #[.int .i64 0]) hs (by decide) (by kernel_rfl) (by kernel_rfl) (by kernel_rfl) (by kernel_rfl) Tryz.underlying3
theorem ints_in {H : Type} {enc : TypeId × Value → H} {W : World} {a : Option Addr} {len cap : Nat} {d : DataW H} {p : List MemPlace} (hk : DataW.Trod enc Tryz.prog W 0 (fun _ => true) true 64 (.slice a len cap) d p) :
    ∃ l : List Int, len = l.length ∧ IntsAtP W a l ∧ l.length ≤ maxLen := by
  obtain ⟨fuel, hf⟩ := hk
  rcases open_ints Tryz.underlying64 Tryz.underlying3 (by kernel_rfl) hf with ⟨hcs, _⟩ | ⟨ad, len', cap', zs, hcs, _, hl, hm, hz, _, hcell, _⟩
  · simp [Value.cells] at hcs
    obtain ⟨rfl, rfl, rfl⟩ := hcs
    exact ⟨[], rfl, fun h => absurd rfl h, Nat.zero_le _⟩
  · simp [Value.cells] at hcs
    obtain ⟨rfl, rfl, rfl⟩ := hcs
    simp only [if_true] at hz
    have hlen : (zs.take len).length = len := by simp; omega
    refine ⟨zs.take len, hlen.symm, fun h0 => ?_, by omega⟩
    have hlen0 : 0 < len := by
      rcases Nat.eq_zero_or_pos len with h | h
      · subst h; exact absurd (by simp) h0
      · exact h
    obtain ⟨b, off, spot⟩ := ad
    have hc0 := hcell 0 (by omega)
    have hspot : spot = none := by simpa [Addr.add] using World.cell?_spot hc0
    subst hspot
    refine ⟨b, off, rfl, fun j hj => ?_⟩
    have hj' : j < zs.length := by omega
    have hcj := hcell j hj'
    rw [show (⟨b, off, none⟩ : Addr).add j = ⟨b, off + j, none⟩ from by unfold Addr.add; split <;> simp_all] at hcj
    rw [hcj]
    simp [List.getD_eq_getElem?_getD, List.getElem?_eq_getElem hj']
end Go.Proofs.YtedamaccflhmfaaGreatDoor
