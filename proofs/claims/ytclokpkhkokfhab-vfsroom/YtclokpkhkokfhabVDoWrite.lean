/-
  A raw step that is a write.
-/
import Derived.Test.YtclokpkhkokfhabVDoName
namespace Go.Proofs.Ytclokpkhkokfhab
open Go.RowKit Go.Maps

/-- Bytes put behind a file's bytes, and the file's block told of it. -/
theorem RepAt.turnRow {W : World} {b bf bh bd : Nat} {pv : Value} {fs : Nat → Option Nat} {sl : Nat → Value} {σ : Vf.St} {S : Nat → Prop} (h : RepAt W b bf bh bd pv fs sl σ S) {n gx : Nat} {x : Vf.File} (hn : fs n = some gx) (hx : σ.files n = some x) {w4 : World} {g4 cap4 L4 : Nat} {p : Vf.Bs} (e4 : Ext 0 W (sl n) w4 (.slice (some ⟨g4, 0, none⟩) L4 cap4) (x.bytes ++ p)) (_ : L4 = (x.bytes ++ p).length) :
    RepAt (w4.setCell ⟨gx, 0, none⟩ (.slice (some ⟨g4, 0, none⟩) L4 cap4)) b bf bh bd pv fs (fun k => if k = n then .slice (some ⟨g4, 0, none⟩) L4 cap4 else sl k) { σ with files := Vf.setF σ.files n (some { x with bytes := x.bytes ++ p }) } (fun i => S i ∨ i = g4) := by
  have hn0 : fs n ≠ none := by rw [hn]; simp
  have hzs : (w4.setCell ⟨gx, 0, none⟩ (.slice (some ⟨g4, 0, none⟩) L4 cap4)).heap.size = w4.heap.size := by simp [World.setCell]
  have hz := e4.grown.size
  have hlt : g4 < w4.heap.size := by
    have := e4.own.lt g4 rfl
    exact this.2
  have nrow : ∀ i, kindAt W i ≠ some (some 5) → some i ≠ (sl n).ownBlock := fun i hi e => hi (h.kr hn0 e.symm)
  have ho : ∀ i, i < W.heap.size → i ≠ gx → some i ≠ (sl n).ownBlock → (w4.setCell ⟨gx, 0, none⟩ (.slice (some ⟨g4, 0, none⟩) L4 cap4)).heap[i]? = W.heap[i]? := fun i hi h1 h2 => (Below.heap_setCell w4 ⟨gx, 0, none⟩ _ i h1).trans (e4.grown.block i hi h2)
  have kg := h.kg hn
  have hgb : w4.heap[gx]? = some (.cells #[sl n, .int .i64 (x.synced : Int)] 67 (0, 0)) := (e4.grown.block gx (h.low _ (h.sg n gx hn)) (nrow gx (by rw [kg]; decide))).trans (h.file n gx x hn hx).1
  have g4g : g4 ≠ gx := by
    intro e
    have := row_kind e4.own (g := g4) rfl
    rw [e, kind_cells hgb] at this
    revert this; decide
  have hrow : ∀ k r, fs k ≠ none → (if k = n then Value.slice (some ⟨g4, 0, none⟩) L4 cap4 else sl k).ownBlock = some r → (k = n ∧ r = g4) ∨ (k ≠ n ∧ (sl k).ownBlock = some r) := fun k r _ h1 => by
    by_cases e : k = n
    · simp [e, Value.ownBlock] at h1; exact .inl ⟨e, h1.symm⟩
    · simp [e] at h1; exact .inr ⟨e, h1⟩
  have lies : (sl n).ownBlock = some g4 ∨ W.heap.size ≤ g4 := by
    rcases e4.lies with e | ⟨g, e, hg⟩
    · exact .inl e.symm
    · have : g4 = g := by simpa [Value.ownBlock] using e
      exact .inr (by omega)
  refine ⟨(ho b (h.low _ h.sb) (ne_kind h.kb kg (by decide)) (nrow b (by rw [h.kb]; decide))).trans h.blk, h.files.same (ho _ h.files.lt (ne_kind h.files.kind kg (by simp)) (nrow _ (by rw [h.files.kind]; simp))), h.held.same (ho _ h.held.lt (ne_kind h.held.kind kg (by simp)) (nrow _ (by rw [h.held.kind]; simp))), h.dur.same (ho _ h.dur.lt (ne_kind h.dur.kind kg (by simp)) (nrow _ (by rw [h.dur.kind]; simp))),
    ownsRow_same h.pend fun r hr => ho r (h.low _ (h.sp r hr)) (ne_kind (h.kp hr) kg (by decide)) (nrow _ (by rw [h.kp hr]; decide)), fun k => ?_,
    fun k r y hk hy => ?_, h.inj, fun k k' r h1 h2 h3 h4 => ?_, h.fh, h.fd, h.hd, .inl h.sb, .inl h.sf, .inl h.sh, .inl h.sd, fun g hg => .inl (h.sp g hg), fun k g hk => .inl (h.sg k g hk), fun k r h1 h2 => ?_, fun i hi => ?_⟩
  · show (fs k).isSome = (Vf.setF σ.files n (some { x with bytes := x.bytes ++ p }) k).isSome
    unfold Vf.setF
    by_cases e : k = n
    · subst e; simp [hn]
    · simp [e, h.dom k]
  · simp only [Vf.setF] at hy
    by_cases e : k = n
    · subst e
      simp at hy
      subst hy
      rw [hn] at hk
      cases hk
      refine ⟨?_, ?_⟩
      · rw [Joins.block_setCell hgb]; simp
      · simp only [if_true]
        have ow : w4.ownsRow 0 5 1 (.slice (some ⟨g4, 0, none⟩) L4 cap4) (x.bytes ++ p).length (bc (x.bytes ++ p)) := e4.own
        exact ownsRow_same ow fun q hq => by
          have : q = g4 := by simp [Value.ownBlock] at hq; exact hq.symm
          rw [this]
          exact Below.heap_setCell w4 ⟨gx, 0, none⟩ _ g4 g4g
    · simp [e] at hy ⊢
      have hgr : r ≠ gx := fun e2 => e (h.inj k n gx (by rw [hk, e2]) hn)
      have hk0 : fs k ≠ none := by rw [hk]; simp
      refine ⟨(ho r (h.low _ (h.sg k r hk)) hgr (nrow _ (by rw [h.kg hk]; decide))).trans (h.file k r y hk hy).1, ownsRow_same (h.file k r y hk hy).2 fun q hq => ?_⟩
      exact ho q (h.low _ (h.sr k q hk0 hq)) (ne_kind (h.kr hk0 hq) kg (by decide)) (fun e3 => e (h.rows k n q hk0 hn0 hq e3.symm))
  · rcases hrow k r h1 h3 with ⟨e1, e2⟩ | ⟨e1, e2⟩ <;> rcases hrow k' r h2 h4 with ⟨e3, e5⟩ | ⟨e3, e5⟩
    · rw [e1, e3]
    · exfalso
      rcases lies with l | l
      · rw [e2] at e5; exact e3 (h.rows k' n g4 h2 hn0 e5 l)
      · have := h.low _ (h.sr k' r h2 e5); omega
    · exfalso
      rcases lies with l | l
      · rw [e5] at e2; exact e1 (h.rows k n g4 h1 hn0 e2 l)
      · have := h.low _ (h.sr k r h1 e2); omega
    · exact h.rows k k' r h1 h2 e2 e5
  · rcases hrow k r h1 h2 with ⟨_, e⟩ | ⟨_, e⟩
    · exact .inr e
    · exact .inl (h.sr k r h1 e)
  · rw [hzs]
    rcases hi with hi | hi
    · have := h.low i hi; omega
    · rw [hi]; exact hlt

theorem Box.drew {W : World} {B : Nat} {K : Int} {s : Vf.Step} (h : Box W B K s) : Box W.drew B K s := h.same rfl

theorem Ticked.lent {w W : World} {b bf bh bd : Nat} {pv : Value} {fs : Nat → Option Nat} {sl : Nat → Value} {σ : Vf.St} {S : Nat → Prop} {K : Int} {s : Vf.Step} (h : Ticked w W b bf bh bd pv fs sl σ S K s) {bb off : Nat} {p : Vf.Bs} (hc : ∀ j u, (bc p)[j]? = some u → w.cell? ((⟨bb, off, none⟩ : Addr).add j) = some u) (hbS : ¬ S bb) (hbl : bb < w.heap.size) :
    ∀ j u, (bc p)[j]? = some u → W.drew.cell? ((⟨bb, off, none⟩ : Addr).add j) = some u := fun j u hu => by
  have e : ((⟨bb, off, none⟩ : Addr).add j).block = bb := by unfold Addr.add; split <;> rfl
  rw [← hc j u hu]
  exact World.cell?_of_block (w := w) (w' := W.drew) (by rw [e]; exact h.moved.block bb hbl hbS)
theorem file_cell {W : World} {b bf bh bd : Nat} {pv : Value} {fs : Nat → Option Nat} {sl : Nat → Value} {σ : Vf.St} {S : Nat → Prop} (h : RepAt W b bf bh bd pv fs sl σ S) {n gx : Nat} {x : Vf.File} (hn : fs n = some gx) (hx : σ.files n = some x) : W.cell? ⟨gx, 0, none⟩ = some (sl n) := Joins.cell_of_block (h.file n gx x hn hx).1 0

theorem Box.row {W w4 : World} {b bf bh bd : Nat} {pv : Value} {fs : Nat → Option Nat} {sl : Nat → Value} {σ : Vf.St} {S : Nat → Prop} {B : Nat} {K : Int} {s : Vf.Step} (hx : Box W B K s) (h : RepAt W b bf bh bd pv fs sl σ S) {n gx : Nat} (hn : fs n = some gx) (hB : ¬ S B) (g : W.grownBy w4 (sl n).ownBlock) (u : Value) : Box (w4.setCell ⟨gx, 0, none⟩ u) B K s :=
  hx.same ((Below.heap_setCell w4 ⟨gx, 0, none⟩ u B (fun e => hB (by have e' : B = gx := e; rw [e']; exact h.sg n gx hn))).trans (g.block B hx.lt (fun e => hB (h.sr n B (by rw [hn]; simp) e.symm))))

section
variable {W w4 : World} {b bf bh bd : Nat} {pv : Value} {fs : Nat → Option Nat} {sl : Nat → Value} {σ : Vf.St} {S : Nat → Prop} {n gx : Nat} {x : Vf.File}
theorem row_cell (h : RepAt W b bf bh bd pv fs sl σ S) (hn : fs n = some gx) (hx : σ.files n = some x) (g : W.grownBy w4 (sl n).ownBlock) : w4.cell? ⟨gx, 0, none⟩ = some (sl n) := by
  have hn0 : fs n ≠ none := by rw [hn]; simp
  exact Joins.cell_of_block ((g.block gx (h.low _ (h.sg n gx hn)) (fun e => ne_kind (h.kg hn) (h.kr hn0 e.symm) (by decide) rfl)).trans (h.file n gx x hn hx).1) 0
theorem row_unfrozen (h : RepAt W b bf bh bd pv fs sl σ S) (hn : fs n = some gx) (hx : σ.files n = some x) (g : W.grownBy w4 (sl n).ownBlock) : w4.frozen? ⟨gx, 0, none⟩ = false := by
  have hn0 : fs n ≠ none := by rw [hn]; simp
  exact Joins.unfrozen_of_block ((g.block gx (h.low _ (h.sg n gx hn)) (fun e => ne_kind (h.kg hn) (h.kr hn0 e.symm) (by decide) rfl)).trans (h.file n gx x hn hx).1) 0
theorem row_blk (h : RepAt W b bf bh bd pv fs sl σ S) (hn : fs n = some gx) (g : W.grownBy w4 (sl n).ownBlock) (u : Value) : (w4.setCell ⟨gx, 0, none⟩ u).heap[b]? = some (.cells (fsCells σ bf bh bd pv) 48 (0, 0)) := by
  have hn0 : fs n ≠ none := by rw [hn]; simp
  exact ((Below.heap_setCell w4 ⟨gx, 0, none⟩ u b (ne_kind h.kb (h.kg hn) (by decide))).trans (g.block b (h.low _ h.sb) (fun e => ne_kind h.kb (h.kr hn0 e.symm) (by decide) rfl))).trans h.blk
theorem row_own (h : RepAt W b bf bh bd pv fs sl σ S) (hn : fs n = some gx) (_ : σ.files n = some x) (g : W.grownBy w4 (sl n).ownBlock) (_ : Nat) : ∀ u, (w4.setCell ⟨gx, 0, none⟩ u).cell? ⟨b, 1, none⟩ = some (.int .i64 σ.used) := fun u => Joins.cell_of_block (row_blk h hn g u) 1
theorem row_ownf (h : RepAt W b bf bh bd pv fs sl σ S) (hn : fs n = some gx) (_ : σ.files n = some x) (g : W.grownBy w4 (sl n).ownBlock) (_ : Nat) : ∀ u, (w4.setCell ⟨gx, 0, none⟩ u).frozen? ⟨b, 1, none⟩ = false := fun u => Joins.unfrozen_of_block (row_blk h hn g u) 1
end

set_option maxHeartbeats 2000000 in
theorem do_write (w : World) (b bf bh bd : Nat) (pv : Value) (fs : Nat → Option Nat) (sl : Nat → Value) (σ : Vf.St) (S : Nat → Prop) (h : RepAt w b bf bh bd pv fs sl σ S) (s : Vf.Step) (hk0 : s.kind = 0) (h0 : σ.fuse ≠ 0) (ok : DoOk σ) (hp : σ.pending.length ≤ 1000000000) (so : StepOk s) (x : Vf.File) (hx : σ.files s.file = some x)
    (bb off k c : Nat) (p : Vf.Bs) (hk : k = p.length) (hpos : 0 < p.length) (hc : ∀ j u, (bc p)[j]? = some u → w.cell? ((⟨bb, off, none⟩ : Addr).add j) = some u) (hbS : ¬ S bb) (hbl : bb < w.heap.size) (hroom : x.bytes.length + p.length ≤ 140737488355328) (U : Int) (HU : Hid (U = σ.used)) (hu : -1000000000000000000 ≤ U ∧ U ≤ 1000000000000000000) :
    Calls Try.prog 20 #[.pointer (some ⟨b, 0, none⟩), sv s, .slice (some ⟨bb, off, none⟩) k c] w fun e w' => e = .returned (.int .i64 0) ∧ Rep w' b (Vf.pend { Vf.tick σ with files := Vf.setF σ.files s.file (some { x with bytes := x.bytes ++ p }), used := U + (k : Int) } s) (grow S w w') ∧ Moved S w w' := by
  obtain ⟨gx, hgx⟩ : ∃ g, fs s.file = some g := by have := h.dom s.file; rw [hx] at this; exact Option.isSome_iff_exists.1 this
  have HX : Hid (σ.files s.file = some x) := hx
  clear hx
  obtain ⟨u1, u2⟩ := hu
  have hf9 : s.file ≤ 1000000000 := so.file
  have LOW := h.low
  have kle : (k : Int) ≤ 140737488355328 := by omega
  have HKK : Hid (k = p.length) := hk
  clear hk
  have h1 := h.alloc (bx s)
  have c3 := h1.cells.2.2.2.1
  have c4 := h1.cells.2.2.2.2.1
  have f3 := h1.unfrozen 3
  have f4 := h1.unfrozen 4
  have q0 : (σ.fuse == 0) = false := by simpa using h0
  have TK := ticked h s
  obtain ⟨⟨fl, fu⟩, hst⟩ := ok
  unfold tickW at TK
  obtain ⟨K, hK⟩ : ∃ K : Int, K = (s.kind : Int) := ⟨_, rfl⟩
  have k0 : (K == 0) = true := by rw [hK, hk0]; rfl
  have HK : Hid (K = (s.kind : Int)) := hK
  unfold bx at TK c3 c4 f3 f4
  unfold sv
  rw [← hK] at TK c3 c4 f3 f4 ⊢
  clear h h1 h0 hk0 hK so
  obtain ⟨fz, hfz⟩ : ∃ z, z = σ.fuse := ⟨_, rfl⟩
  obtain ⟨sz, hsz⟩ : ∃ z, z = σ.steps := ⟨_, rfl⟩
  rw [← hfz] at TK c3 q0 fl fu
  rw [← hsz] at TK c4 hst
  clear hfz hsz
  by_cases e : fz = -1
  · have q1 : (fz != -1) = false := by simp [e]
    rw [if_pos e] at TK
    clear e
    have H2 := TK.rep.drew
    have X2 := TK.box.drew
    have M2 := TK.moved.drew
    have L2 := H2.files.look s.file (by omega)
    rw [ptr_some hgx] at L2
    have x5 := TK.rep.cells.2.2.2.2.2.1
    have x1 := TK.box.c1
    have OWN := (H2.file s.file gx x hgx HX.out).2
    have d0 := file_cell TK.rep hgx HX.out
    have hcB := TK.lent hc hbS hbl
    have NXW := TK.new
    have LW : Hid (∀ i, S i → i < w.heap.size) := LOW
    obtain ⟨V, hV⟩ : ∃ V, V = sl s.file := ⟨_, rfl⟩
    rw [← hV] at OWN d0
    have HV : Hid _ := hV
    clear hV
    go_enter Try.func20, Try.ntmps20
    go_wp2_with (fail)
    go_region
    go_wp2_with (at_builtin; refine wpList_append_bytes _ rfl _ _ rfl 0 V x.bytes p rfl OWN ⟨bb, off, none⟩ k c rfl HKK.out hcB hpos hroom (Nat.zero_le _) ?_; intro g4 cap4 L4 w4 HL4 e4 lt4; rw [HV.out] at e4; have H4 := H2.turnRow hgx HX.out e4 HL4.out; have t0 := row_cell H2 hgx HX.out e4.grown; rw [← HV.out] at t0; have t1 := row_unfrozen H2 hgx HX.out e4.grown; have t2 : ∀ u, (w4.setCell ⟨gx, 0, none⟩ u).cell? ⟨b, 1, none⟩ = some (.int .i64 U) := (by have t := row_own H2 hgx HX.out e4.grown gx; rw [show (Vf.tick σ).used = U from HU.out.symm] at t; exact t); have t3 := row_ownf H2 hgx HX.out e4.grown gx)
    have H6 := H4.field 1 (.int .i64 (U + (k : Int))) { Vf.tick σ with files := Vf.setF σ.files s.file (some { x with bytes := x.bytes ++ p }), used := U + (k : Int) } rfl rfl rfl rfl rfl (Nat.le_refl _)
    have hz4 := e4.grown.size
    have X6 := (X2.row H2 hgx NXW e4.grown (.slice (some ⟨g4, 0, none⟩) L4 cap4)).same (Below.heap_setCell (w4.setCell ⟨gx, 0, none⟩ (.slice (some ⟨g4, 0, none⟩) L4 cap4)) ⟨b, 1, none⟩ (.int .i64 (U + (k : Int))) w.heap.size (fun e => NXW (by have e' : w.heap.size = b := e; rw [e']; exact H2.sb)))
    have M6 : Hid _ := ((M2.grown e4.grown (fun q e _ => H2.sr s.file q (by rw [hgx]; simp) e)).setCell (p := ⟨gx, 0, none⟩) (fun _ => H2.sg s.file gx hgx) (.slice (some ⟨g4, 0, none⟩) L4 cap4)).setCell (p := ⟨b, 1, none⟩) (fun _ => H2.sb) (.int .i64 (U + (k : Int)))
    have Q4 : Hid (S g4 ∨ w.heap.size + 1 ≤ g4) := by
      rcases e4.lies with e | ⟨q, e, hq⟩
      · exact .inl (H2.sr s.file g4 (by rw [hgx]; simp) e.symm)
      · refine .inr ?_
        have e' : g4 = q := by simpa [Value.ownBlock] using e
        have hq' : _ ≤ q := hq
        have := TK.size
        rw [World.size_drew] at hq'
        omega
    have NEW : Hid (¬ (S w.heap.size ∨ w.heap.size = g4)) := fun hh => by
      rcases hh with hh | hh
      · exact NXW hh
      · rcases Q4.out with q | q
        · exact NXW (by rw [hh]; exact q)
        · omega
    generalize hW6 : (w4.setCell ⟨gx, 0, none⟩ (.slice (some ⟨g4, 0, none⟩) L4 cap4)).setCell ⟨b, 1, none⟩ (.int .i64 (U + (k : Int))) = W6 at H6 X6 M6 ⊢
    have WS : Hid (∀ i, (S i ∨ i = g4) → grow S w W6 i) := fun i hi => by
      rcases hi with hi | hi
      · exact .inl hi
      · rcases Q4.out with q | q
        · exact .inl (by rw [hi]; exact q)
        · exact .inr ⟨by omega, H6.low i (.inr hi)⟩
    clear hW6 t0 t1 t2 t3 e4 H4 L2 x5 x1 d0 OWN hcB c3 c4 f3 f4
    have HG := H6.wide (T := grow S w W6) (fun i hi => WS.out i hi) (fun i hi => by rcases hi with hi | hi; exact H6.low i (.inl hi); exact hi.2)
    obtain ⟨z8, z0, z1, z2, z3, z4⟩ := cells6 (H6.cells.2.2.2.2.2.2.2.2) X6
    obtain ⟨y8, y0, y1, y2, y3, y4⟩ := cells6_alloc (.cells #[.int .i64 K, .int .i64 (s.file : Int), .int .i64 (s.size : Int), str s.name, str s.to] 55) (H6.cells.2.2.2.2.2.2.2.2) X6
    have OW : (W6.alloc (.cells #[.int .i64 K, .int .i64 (s.file : Int), .int .i64 (s.size : Int), str s.name, str s.to] 55)).drew.ownsRow 0 55 5 pv σ.pending.length (scs σ.pending) := (H6.pend.alloc _).drew
    have HB := pend_box (W := W6) (s := s) HK.out
    have MW : Hid _ := M6.out
    have HH : Hid _ := H6
    have XX : Hid _ := X6
    go_region_law (refine step_pend _ (by rfl) _ _ (by rfl) pv σ.pending s (by rfl) OW W6.heap.size 1 (by rfl) HB hp ?_; intro g4 cap4 n4 w4 HN4 o4 gr4 hl4 lt4; have P4 := cells6_grown HH.out XX.out NEW.out gr4; have f8 := unfrozen8 HH.out gr4; obtain ⟨p8, p0, p1, p2, p3, p4⟩ := P4)
    all_goals
      go_wp2_with (fail)
      go_ret
      obtain ⟨F1, F2⟩ := put_end HG MW.out MW.out.size (grownBy_undrew' gr4) HN4.out o4 hl4.out lt4
      exact ⟨rfl, F1, F2⟩
  · have q1 : (fz != -1) = true := by simp [e]
    rw [if_neg e] at TK
    have H2 := TK.rep.drew
    have X2 := TK.box.drew
    have M2 := TK.moved.drew
    have L2 := H2.files.look s.file (by omega)
    rw [ptr_some hgx] at L2
    have x5 := TK.rep.cells.2.2.2.2.2.1
    have x1 := TK.box.c1
    have OWN := (H2.file s.file gx x hgx HX.out).2
    have d0 := file_cell TK.rep hgx HX.out
    have hcB := TK.lent hc hbS hbl
    have NXW := TK.new
    have LW : Hid (∀ i, S i → i < w.heap.size) := LOW
    obtain ⟨V, hV⟩ : ∃ V, V = sl s.file := ⟨_, rfl⟩
    rw [← hV] at OWN d0
    have HV : Hid _ := hV
    clear hV
    go_enter Try.func20, Try.ntmps20
    go_wp2_with (fail)
    go_region
    go_wp2_with (at_builtin; refine wpList_append_bytes _ rfl _ _ rfl 0 V x.bytes p rfl OWN ⟨bb, off, none⟩ k c rfl HKK.out hcB hpos hroom (Nat.zero_le _) ?_; intro g4 cap4 L4 w4 HL4 e4 lt4; rw [HV.out] at e4; have H4 := H2.turnRow hgx HX.out e4 HL4.out; have t0 := row_cell H2 hgx HX.out e4.grown; rw [← HV.out] at t0; have t1 := row_unfrozen H2 hgx HX.out e4.grown; have t2 : ∀ u, (w4.setCell ⟨gx, 0, none⟩ u).cell? ⟨b, 1, none⟩ = some (.int .i64 U) := (by have t := row_own H2 hgx HX.out e4.grown gx; rw [show (Vf.tick σ).used = U from HU.out.symm] at t; exact t); have t3 := row_ownf H2 hgx HX.out e4.grown gx)
    have H6 := H4.field 1 (.int .i64 (U + (k : Int))) { Vf.tick σ with files := Vf.setF σ.files s.file (some { x with bytes := x.bytes ++ p }), used := U + (k : Int) } rfl rfl rfl rfl rfl (Nat.le_refl _)
    have hz4 := e4.grown.size
    have X6 := (X2.row H2 hgx NXW e4.grown (.slice (some ⟨g4, 0, none⟩) L4 cap4)).same (Below.heap_setCell (w4.setCell ⟨gx, 0, none⟩ (.slice (some ⟨g4, 0, none⟩) L4 cap4)) ⟨b, 1, none⟩ (.int .i64 (U + (k : Int))) w.heap.size (fun e => NXW (by have e' : w.heap.size = b := e; rw [e']; exact H2.sb)))
    have M6 : Hid _ := ((M2.grown e4.grown (fun q e _ => H2.sr s.file q (by rw [hgx]; simp) e)).setCell (p := ⟨gx, 0, none⟩) (fun _ => H2.sg s.file gx hgx) (.slice (some ⟨g4, 0, none⟩) L4 cap4)).setCell (p := ⟨b, 1, none⟩) (fun _ => H2.sb) (.int .i64 (U + (k : Int)))
    have Q4 : Hid (S g4 ∨ w.heap.size + 1 ≤ g4) := by
      rcases e4.lies with e | ⟨q, e, hq⟩
      · exact .inl (H2.sr s.file g4 (by rw [hgx]; simp) e.symm)
      · refine .inr ?_
        have e' : g4 = q := by simpa [Value.ownBlock] using e
        have hq' : _ ≤ q := hq
        have := TK.size
        rw [World.size_drew] at hq'
        omega
    have NEW : Hid (¬ (S w.heap.size ∨ w.heap.size = g4)) := fun hh => by
      rcases hh with hh | hh
      · exact NXW hh
      · rcases Q4.out with q | q
        · exact NXW (by rw [hh]; exact q)
        · omega
    generalize hW6 : (w4.setCell ⟨gx, 0, none⟩ (.slice (some ⟨g4, 0, none⟩) L4 cap4)).setCell ⟨b, 1, none⟩ (.int .i64 (U + (k : Int))) = W6 at H6 X6 M6 ⊢
    have WS : Hid (∀ i, (S i ∨ i = g4) → grow S w W6 i) := fun i hi => by
      rcases hi with hi | hi
      · exact .inl hi
      · rcases Q4.out with q | q
        · exact .inl (by rw [hi]; exact q)
        · exact .inr ⟨by omega, H6.low i (.inr hi)⟩
    clear hW6 t0 t1 t2 t3 e4 H4 L2 x5 x1 d0 OWN hcB c3 c4 f3 f4
    have HG := H6.wide (T := grow S w W6) (fun i hi => WS.out i hi) (fun i hi => by rcases hi with hi | hi; exact H6.low i (.inl hi); exact hi.2)
    obtain ⟨z8, z0, z1, z2, z3, z4⟩ := cells6 (H6.cells.2.2.2.2.2.2.2.2) X6
    obtain ⟨y8, y0, y1, y2, y3, y4⟩ := cells6_alloc (.cells #[.int .i64 K, .int .i64 (s.file : Int), .int .i64 (s.size : Int), str s.name, str s.to] 55) (H6.cells.2.2.2.2.2.2.2.2) X6
    have OW : (W6.alloc (.cells #[.int .i64 K, .int .i64 (s.file : Int), .int .i64 (s.size : Int), str s.name, str s.to] 55)).drew.ownsRow 0 55 5 pv σ.pending.length (scs σ.pending) := (H6.pend.alloc _).drew
    have HB := pend_box (W := W6) (s := s) HK.out
    have MW : Hid _ := M6.out
    have HH : Hid _ := H6
    have XX : Hid _ := X6
    go_region_law (refine step_pend _ (by rfl) _ _ (by rfl) pv σ.pending s (by rfl) OW W6.heap.size 1 (by rfl) HB hp ?_; intro g4 cap4 n4 w4 HN4 o4 gr4 hl4 lt4; have P4 := cells6_grown HH.out XX.out NEW.out gr4; have f8 := unfrozen8 HH.out gr4; obtain ⟨p8, p0, p1, p2, p3, p4⟩ := P4)
    all_goals
      go_wp2_with (fail)
      go_ret
      obtain ⟨F1, F2⟩ := put_end HG MW.out MW.out.size (grownBy_undrew' gr4) HN4.out o4 hl4.out lt4
      exact ⟨rfl, F1, F2⟩
end Go.Proofs.Ytclokpkhkokfhab
