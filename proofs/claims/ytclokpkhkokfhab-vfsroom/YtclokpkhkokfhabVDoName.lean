/-
  A raw step that is a naming.
-/
import Derived.Test.YtclokpkhkokfhabVDoMove
namespace Go.Proofs.Ytclokpkhkokfhab
open Go.RowKit Go.Maps

/-- A file comes. -/
theorem RepAt.addFile {W : World} {b bf bh bd : Nat} {pv : Value} {fs : Nat → Option Nat} {sl : Nat → Value} {σ : Vf.St} {S : Nat → Prop} (h : RepAt W b bf bh bd pv fs sl σ S) (N : Nat) (hN : σ.files N = none) {w5 : World} (g5 : (W.alloc (.cells #[.slice none 0 0, .int .i64 0] 67)).drew.grownBy w5 (some bf)) (p5 : PtrsAt w5 bf σ.steps (setG fs N (some W.heap.size))) :
    RepAt w5 b bf bh bd pv (setG fs N (some W.heap.size)) (fun k => if k = N then .slice none 0 0 else sl k) { σ with files := Vf.setF σ.files N (some ⟨[], 0⟩) } (fun i => S i ∨ i = W.heap.size) := by
  have hz := g5.size
  have hz' : W.heap.size + 1 ≤ w5.heap.size := by have e : (W.alloc (.cells #[.slice none 0 0, .int .i64 0] 67)).drew.heap.size = W.heap.size + 1 := World.size_alloc _ _; omega
  have ho : ∀ i, i < W.heap.size → i ≠ bf → w5.heap[i]? = W.heap[i]? := fun i hi hne => (g5.block i (by show i < (W.alloc _).heap.size; simp; omega) (by simp; exact hne)).trans (Below.heap_alloc W _ i hi)
  have hnew : w5.heap[W.heap.size]? = some (.cells #[.slice none 0 0, .int .i64 0] 67 (0, 0)) := (g5.block W.heap.size (by show _ < (W.alloc _).heap.size; simp) (by have := h.files.lt; simp; omega)).trans (new_block W _)
  have hfn : fs N = none := by have := h.dom N; rw [hN] at this; simpa using this
  have hs : ∀ k g, setG fs N (some W.heap.size) k = some g → (k = N ∧ g = W.heap.size) ∨ (k ≠ N ∧ fs k = some g) := fun k g hk => by
    unfold setG at hk
    by_cases e : k = N
    · simp [e] at hk; exact .inl ⟨e, hk.symm⟩
    · simp [e] at hk; exact .inr ⟨e, hk⟩
  have hs' : ∀ k, setG fs N (some W.heap.size) k ≠ none → k ≠ N → fs k ≠ none := fun k hk hne => by simpa [setG, hne] using hk
  refine ⟨(ho b (h.low _ h.sb) (ne_kind h.kb h.files.kind (by simp))).trans h.blk, p5, h.held.same (ho _ h.held.lt h.fh.symm), h.dur.same (ho _ h.dur.lt h.fd.symm),
    ownsRow_same h.pend fun g hg => ho g (h.low _ (h.sp g hg)) (ne_kind (h.kp hg) h.files.kind (by simp)), fun k => ?_,
    fun k g x hk hx => ?_, fun k k' g h1 h2 => ?_, fun k k' g h1 h2 h3 h4 => ?_, h.fh, h.fd, h.hd, .inl h.sb, .inl h.sf, .inl h.sh, .inl h.sd, fun g hg => .inl (h.sp g hg), fun k g hk => ?_, fun k g hk hg => ?_, fun i hi => ?_⟩
  · unfold setG Vf.setF
    by_cases e : k = N
    · simp [e]
    · simp [e, h.dom k]
  · rcases hs k g hk with ⟨rfl, rfl⟩ | ⟨hne, hk'⟩
    · simp [Vf.setF] at hx
      subst hx
      simp
      exact ⟨hnew, World.ownsRow_nil _ _ _ _⟩
    · simp [Vf.setF, hne] at hx
      simp [hne]
      refine ⟨(ho g (h.low _ (h.sg k g hk')) (ne_kind (h.kg hk') h.files.kind (by simp))).trans (h.file k g x hk' hx).1, ownsRow_same (h.file k g x hk' hx).2 fun r hr => ?_⟩
      have hne0 : fs k ≠ none := by rw [hk']; simp
      exact ho r (h.low _ (h.sr k r hne0 hr)) (ne_kind (h.kr hne0 hr) h.files.kind (by simp))
  · rcases hs k g h1 with ⟨rfl, rfl⟩ | ⟨n1, e1⟩ <;> rcases hs k' _ h2 with ⟨e3, e4⟩ | ⟨n2, e2⟩
    · exact e3.symm
    · have := h.low _ (h.sg k' _ e2); omega
    · have := h.low _ (h.sg k _ e1); omega
    · exact h.inj k k' g e1 e2
  · by_cases e1 : k = N
    · simp [e1, Value.ownBlock] at h3
    · by_cases e2 : k' = N
      · simp [e2, Value.ownBlock] at h4
      · simp [e1] at h3
        simp [e2] at h4
        exact h.rows k k' g (hs' k h1 e1) (hs' k' h2 e2) h3 h4
  · rcases hs k g hk with ⟨_, rfl⟩ | ⟨_, e⟩
    · exact .inr rfl
    · exact .inl (h.sg k g e)
  · by_cases e1 : k = N
    · simp [e1, Value.ownBlock] at hg
    · simp [e1] at hg
      exact .inl (h.sr k g (hs' k hk e1) hg)
  · rcases hi with hi | hi
    · have := h.low i hi; omega
    · omega

theorem cells6' {W : World} {b bh : Nat} {B : Nat} {K : Int} {s2 : Vf.Step} (h6 : W.cell? ⟨b, 6, none⟩ = some (.map (some bh))) (hx : Box W B K s2) :
    W.cell? ⟨b, 6, none⟩ = some (.map (some bh)) ∧ W.cell? ⟨B, 0, none⟩ = some (.int .i64 K) ∧ W.cell? ⟨B, 1, none⟩ = some (.int .i64 (s2.file : Int)) ∧ W.cell? ⟨B, 2, none⟩ = some (.int .i64 (s2.size : Int)) ∧ W.cell? ⟨B, 3, none⟩ = some (str s2.name) ∧ W.cell? ⟨B, 4, none⟩ = some (str s2.to) :=
  ⟨h6, hx.c0, hx.c1, hx.c2, hx.c3, hx.c4⟩

theorem tick_files {w : World} {b bf bh bd : Nat} {pv : Value} {fs : Nat → Option Nat} {sl : Nat → Value} {σ : Vf.St} {S : Nat → Prop} (h : RepAt w b bf bh bd pv fs sl σ S) (o : Obj) : PtrsAt (tickW (w.alloc o) b σ) bf σ.steps fs := by
  have h1 := h.alloc o
  have nb : bf ≠ b := ne_kind h1.files.kind h1.kb (by simp)
  unfold tickW
  split
  · exact h1.files.same (Below.heap_setCell _ ⟨b, 4, none⟩ _ bf nb)
  · exact h1.files.same ((Below.heap_setCell _ ⟨b, 4, none⟩ _ bf nb).trans (Below.heap_setCell _ ⟨b, 3, none⟩ _ bf nb))

/-- The file's number is put into the box. -/
theorem Ticked.number {w W : World} {b bf bh bd : Nat} {pv : Value} {fs : Nat → Option Nat} {sl : Nat → Value} {σ : Vf.St} {S : Nat → Prop} {K : Int} {s : Vf.Step} (h : Ticked w W b bf bh bd pv fs sl σ S K s) (hb : W.heap[w.heap.size]? = some (.cells #[.int .i64 K, .int .i64 (s.file : Int), .int .i64 (s.size : Int), str s.name, str s.to] 55 (0, 0))) (s2 : Vf.Step) (N : Nat) (hs : s2 = { s with file := N }) (T1 : Int) (hT : T1 = (N : Int)) :
    Ticked w (W.setCell ⟨w.heap.size, 1, none⟩ (.int .i64 T1)) b bf bh bd pv fs sl σ S K s2 := by
  subst hs hT
  refine ⟨h.rep.same (fun i hi => Below.heap_setCell W ⟨w.heap.size, 1, none⟩ _ i (fun e => h.new (by have e' : i = w.heap.size := e; rw [← e']; exact hi))) (by simp [World.setCell]), h.moved.setCell (fun hlt => absurd hlt (Nat.lt_irrefl _)) _, ?_, by simp [World.setCell]; exact h.size, h.new⟩
  have e := Joins.block_setCell hb (i := 1) (.int .i64 (N : Int))
  exact ⟨Joins.cell_of_block e 0, Joins.cell_of_block e 1, Joins.cell_of_block e 2, Joins.cell_of_block e 3, Joins.cell_of_block e 4⟩

set_option maxHeartbeats 2000000 in
theorem do_name (w : World) (b bf bh bd : Nat) (pv : Value) (fs : Nat → Option Nat) (sl : Nat → Value) (σ : Vf.St) (S : Nat → Prop) (h : RepAt w b bf bh bd pv fs sl σ S) (s : Vf.Step) (hk : s.kind = 1) (v : Value) (h0 : σ.fuse ≠ 0) (ok : DoOk σ) (hp : σ.pending.length ≤ 1000000000) (so : StepOk s) (hM : σ.held.length ≤ 1000000000) (hv : ∀ k, Vf.num σ.held k ≤ 1000000000) (hF : σ.files (σ.steps + 1) = none)
    (s2 : Vf.Step) (hs2 : s2 = { s with file := σ.steps + 1 }) (M' : Vf.Nm) (HM : Hid (M' = Vf.put σ.held s2.name s2.file)) :
    Calls Try.prog 20 #[.pointer (some ⟨b, 0, none⟩), sv s, v] w fun e w' => e = .returned (.int .i64 0) ∧ Rep w' b (Vf.pend { Vf.tick σ with files := Vf.setF σ.files s2.file (some ⟨[], 0⟩), held := M' } s2) (grow S w w') ∧ Moved S w w' := by
  have h1 := h.alloc (bx s)
  have c3 := h1.cells.2.2.2.1
  have c4 := h1.cells.2.2.2.2.1
  have f3 := h1.unfrozen 3
  have f4 := h1.unfrozen 4
  have q0 : (σ.fuse == 0) = false := by simpa using h0
  have TK := ticked h s
  obtain ⟨⟨fl, fu⟩, hst⟩ := ok
  have hbx : (tickW (w.alloc (bx s)) b σ).heap[w.heap.size]? = some (bx s) := ((tick_moved h1).block w.heap.size (by simp) (fun hi => by have := h.low _ hi; omega)).trans (new_block w (bx s))
  have TK3 := TK.number hbx s2 (σ.steps + 1) hs2 ((σ.steps : Int) + 1) rfl
  have F3 : PtrsAt ((tickW (w.alloc (bx s)) b σ).setCell ⟨w.heap.size, 1, none⟩ (.int .i64 ((σ.steps : Int) + 1))) bf σ.steps fs := (tick_files h (bx s)).same (Below.heap_setCell _ ⟨w.heap.size, 1, none⟩ _ bf (by have := h.files.lt; show bf ≠ w.heap.size; omega))
  have hfile : s2.file = σ.steps + 1 := by rw [hs2]
  have so2 : StepOk s2 := by rw [hs2]; exact ⟨so.name, so.to, by show σ.steps + 1 ≤ _; omega, so.size, so.kind⟩
  have hT : (σ.steps : Int) + 1 = (s2.file : Int) := by rw [hfile]; rfl
  have HF : Hid ((Vf.tick σ).files s2.file = none) := by show σ.files s2.file = none; rw [hfile]; exact hF
  have HS2 : Hid ((Vf.tick σ).steps = σ.steps + 1) := rfl
  have hf9 : s2.file ≤ 1000000000 := so2.file
  have HKk : Hid (s2.kind = 1) := by show _ = _; rw [hs2]; exact hk
  obtain ⟨K, hK⟩ : ∃ K : Int, K = (s.kind : Int) := ⟨_, rfl⟩
  have HK2 : Hid (K = (s2.kind : Int)) := by show _ = _; rw [hs2]; exact hK
  have k0 : (K == 0) = false := by rw [hK, hk]; rfl
  have k1 : (K == 1) = true := by rw [hK, hk]; rfl
  have WZ : Hid (∀ i, S i → i < w.heap.size) := h.low
  unfold tickW at TK TK3 F3
  unfold bx at TK TK3 F3 c3 c4 f3 f4
  unfold sv
  rw [← hK] at TK TK3 F3 c3 c4 f3 f4 ⊢
  clear h h1 h0 hk hK so hs2 hbx hF hfile
  obtain ⟨fz, hfz⟩ : ∃ z, z = σ.fuse := ⟨_, rfl⟩
  obtain ⟨sz, hsz⟩ : ∃ z, z = σ.steps := ⟨_, rfl⟩
  rw [← hfz] at TK TK3 F3 c3 q0 fl fu
  rw [← hsz] at TK TK3 F3 c4 hst hT HS2
  clear hfz hsz
  by_cases e : fz = -1
  · have q1 : (fz != -1) = false := by simp [e]
    rw [if_pos e] at TK TK3 F3
    clear e
    go_enter Try.func20, Try.ntmps20
    go_wp2_with (fail)
    generalize hT1 : (sz : Int) + 1 = T1 at TK3 F3 hT ⊢
    clear hT1 TK c3 c4 f3 f4
    subst hT
    generalize hW3 : World.setCell _ ⟨w.heap.size, 1, none⟩ (.int .i64 (s2.file : Int)) = W3 at TK3 F3 ⊢
    clear hW3
    obtain ⟨w5, r5, p5, g5, z5⟩ := ((F3.same (w' := (W3.alloc (.cells #[.slice none 0 0, .int .i64 0] 67)).drew) (Below.heap_alloc W3 _ bf F3.lt))).put s2.file (by omega) W3.heap.size (by omega)
    have H5 := TK3.rep.addFile s2.file HF.out g5 (by rw [HS2.out]; exact p5)
    have X5 : Box w5 w.heap.size K s2 := TK3.box.same ((g5.block w.heap.size (by have := TK3.box.lt; show w.heap.size < (W3.alloc _).heap.size; simp; omega) (fun e => TK3.new (by cases e; exact TK3.rep.sf))).trans (Below.heap_alloc W3 _ _ TK3.box.lt))
    have y5 : (W3.alloc (.cells #[.slice none 0 0, .int .i64 0] 67)).cell? ⟨b, 5, none⟩ = some (.map (some bf)) := keepC ((Below.refl _ _).alloc (Nat.le_refl _) _) (TK3.rep.cells.2.2.2.2.2.1)
    have y1 : (W3.alloc (.cells #[.slice none 0 0, .int .i64 0] 67)).cell? ⟨w.heap.size, 1, none⟩ = some (.int .i64 (s2.file : Int)) := keepC ((Below.refl _ _).alloc (Nat.le_refl _) _) TK3.box.c1
    have x5 : W3.cell? ⟨b, 5, none⟩ = some (.map (some bf)) := TK3.rep.cells.2.2.2.2.2.1
    have x1 : W3.cell? ⟨w.heap.size, 1, none⟩ = some (.int .i64 (s2.file : Int)) := TK3.box.c1
    have M5 : Moved S w w5 := ((TK3.moved.alloc _).drew).grown g5 (fun k e _ => by cases e; exact TK3.rep.sf)
    have NEW : Hid (¬ (S w.heap.size ∨ w.heap.size = W3.heap.size)) := fun hh => by
      rcases hh with hh | hh
      · exact TK3.new hh
      · have := TK3.size; omega
    have Z3 : Hid (w.heap.size ≤ W3.heap.size) := by have := TK3.size; show _ ≤ _; omega
    have SH : Hid (S bh) := TK3.rep.sh
    have Z5 : Hid _ := z5
    clear z5 F3 p5
    go_region
    clear r5 y5 y1 x5 x1
    have R1 := ren_any w5.drew bh σ.held s2 so2 H5.drew.held hM hv 0 (by show _ = _; unfold Vf.lost; rw [HKk.out]; rfl) M' (by show _ = _; unfold Vf.ren; rw [HKk.out]; exact HM.out)
    unfold sv at R1
    rw [← HK2.out] at R1
    have P5 := cells6' (H5.drew.cells.2.2.2.2.2.2.1) (X5.same (W' := w5.drew) rfl)
    go_wp2_with (fail)
    go_region_held3 (fun w' => w'.cell? ⟨b, 6, none⟩ = some (.map (some bh)) ∧ w'.cell? ⟨w.heap.size, 0, none⟩ = some (.int .i64 K) ∧ w'.cell? ⟨w.heap.size, 1, none⟩ = some (.int .i64 (s2.file : Int)) ∧ w'.cell? ⟨w.heap.size, 2, none⟩ = some (.int .i64 (s2.size : Int)) ∧ w'.cell? ⟨w.heap.size, 3, none⟩ = some (str s2.name) ∧ w'.cell? ⟨w.heap.size, 4, none⟩ = some (str s2.to))
      (first | exact P5 | exact P6)
      (first | (go_at_call 30; refine R1.mono ?_; rintro e w6 ⟨rfl, n6, g6, z6⟩; have H6 := H5.drew.turnH (only_grown g6) M' n6; have X6 : Box w6 w.heap.size K s2 := (X5.same (W' := World.drew _) rfl).same (g6.block w.heap.size X5.lt (fun e => NEW.out (.inl (by cases e; exact SH.out)))); have P6 := cells6' (H6.cells.2.2.2.2.2.2.1) X6; have M6 : Moved S w w6 := (M5.drew.grown g6 (fun k e _ => by cases e; exact SH.out)); have WS : Hid (∀ i, (S i ∨ i = W3.heap.size) → grow S w w6 i) := (fun i hi => by rcases hi with hi | hi; exact .inl hi; exact .inr ⟨by rw [hi]; exact Z3.out, H6.low i (.inr hi)⟩); clear z6 n6))
    go_wp2_with (fail)
    have HG := H6.wide (T := grow S w w6) (fun i hi => WS.out i hi) (fun i hi => by rcases hi with hi | hi; exact H6.low i (.inl hi); exact hi.2)
    obtain ⟨z8, z0, z1, z2, z3, z4⟩ := cells6 (H6.cells.2.2.2.2.2.2.2.2) X6
    obtain ⟨y8, y0, y1, y2, y3, y4⟩ := cells6_alloc (.cells #[.int .i64 K, .int .i64 (s2.file : Int), .int .i64 (s2.size : Int), str s2.name, str s2.to] 55) (H6.cells.2.2.2.2.2.2.2.2) X6
    have OW : (w6.alloc (.cells #[.int .i64 K, .int .i64 (s2.file : Int), .int .i64 (s2.size : Int), str s2.name, str s2.to] 55)).drew.ownsRow 0 55 5 pv σ.pending.length (scs σ.pending) := (H6.pend.alloc _).drew
    have HB := pend_box (W := w6) (s := s2) HK2.out
    have MW : Hid _ := M6
    have HH : Hid _ := H6
    have XX : Hid _ := X6
    go_region_law (refine step_pend _ (by rfl) _ _ (by rfl) pv σ.pending s2 (by rfl) OW w6.heap.size 1 (by rfl) HB hp ?_; intro g4 cap4 n4 w4 HN4 o4 gr4 hl4 lt4; have P4 := cells6_grown HH.out XX.out NEW.out gr4; have f8 := unfrozen8 HH.out gr4; obtain ⟨p8, p0, p1, p2, p3, p4⟩ := P4)
    all_goals
      go_wp2_with (fail)
      go_ret
      obtain ⟨F1, F2⟩ := put_end HG MW.out MW.out.size (grownBy_undrew' gr4) HN4.out o4 hl4.out lt4
      exact ⟨rfl, F1, F2⟩
  · have q1 : (fz != -1) = true := by simp [e]
    rw [if_neg e] at TK TK3 F3
    go_enter Try.func20, Try.ntmps20
    go_wp2_with (fail)
    generalize hT1 : (sz : Int) + 1 = T1 at TK3 F3 hT ⊢
    clear hT1 TK c3 c4 f3 f4
    subst hT
    generalize hW3 : World.setCell _ ⟨w.heap.size, 1, none⟩ (.int .i64 (s2.file : Int)) = W3 at TK3 F3 ⊢
    clear hW3
    obtain ⟨w5, r5, p5, g5, z5⟩ := ((F3.same (w' := (W3.alloc (.cells #[.slice none 0 0, .int .i64 0] 67)).drew) (Below.heap_alloc W3 _ bf F3.lt))).put s2.file (by omega) W3.heap.size (by omega)
    have H5 := TK3.rep.addFile s2.file HF.out g5 (by rw [HS2.out]; exact p5)
    have X5 : Box w5 w.heap.size K s2 := TK3.box.same ((g5.block w.heap.size (by have := TK3.box.lt; show w.heap.size < (W3.alloc _).heap.size; simp; omega) (fun e => TK3.new (by cases e; exact TK3.rep.sf))).trans (Below.heap_alloc W3 _ _ TK3.box.lt))
    have y5 : (W3.alloc (.cells #[.slice none 0 0, .int .i64 0] 67)).cell? ⟨b, 5, none⟩ = some (.map (some bf)) := keepC ((Below.refl _ _).alloc (Nat.le_refl _) _) (TK3.rep.cells.2.2.2.2.2.1)
    have y1 : (W3.alloc (.cells #[.slice none 0 0, .int .i64 0] 67)).cell? ⟨w.heap.size, 1, none⟩ = some (.int .i64 (s2.file : Int)) := keepC ((Below.refl _ _).alloc (Nat.le_refl _) _) TK3.box.c1
    have x5 : W3.cell? ⟨b, 5, none⟩ = some (.map (some bf)) := TK3.rep.cells.2.2.2.2.2.1
    have x1 : W3.cell? ⟨w.heap.size, 1, none⟩ = some (.int .i64 (s2.file : Int)) := TK3.box.c1
    have M5 : Moved S w w5 := ((TK3.moved.alloc _).drew).grown g5 (fun k e _ => by cases e; exact TK3.rep.sf)
    have NEW : Hid (¬ (S w.heap.size ∨ w.heap.size = W3.heap.size)) := fun hh => by
      rcases hh with hh | hh
      · exact TK3.new hh
      · have := TK3.size; omega
    have Z3 : Hid (w.heap.size ≤ W3.heap.size) := by have := TK3.size; show _ ≤ _; omega
    have SH : Hid (S bh) := TK3.rep.sh
    have Z5 : Hid _ := z5
    clear z5 F3 p5
    go_region
    clear r5 y5 y1 x5 x1
    have R1 := ren_any w5.drew bh σ.held s2 so2 H5.drew.held hM hv 0 (by show _ = _; unfold Vf.lost; rw [HKk.out]; rfl) M' (by show _ = _; unfold Vf.ren; rw [HKk.out]; exact HM.out)
    unfold sv at R1
    rw [← HK2.out] at R1
    have P5 := cells6' (H5.drew.cells.2.2.2.2.2.2.1) (X5.same (W' := w5.drew) rfl)
    go_wp2_with (fail)
    go_region_held3 (fun w' => w'.cell? ⟨b, 6, none⟩ = some (.map (some bh)) ∧ w'.cell? ⟨w.heap.size, 0, none⟩ = some (.int .i64 K) ∧ w'.cell? ⟨w.heap.size, 1, none⟩ = some (.int .i64 (s2.file : Int)) ∧ w'.cell? ⟨w.heap.size, 2, none⟩ = some (.int .i64 (s2.size : Int)) ∧ w'.cell? ⟨w.heap.size, 3, none⟩ = some (str s2.name) ∧ w'.cell? ⟨w.heap.size, 4, none⟩ = some (str s2.to))
      (first | exact P5 | exact P6)
      (first | (go_at_call 30; refine R1.mono ?_; rintro e w6 ⟨rfl, n6, g6, z6⟩; have H6 := H5.drew.turnH (only_grown g6) M' n6; have X6 : Box w6 w.heap.size K s2 := (X5.same (W' := World.drew _) rfl).same (g6.block w.heap.size X5.lt (fun e => NEW.out (.inl (by cases e; exact SH.out)))); have P6 := cells6' (H6.cells.2.2.2.2.2.2.1) X6; have M6 : Moved S w w6 := (M5.drew.grown g6 (fun k e _ => by cases e; exact SH.out)); have WS : Hid (∀ i, (S i ∨ i = W3.heap.size) → grow S w w6 i) := (fun i hi => by rcases hi with hi | hi; exact .inl hi; exact .inr ⟨by rw [hi]; exact Z3.out, H6.low i (.inr hi)⟩); clear z6 n6))
    go_wp2_with (fail)
    have HG := H6.wide (T := grow S w w6) (fun i hi => WS.out i hi) (fun i hi => by rcases hi with hi | hi; exact H6.low i (.inl hi); exact hi.2)
    obtain ⟨z8, z0, z1, z2, z3, z4⟩ := cells6 (H6.cells.2.2.2.2.2.2.2.2) X6
    obtain ⟨y8, y0, y1, y2, y3, y4⟩ := cells6_alloc (.cells #[.int .i64 K, .int .i64 (s2.file : Int), .int .i64 (s2.size : Int), str s2.name, str s2.to] 55) (H6.cells.2.2.2.2.2.2.2.2) X6
    have OW : (w6.alloc (.cells #[.int .i64 K, .int .i64 (s2.file : Int), .int .i64 (s2.size : Int), str s2.name, str s2.to] 55)).drew.ownsRow 0 55 5 pv σ.pending.length (scs σ.pending) := (H6.pend.alloc _).drew
    have HB := pend_box (W := w6) (s := s2) HK2.out
    have MW : Hid _ := M6
    have HH : Hid _ := H6
    have XX : Hid _ := X6
    go_region_law (refine step_pend _ (by rfl) _ _ (by rfl) pv σ.pending s2 (by rfl) OW w6.heap.size 1 (by rfl) HB hp ?_; intro g4 cap4 n4 w4 HN4 o4 gr4 hl4 lt4; have P4 := cells6_grown HH.out XX.out NEW.out gr4; have f8 := unfrozen8 HH.out gr4; obtain ⟨p8, p0, p1, p2, p3, p4⟩ := P4)
    all_goals
      go_wp2_with (fail)
      go_ret
      obtain ⟨F1, F2⟩ := put_end HG MW.out MW.out.size (grownBy_undrew' gr4) HN4.out o4 hl4.out lt4
      exact ⟨rfl, F1, F2⟩
end Go.Proofs.Ytclokpkhkokfhab
