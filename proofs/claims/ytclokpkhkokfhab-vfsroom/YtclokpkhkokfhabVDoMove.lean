/-
  A raw step that is a move or an unnaming.
-/
import Derived.Test.YtclokpkhkokfhabVPut
namespace Go.Proofs.Ytclokpkhkokfhab
open Go.RowKit Go.Maps

/-- What a walk wants of the world in which a step was boxed. -/
structure Box (W : World) (B : Nat) (K : Int) (s : Vf.Step) : Prop where
  c0 : W.cell? ⟨B, 0, none⟩ = some (.int .i64 K)
  c1 : W.cell? ⟨B, 1, none⟩ = some (.int .i64 (s.file : Int))
  c2 : W.cell? ⟨B, 2, none⟩ = some (.int .i64 (s.size : Int))
  c3 : W.cell? ⟨B, 3, none⟩ = some (str s.name)
  c4 : W.cell? ⟨B, 4, none⟩ = some (str s.to)
theorem Box.same {W W' : World} {B : Nat} {K : Int} {s : Vf.Step} (h : Box W B K s) (e : W'.heap[B]? = W.heap[B]?) : Box W' B K s :=
  ⟨(World.cell?_of_block (w := W) e).trans h.c0, (World.cell?_of_block (w := W) e).trans h.c1, (World.cell?_of_block (w := W) e).trans h.c2, (World.cell?_of_block (w := W) e).trans h.c3, (World.cell?_of_block (w := W) e).trans h.c4⟩
theorem Box.of {W : World} {B : Nat} {s : Vf.Step} (h : W.heap[B]? = some (bx s)) : Box W B (s.kind : Int) s :=
  ⟨Joins.cell_of_block h 0, Joins.cell_of_block h 1, Joins.cell_of_block h 2, Joins.cell_of_block h 3, Joins.cell_of_block h 4⟩
theorem Box.lt {W : World} {B : Nat} {K : Int} {s : Vf.Step} (h : Box W B K s) : B < W.heap.size := World.block_lt_of_cell? W ⟨B, 0, none⟩ h.c0

/-- The world behind the tick. -/
structure Ticked (w W : World) (b bf bh bd : Nat) (pv : Value) (fs : Nat → Option Nat) (sl : Nat → Value) (σ : Vf.St) (S : Nat → Prop) (K : Int) (s : Vf.Step) : Prop where
  rep : RepAt W b bf bh bd pv fs sl (Vf.tick σ) S
  moved : Moved S w W
  box : Box W w.heap.size K s
  size : W.heap.size = w.heap.size + 1
  new : ¬ S w.heap.size

theorem ticked {w : World} {b bf bh bd : Nat} {pv : Value} {fs : Nat → Option Nat} {sl : Nat → Value} {σ : Vf.St} {S : Nat → Prop} (h : RepAt w b bf bh bd pv fs sl σ S) (s : Vf.Step) : Ticked w (tickW (w.alloc (bx s)) b σ) b bf bh bd pv fs sl σ S (s.kind : Int) s := by
  have hnS : ¬ S w.heap.size := fun hi => by have := h.low _ hi; omega
  have h1 := h.alloc (bx s)
  refine ⟨h1.tick, ((Moved.refl S w).alloc (bx s)).trans (tick_moved h1) (fun i _ hi => hi), Box.of ?_, ?_, hnS⟩
  · exact ((tick_moved h1).block w.heap.size (by simp) hnS).trans (new_block w (bx s))
  · unfold tickW
    split <;> simp [World.setCell]

theorem cells7 {W : World} {b bf bh : Nat} {B : Nat} {K : Int} {s : Vf.Step} (h5 : W.cell? ⟨b, 5, none⟩ = some (.map (some bf))) (h6 : W.cell? ⟨b, 6, none⟩ = some (.map (some bh))) (hx : Box W B K s) :
    W.cell? ⟨b, 5, none⟩ = some (.map (some bf)) ∧ W.cell? ⟨b, 6, none⟩ = some (.map (some bh)) ∧ W.cell? ⟨B, 0, none⟩ = some (.int .i64 K) ∧ W.cell? ⟨B, 1, none⟩ = some (.int .i64 (s.file : Int)) ∧ W.cell? ⟨B, 2, none⟩ = some (.int .i64 (s.size : Int)) ∧ W.cell? ⟨B, 3, none⟩ = some (str s.name) ∧ W.cell? ⟨B, 4, none⟩ = some (str s.to) :=
  ⟨h5, h6, hx.c0, hx.c1, hx.c2, hx.c3, hx.c4⟩
theorem cells6 {W : World} {b : Nat} {pv : Value} {B : Nat} {K : Int} {s : Vf.Step} (h8 : W.cell? ⟨b, 8, none⟩ = some pv) (hx : Box W B K s) :
    W.cell? ⟨b, 8, none⟩ = some pv ∧ W.cell? ⟨B, 0, none⟩ = some (.int .i64 K) ∧ W.cell? ⟨B, 1, none⟩ = some (.int .i64 (s.file : Int)) ∧ W.cell? ⟨B, 2, none⟩ = some (.int .i64 (s.size : Int)) ∧ W.cell? ⟨B, 3, none⟩ = some (str s.name) ∧ W.cell? ⟨B, 4, none⟩ = some (str s.to) :=
  ⟨h8, hx.c0, hx.c1, hx.c2, hx.c3, hx.c4⟩

theorem grownBy_undrew' {a b : World} {r : Option Nat} (h : a.drew.grownBy b r) : a.grownBy b r := ⟨h.os, h.tape, h.output, h.size, h.block⟩
/-- What region 27 asks: the pending steps and the box, behind the new block, behind the append. -/
theorem cells6_alloc {W : World} {b : Nat} {pv : Value} {B : Nat} {K : Int} {s : Vf.Step} (o : Obj) (h : W.cell? ⟨b, 8, none⟩ = some pv) (hx : Box W B K s) :
    (W.alloc o).drew.cell? ⟨b, 8, none⟩ = some pv ∧ (W.alloc o).drew.cell? ⟨B, 0, none⟩ = some (.int .i64 K) ∧ (W.alloc o).drew.cell? ⟨B, 1, none⟩ = some (.int .i64 (s.file : Int)) ∧ (W.alloc o).drew.cell? ⟨B, 2, none⟩ = some (.int .i64 (s.size : Int)) ∧ (W.alloc o).drew.cell? ⟨B, 3, none⟩ = some (str s.name) ∧ (W.alloc o).drew.cell? ⟨B, 4, none⟩ = some (str s.to) :=
  cells6 (keepC (((Below.refl _ _).alloc (Nat.le_refl _) o).drew) h) (hx.same (Below.heap_alloc W o B hx.lt))
theorem pend_box {W : World} {K : Int} {s : Vf.Step} (hK : K = (s.kind : Int)) : (W.alloc (.cells #[.int .i64 K, .int .i64 (s.file : Int), .int .i64 (s.size : Int), str s.name, str s.to] 55)).drew.heap[W.heap.size]? = some (.cells (sc s).toArray 55 (0, 0)) := by
  subst hK
  exact new_block W (bx s)
theorem cells6_grown {W w' : World} {b bf bh bd : Nat} {pv : Value} {fs : Nat → Option Nat} {sl : Nat → Value} {σ : Vf.St} {S : Nat → Prop} {B : Nat} {K : Int} {s : Vf.Step} {o : Obj} (h : RepAt W b bf bh bd pv fs sl σ S) (hx : Box W B K s) (hB : ¬ S B) (g : (W.alloc o).drew.grownBy w' pv.ownBlock) :
    w'.cell? ⟨b, 8, none⟩ = some pv ∧ w'.cell? ⟨B, 0, none⟩ = some (.int .i64 K) ∧ w'.cell? ⟨B, 1, none⟩ = some (.int .i64 (s.file : Int)) ∧ w'.cell? ⟨B, 2, none⟩ = some (.int .i64 (s.size : Int)) ∧ w'.cell? ⟨B, 3, none⟩ = some (str s.name) ∧ w'.cell? ⟨B, 4, none⟩ = some (str s.to) := by
  have e1 : w'.heap[b]? = W.heap[b]? := (g.block b (by have := h.low _ h.sb; show b < (W.alloc o).heap.size; simp; omega) (fun e => ne_kind h.kb (h.kp e.symm) (by decide) rfl)).trans (Below.heap_alloc W o b (h.low _ h.sb))
  have e2 : w'.heap[B]? = W.heap[B]? := (g.block B (by have := hx.lt; show B < (W.alloc o).heap.size; simp; omega) (fun e => hB (h.sp B e.symm))).trans (Below.heap_alloc W o B hx.lt)
  exact cells6 ((World.cell?_of_block (w := W) e1).trans h.cells.2.2.2.2.2.2.2.2) (hx.same e2)
theorem unfrozen8 {W w' : World} {b bf bh bd : Nat} {pv : Value} {fs : Nat → Option Nat} {sl : Nat → Value} {σ : Vf.St} {S : Nat → Prop} {o : Obj} (h : RepAt W b bf bh bd pv fs sl σ S) (g : (W.alloc o).drew.grownBy w' pv.ownBlock) : w'.frozen? ⟨b, 8, none⟩ = false := by
  have e1 : w'.heap[b]? = W.heap[b]? := (g.block b (by have := h.low _ h.sb; show b < (W.alloc o).heap.size; simp; omega) (fun e => ne_kind h.kb (h.kp e.symm) (by decide) rfl)).trans (Below.heap_alloc W o b (h.low _ h.sb))
  exact Joins.unfrozen_of_block (e1.trans h.blk) 8

theorem row_shape {w : World} {base e size : Nat} {v : Value} {n : Nat} {xs : List Value} (h : w.ownsRow base e size v n xs) : ∃ a c, v = .slice a n c := by
  rcases h.2 with ⟨rfl, h0⟩ | ⟨g, cap, cur, rfl, _⟩
  · exact ⟨none, 0, by rw [h0]⟩
  · exact ⟨_, cap, rfl⟩

set_option maxHeartbeats 2000000 in
theorem do_move_none (w : World) (b bf bh bd : Nat) (pv : Value) (fs : Nat → Option Nat) (sl : Nat → Value) (σ : Vf.St) (S : Nat → Prop) (h : RepAt w b bf bh bd pv fs sl σ S) (s : Vf.Step) (hk : s.kind = 2 ∨ s.kind = 3) (v : Value) (h0 : σ.fuse ≠ 0) (ok : DoOk σ) (hp : σ.pending.length ≤ 1000000000) (so : StepOk s) (hM : σ.held.length ≤ 1000000000) (hv : ∀ k, Vf.num σ.held k ≤ 1000000000)
    (L : Nat) (HL : Hid (L = Vf.lost s σ.held)) (hL : L ≤ 1000000000) (M' : Vf.Nm) (HM : Hid (M' = Vf.ren s σ.held)) (hx : σ.files L = none) :
    Calls Try.prog 20 #[.pointer (some ⟨b, 0, none⟩), sv s, v] w fun e w' => e = .returned (.int .i64 0) ∧ Rep w' b (Vf.pend { Vf.tick σ with held := M' } s) (grow S w w') ∧ Moved S w w' := by
  have hfn : fs L = none := by have := h.dom L; rw [hx] at this; simpa using this
  clear hx
  have h1 := h.alloc (bx s)
  have c3 := h1.cells.2.2.2.1
  have c4 := h1.cells.2.2.2.2.1
  have f3 := h1.unfrozen 3
  have f4 := h1.unfrozen 4
  have q0 : (σ.fuse == 0) = false := by simpa using h0
  have TK := ticked h s
  have R1 := ren_any _ bh σ.held s so TK.rep.drew.held hM hv L HL M' HM
  obtain ⟨⟨fl, fu⟩, hst⟩ := ok
  unfold tickW at TK R1
  obtain ⟨K, hK⟩ : ∃ K : Int, K = (s.kind : Int) := ⟨_, rfl⟩
  have k0 : (K == 0) = false := by rw [hK]; rcases hk with hk | hk <;> rw [hk] <;> rfl
  have k1 : (K == 1) = false := by rw [hK]; rcases hk with hk | hk <;> rw [hk] <;> rfl
  have hb : (K == 2) = true ∨ ((K == 2) = false ∧ (K == 3) = true) := by
    rcases hk with hk | hk <;> rw [hk] at hK <;> subst hK
    · exact .inl rfl
    · exact .inr ⟨rfl, rfl⟩
  have HK : Hid (K = (s.kind : Int)) := hK
  unfold bx at TK R1 c3 c4 f3 f4
  unfold sv at R1 ⊢
  rw [← hK] at TK R1 c3 c4 f3 f4 ⊢
  clear h h1 h0 hk hK hM hv HL HM so
  obtain ⟨fz, hfz⟩ : ∃ z, z = σ.fuse := ⟨_, rfl⟩
  obtain ⟨sz, hsz⟩ : ∃ z, z = σ.steps := ⟨_, rfl⟩
  rw [← hfz] at TK R1 c3 q0 fl fu
  rw [← hsz] at TK R1 c4 hst
  clear hfz hsz
  by_cases e : fz = -1
  · have q1 : (fz != -1) = false := by simp [e]
    rw [if_pos e] at TK R1
    clear e
    have P1 := cells7 (TK.rep.drew.cells.2.2.2.2.2.1) (TK.rep.drew.cells.2.2.2.2.2.2.1) (TK.box.same (W' := World.drew _) rfl)
    rcases hb with k2 | ⟨k2, k3⟩
    all_goals
      go_enter Try.func20, Try.ntmps20
      go_wp2_with (fail)
      go_region_held3 (fun w' => w'.cell? ⟨b, 5, none⟩ = some (.map (some bf)) ∧ w'.cell? ⟨b, 6, none⟩ = some (.map (some bh)) ∧ w'.cell? ⟨w.heap.size, 0, none⟩ = some (.int .i64 K) ∧ w'.cell? ⟨w.heap.size, 1, none⟩ = some (.int .i64 (s.file : Int)) ∧ w'.cell? ⟨w.heap.size, 2, none⟩ = some (.int .i64 (s.size : Int)) ∧ w'.cell? ⟨w.heap.size, 3, none⟩ = some (str s.name) ∧ w'.cell? ⟨w.heap.size, 4, none⟩ = some (str s.to))
        (first | exact P1 | exact P3)
        (first | (go_at_call 30; refine R1.mono ?_; rintro e w3 ⟨rfl, n3, g3, z3⟩; have H3 := TK.rep.drew.turnH (only_grown g3) M' n3; have X3 := (TK.box.same (W' := World.drew _) rfl).same (g3.block w.heap.size TK.box.lt (fun e => TK.new (by cases e; exact TK.rep.sh))); have P3 := cells7 (H3.cells.2.2.2.2.2.1) (H3.cells.2.2.2.2.2.2.1) X3; have L3 := H3.files.look L (by omega); rw [ptr_none hfn] at L3; clear z3 n3))
      go_wp2_with (fail)
      have HG : RepAt w3 b bf bh bd pv fs sl _ (grow S w w3) := H3.wide (fun i hi => .inl hi) (fun i hi => by rcases hi with hi | hi; exact H3.low i hi; exact hi.2)
      obtain ⟨z8, z0, z1, z2, z3, z4⟩ := cells6 (H3.cells.2.2.2.2.2.2.2.2) X3
      obtain ⟨y8, y0, y1, y2, y3, y4⟩ := cells6_alloc (.cells #[.int .i64 K, .int .i64 (s.file : Int), .int .i64 (s.size : Int), str s.name, str s.to] 55) (H3.cells.2.2.2.2.2.2.2.2) X3
      have OW : (w3.alloc (.cells #[.int .i64 K, .int .i64 (s.file : Int), .int .i64 (s.size : Int), str s.name, str s.to] 55)).drew.ownsRow 0 55 5 pv σ.pending.length (scs σ.pending) := (H3.pend.alloc _).drew
      have HB := pend_box (W := w3) (s := s) HK.out
      have MW : Hid _ := (TK.moved.drew.grown g3 (fun k e _ => by cases e; exact TK.rep.sh))
      have HH : Hid _ := H3
      have XX : Hid _ := X3
      go_region_law (refine step_pend _ (by rfl) _ _ (by rfl) pv σ.pending s (by rfl) OW w3.heap.size 1 (by rfl) HB hp ?_; intro g4 cap4 n4 w4 HN4 o4 gr4 hl4 lt4; have P4 := cells6_grown HH.out XX.out TK.new gr4; have f8 := unfrozen8 HH.out gr4; obtain ⟨p8, p0, p1, p2, p3, p4⟩ := P4)
      all_goals
        go_wp2_with (fail)
        go_ret
        obtain ⟨F1, F2⟩ := put_end HG MW.out MW.out.size (grownBy_undrew' gr4) HN4.out o4 hl4.out lt4
        exact ⟨rfl, F1, F2⟩
  · have q1 : (fz != -1) = true := by simp [e]
    rw [if_neg e] at TK R1
    have P1 := cells7 (TK.rep.drew.cells.2.2.2.2.2.1) (TK.rep.drew.cells.2.2.2.2.2.2.1) (TK.box.same (W' := World.drew _) rfl)
    rcases hb with k2 | ⟨k2, k3⟩
    all_goals
      go_enter Try.func20, Try.ntmps20
      go_wp2_with (fail)
      go_region_held3 (fun w' => w'.cell? ⟨b, 5, none⟩ = some (.map (some bf)) ∧ w'.cell? ⟨b, 6, none⟩ = some (.map (some bh)) ∧ w'.cell? ⟨w.heap.size, 0, none⟩ = some (.int .i64 K) ∧ w'.cell? ⟨w.heap.size, 1, none⟩ = some (.int .i64 (s.file : Int)) ∧ w'.cell? ⟨w.heap.size, 2, none⟩ = some (.int .i64 (s.size : Int)) ∧ w'.cell? ⟨w.heap.size, 3, none⟩ = some (str s.name) ∧ w'.cell? ⟨w.heap.size, 4, none⟩ = some (str s.to))
        (first | exact P1 | exact P3)
        (first | (go_at_call 30; refine R1.mono ?_; rintro e w3 ⟨rfl, n3, g3, z3⟩; have H3 := TK.rep.drew.turnH (only_grown g3) M' n3; have X3 := (TK.box.same (W' := World.drew _) rfl).same (g3.block w.heap.size TK.box.lt (fun e => TK.new (by cases e; exact TK.rep.sh))); have P3 := cells7 (H3.cells.2.2.2.2.2.1) (H3.cells.2.2.2.2.2.2.1) X3; have L3 := H3.files.look L (by omega); rw [ptr_none hfn] at L3; clear z3 n3))
      go_wp2_with (fail)
      have HG : RepAt w3 b bf bh bd pv fs sl _ (grow S w w3) := H3.wide (fun i hi => .inl hi) (fun i hi => by rcases hi with hi | hi; exact H3.low i hi; exact hi.2)
      obtain ⟨z8, z0, z1, z2, z3, z4⟩ := cells6 (H3.cells.2.2.2.2.2.2.2.2) X3
      obtain ⟨y8, y0, y1, y2, y3, y4⟩ := cells6_alloc (.cells #[.int .i64 K, .int .i64 (s.file : Int), .int .i64 (s.size : Int), str s.name, str s.to] 55) (H3.cells.2.2.2.2.2.2.2.2) X3
      have OW : (w3.alloc (.cells #[.int .i64 K, .int .i64 (s.file : Int), .int .i64 (s.size : Int), str s.name, str s.to] 55)).drew.ownsRow 0 55 5 pv σ.pending.length (scs σ.pending) := (H3.pend.alloc _).drew
      have HB := pend_box (W := w3) (s := s) HK.out
      have MW : Hid _ := (TK.moved.drew.grown g3 (fun k e _ => by cases e; exact TK.rep.sh))
      have HH : Hid _ := H3
      have XX : Hid _ := X3
      go_region_law (refine step_pend _ (by rfl) _ _ (by rfl) pv σ.pending s (by rfl) OW w3.heap.size 1 (by rfl) HB hp ?_; intro g4 cap4 n4 w4 HN4 o4 gr4 hl4 lt4; have P4 := cells6_grown HH.out XX.out TK.new gr4; have f8 := unfrozen8 HH.out gr4; obtain ⟨p8, p0, p1, p2, p3, p4⟩ := P4)
      all_goals
        go_wp2_with (fail)
        go_ret
        obtain ⟨F1, F2⟩ := put_end HG MW.out MW.out.size (grownBy_undrew' gr4) HN4.out o4 hl4.out lt4
        exact ⟨rfl, F1, F2⟩

set_option maxHeartbeats 2000000 in
theorem do_move_some (w : World) (b bf bh bd : Nat) (pv : Value) (fs : Nat → Option Nat) (sl : Nat → Value) (σ : Vf.St) (S : Nat → Prop) (h : RepAt w b bf bh bd pv fs sl σ S) (s : Vf.Step) (hk : s.kind = 2 ∨ s.kind = 3) (v : Value) (h0 : σ.fuse ≠ 0) (ok : DoOk σ) (hp : σ.pending.length ≤ 1000000000) (so : StepOk s) (hM : σ.held.length ≤ 1000000000) (hv : ∀ k, Vf.num σ.held k ≤ 1000000000)
    (L : Nat) (HL : Hid (L = Vf.lost s σ.held)) (hL : L ≤ 1000000000) (M' : Vf.Nm) (HM : Hid (M' = Vf.ren s σ.held)) (x : Vf.File) (hx : σ.files L = some x) (hu : -1000000000000000000 ≤ σ.used ∧ σ.used ≤ 1000000000000000000) (hxl : x.bytes.length ≤ 1000000000000000000) (U : Int) (HU : Hid (U = σ.used)) (nx : Nat) (HX2 : Hid (nx = x.bytes.length)) :
    Calls Try.prog 20 #[.pointer (some ⟨b, 0, none⟩), sv s, v] w fun e w' => e = .returned (.int .i64 0) ∧ Rep w' b (Vf.pend { Vf.tick σ with held := M', used := U - (nx : Int) } s) (grow S w w') ∧ Moved S w w' := by
  obtain ⟨gx, hgx⟩ : ∃ g, fs L = some g := by have := h.dom L; rw [hx] at this; exact Option.isSome_iff_exists.1 this
  obtain ⟨ax, cx, hsl⟩ := row_shape (h.file L gx x hgx hx).2
  have HX : Hid (σ.files L = some x) := hx
  clear hx
  obtain ⟨u1, u2⟩ := hu
  rw [← HU.out] at u1 u2
  rw [← HX2.out] at hxl hsl
  have h1 := h.alloc (bx s)
  have c3 := h1.cells.2.2.2.1
  have c4 := h1.cells.2.2.2.2.1
  have f3 := h1.unfrozen 3
  have f4 := h1.unfrozen 4
  have q0 : (σ.fuse == 0) = false := by simpa using h0
  have TK := ticked h s
  have R1 := ren_any _ bh σ.held s so TK.rep.drew.held hM hv L HL M' HM
  obtain ⟨⟨fl, fu⟩, hst⟩ := ok
  unfold tickW at TK R1
  obtain ⟨K, hK⟩ : ∃ K : Int, K = (s.kind : Int) := ⟨_, rfl⟩
  have k0 : (K == 0) = false := by rw [hK]; rcases hk with hk | hk <;> rw [hk] <;> rfl
  have k1 : (K == 1) = false := by rw [hK]; rcases hk with hk | hk <;> rw [hk] <;> rfl
  have hb : (K == 2) = true ∨ ((K == 2) = false ∧ (K == 3) = true) := by
    rcases hk with hk | hk <;> rw [hk] at hK <;> subst hK
    · exact .inl rfl
    · exact .inr ⟨rfl, rfl⟩
  have HK : Hid (K = (s.kind : Int)) := hK
  unfold bx at TK R1 c3 c4 f3 f4
  unfold sv at R1 ⊢
  rw [← hK] at TK R1 c3 c4 f3 f4 ⊢
  clear h h1 h0 hk hK hM hv HL HM so
  obtain ⟨fz, hfz⟩ : ∃ z, z = σ.fuse := ⟨_, rfl⟩
  obtain ⟨sz, hsz⟩ : ∃ z, z = σ.steps := ⟨_, rfl⟩
  rw [← hfz] at TK R1 c3 q0 fl fu
  rw [← hsz] at TK R1 c4 hst
  clear hfz hsz
  by_cases e : fz = -1
  · have q1 : (fz != -1) = false := by simp [e]
    rw [if_pos e] at TK R1
    clear e
    have P1 := cells7 (TK.rep.drew.cells.2.2.2.2.2.1) (TK.rep.drew.cells.2.2.2.2.2.2.1) (TK.box.same (W' := World.drew _) rfl)
    rcases hb with k2 | ⟨k2, k3⟩
    all_goals
      go_enter Try.func20, Try.ntmps20
      go_wp2_with (fail)
      go_region_held3 (fun w' => w'.cell? ⟨b, 5, none⟩ = some (.map (some bf)) ∧ w'.cell? ⟨b, 6, none⟩ = some (.map (some bh)) ∧ w'.cell? ⟨w.heap.size, 0, none⟩ = some (.int .i64 K) ∧ w'.cell? ⟨w.heap.size, 1, none⟩ = some (.int .i64 (s.file : Int)) ∧ w'.cell? ⟨w.heap.size, 2, none⟩ = some (.int .i64 (s.size : Int)) ∧ w'.cell? ⟨w.heap.size, 3, none⟩ = some (str s.name) ∧ w'.cell? ⟨w.heap.size, 4, none⟩ = some (str s.to))
        (first | exact P1 | exact P3)
        (first | (go_at_call 30; refine R1.mono ?_; rintro e w3 ⟨rfl, n3, g3, z3⟩; have H3 := TK.rep.drew.turnH (only_grown g3) M' n3; have X3 := (TK.box.same (W' := World.drew _) rfl).same (g3.block w.heap.size TK.box.lt (fun e => TK.new (by cases e; exact TK.rep.sh))); have P3 := cells7 (H3.cells.2.2.2.2.2.1) (H3.cells.2.2.2.2.2.2.1) X3; have L3 := H3.files.look L (by omega); rw [ptr_some hgx] at L3; have d0 : w3.cell? ⟨gx, 0, none⟩ = some (.slice ax nx cx) := (by have := Joins.cell_of_block (H3.file L gx x hgx HX.out).1 0; rw [hsl] at this; exact this); have d1 : w3.cell? ⟨b, 1, none⟩ = some (.int .i64 U) := (by rw [HU.out]; exact H3.cells.2.1); have f1 := H3.unfrozen 1; clear z3 n3))
      have H4 := (H3.field 1 (.int .i64 (U - (nx : Int))) { Vf.tick σ with held := M', used := U - (nx : Int) } rfl rfl rfl rfl rfl (Nat.le_refl _)).drew
      have X4 : Box (w3.setCell ⟨b, 1, none⟩ (.int .i64 (U - (nx : Int)))).drew w.heap.size K s := X3.same (Below.heap_setCell w3 ⟨b, 1, none⟩ _ w.heap.size (fun e => TK.new (by have e' : w.heap.size = b := e; rw [e']; exact TK.rep.sb)))
      have M4 : Moved S w (w3.setCell ⟨b, 1, none⟩ (.int .i64 (U - (nx : Int)))).drew := ((TK.moved.drew.grown g3 (fun k e _ => by cases e; exact TK.rep.sh)).setCell (fun _ => TK.rep.sb) _).drew
      go_wp2_with (fail)
      go_region
      go_wp2_with (fail)
      generalize hW5 : (w3.setCell ⟨b, 1, none⟩ (.int .i64 (U - (nx : Int)))).drew = W5 at H4 X4 M4 ⊢
      clear hW5 d0 d1 f1 L3
      have HG : RepAt W5 b bf bh bd pv fs sl _ (grow S w W5) := H4.wide (fun i hi => .inl hi) (fun i hi => by rcases hi with hi | hi; exact H4.low i hi; exact hi.2)
      obtain ⟨z8, z0, z1, z2, z3, z4⟩ := cells6 (H4.cells.2.2.2.2.2.2.2.2) X4
      obtain ⟨y8, y0, y1, y2, y3, y4⟩ := cells6_alloc (.cells #[.int .i64 K, .int .i64 (s.file : Int), .int .i64 (s.size : Int), str s.name, str s.to] 55) (H4.cells.2.2.2.2.2.2.2.2) X4
      have OW : (W5.alloc (.cells #[.int .i64 K, .int .i64 (s.file : Int), .int .i64 (s.size : Int), str s.name, str s.to] 55)).drew.ownsRow 0 55 5 pv σ.pending.length (scs σ.pending) := (H4.pend.alloc _).drew
      have HB := pend_box (W := W5) (s := s) HK.out
      have MW : Hid _ := M4
      have HH : Hid _ := H4
      have XX : Hid _ := X4
      go_region_law (refine step_pend _ (by rfl) _ _ (by rfl) pv σ.pending s (by rfl) OW W5.heap.size 1 (by rfl) HB hp ?_; intro g4 cap4 n4 w4 HN4 o4 gr4 hl4 lt4; have P4 := cells6_grown HH.out XX.out TK.new gr4; have f8 := unfrozen8 HH.out gr4; obtain ⟨p8, p0, p1, p2, p3, p4⟩ := P4)
      all_goals
        go_wp2_with (fail)
        go_ret
        obtain ⟨F1, F2⟩ := put_end HG MW.out MW.out.size (grownBy_undrew' gr4) HN4.out o4 hl4.out lt4
        exact ⟨rfl, F1, F2⟩
  · have q1 : (fz != -1) = true := by simp [e]
    rw [if_neg e] at TK R1
    have P1 := cells7 (TK.rep.drew.cells.2.2.2.2.2.1) (TK.rep.drew.cells.2.2.2.2.2.2.1) (TK.box.same (W' := World.drew _) rfl)
    rcases hb with k2 | ⟨k2, k3⟩
    all_goals
      go_enter Try.func20, Try.ntmps20
      go_wp2_with (fail)
      go_region_held3 (fun w' => w'.cell? ⟨b, 5, none⟩ = some (.map (some bf)) ∧ w'.cell? ⟨b, 6, none⟩ = some (.map (some bh)) ∧ w'.cell? ⟨w.heap.size, 0, none⟩ = some (.int .i64 K) ∧ w'.cell? ⟨w.heap.size, 1, none⟩ = some (.int .i64 (s.file : Int)) ∧ w'.cell? ⟨w.heap.size, 2, none⟩ = some (.int .i64 (s.size : Int)) ∧ w'.cell? ⟨w.heap.size, 3, none⟩ = some (str s.name) ∧ w'.cell? ⟨w.heap.size, 4, none⟩ = some (str s.to))
        (first | exact P1 | exact P3)
        (first | (go_at_call 30; refine R1.mono ?_; rintro e w3 ⟨rfl, n3, g3, z3⟩; have H3 := TK.rep.drew.turnH (only_grown g3) M' n3; have X3 := (TK.box.same (W' := World.drew _) rfl).same (g3.block w.heap.size TK.box.lt (fun e => TK.new (by cases e; exact TK.rep.sh))); have P3 := cells7 (H3.cells.2.2.2.2.2.1) (H3.cells.2.2.2.2.2.2.1) X3; have L3 := H3.files.look L (by omega); rw [ptr_some hgx] at L3; have d0 : w3.cell? ⟨gx, 0, none⟩ = some (.slice ax nx cx) := (by have := Joins.cell_of_block (H3.file L gx x hgx HX.out).1 0; rw [hsl] at this; exact this); have d1 : w3.cell? ⟨b, 1, none⟩ = some (.int .i64 U) := (by rw [HU.out]; exact H3.cells.2.1); have f1 := H3.unfrozen 1; clear z3 n3))
      have H4 := (H3.field 1 (.int .i64 (U - (nx : Int))) { Vf.tick σ with held := M', used := U - (nx : Int) } rfl rfl rfl rfl rfl (Nat.le_refl _)).drew
      have X4 : Box (w3.setCell ⟨b, 1, none⟩ (.int .i64 (U - (nx : Int)))).drew w.heap.size K s := X3.same (Below.heap_setCell w3 ⟨b, 1, none⟩ _ w.heap.size (fun e => TK.new (by have e' : w.heap.size = b := e; rw [e']; exact TK.rep.sb)))
      have M4 : Moved S w (w3.setCell ⟨b, 1, none⟩ (.int .i64 (U - (nx : Int)))).drew := ((TK.moved.drew.grown g3 (fun k e _ => by cases e; exact TK.rep.sh)).setCell (fun _ => TK.rep.sb) _).drew
      go_wp2_with (fail)
      go_region
      go_wp2_with (fail)
      generalize hW5 : (w3.setCell ⟨b, 1, none⟩ (.int .i64 (U - (nx : Int)))).drew = W5 at H4 X4 M4 ⊢
      clear hW5 d0 d1 f1 L3
      have HG : RepAt W5 b bf bh bd pv fs sl _ (grow S w W5) := H4.wide (fun i hi => .inl hi) (fun i hi => by rcases hi with hi | hi; exact H4.low i hi; exact hi.2)
      obtain ⟨z8, z0, z1, z2, z3, z4⟩ := cells6 (H4.cells.2.2.2.2.2.2.2.2) X4
      obtain ⟨y8, y0, y1, y2, y3, y4⟩ := cells6_alloc (.cells #[.int .i64 K, .int .i64 (s.file : Int), .int .i64 (s.size : Int), str s.name, str s.to] 55) (H4.cells.2.2.2.2.2.2.2.2) X4
      have OW : (W5.alloc (.cells #[.int .i64 K, .int .i64 (s.file : Int), .int .i64 (s.size : Int), str s.name, str s.to] 55)).drew.ownsRow 0 55 5 pv σ.pending.length (scs σ.pending) := (H4.pend.alloc _).drew
      have HB := pend_box (W := W5) (s := s) HK.out
      have MW : Hid _ := M4
      have HH : Hid _ := H4
      have XX : Hid _ := X4
      go_region_law (refine step_pend _ (by rfl) _ _ (by rfl) pv σ.pending s (by rfl) OW W5.heap.size 1 (by rfl) HB hp ?_; intro g4 cap4 n4 w4 HN4 o4 gr4 hl4 lt4; have P4 := cells6_grown HH.out XX.out TK.new gr4; have f8 := unfrozen8 HH.out gr4; obtain ⟨p8, p0, p1, p2, p3, p4⟩ := P4)
      all_goals
        go_wp2_with (fail)
        go_ret
        obtain ⟨F1, F2⟩ := put_end HG MW.out MW.out.size (grownBy_undrew' gr4) HN4.out o4 hl4.out lt4
        exact ⟨rfl, F1, F2⟩
end Go.Proofs.Ytclokpkhkokfhab
