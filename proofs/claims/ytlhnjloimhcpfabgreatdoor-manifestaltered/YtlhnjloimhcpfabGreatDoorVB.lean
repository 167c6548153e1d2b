/-
  A raw step that is a move or an unnaming. .. and what follows from it.
-/
import Derived.Test.YtlhnjloimhcpfabGreatDoorVA
namespace Go.Proofs.YtlhnjloimhcpfabGreatDoor
open Go.RowKit Go.Maps

/-- What a walk wants of the world in which a step was boxed. -/
structure Box (W : World) (B : Nat) (K : Int) (s : Vf.Step) : Prop where
  c0 : W.cell? ⟨B, 0, none⟩ = some (.int .i64 K)
  c1 : W.cell? ⟨B, 1, none⟩ = some (.int .i64 (s.file : Int))
  c2 : W.cell? ⟨B, 2, none⟩ = some (.int .i64 (s.size : Int))
  c3 : W.cell? ⟨B, 3, none⟩ = some (str s.name)
  c4 : W.cell? ⟨B, 4, none⟩ = some (str s.to)
theorem Box.same {W W' : World} {B : Nat} {K : Int} {s : Vf.Step} (h : Box W B K s) (e : W'.heap[B]? = W.heap[B]?) : Box W' B K s :=
  ⟨(World.cell?_of_block (w := W) e).trans h.c0, (World.cell?_of_block (w := W) e).trans h.c1, (World.cell?_of_block (w := W) e).trans h.c2, (World.cell?_of_block (w := W) e).trans h.c3, (World.cell?_of_block (w := W) e).trans h.c4⟩
theorem Box.of {W : World} {B : Nat} {s : Vf.Step} (h : W.heap[B]? = some (bx s)) : Box W B (s.kind : Int) s :=
  ⟨Joins.cell_of_block h 0, Joins.cell_of_block h 1, Joins.cell_of_block h 2, Joins.cell_of_block h 3, Joins.cell_of_block h 4⟩
theorem Box.lt {W : World} {B : Nat} {K : Int} {s : Vf.Step} (h : Box W B K s) : B < W.heap.size := World.block_lt_of_cell? W ⟨B, 0, none⟩ h.c0

/-- The world behind the tick. -/
structure Ticked (w W : World) (b bf bh bd : Nat) (pv : Value) (fs : Nat → Option Nat) (sl : Nat → Value) (σ : Vf.St) (S : Nat → Prop) (K : Int) (s : Vf.Step) : Prop where
  rep : RepAt W b bf bh bd pv fs sl (Vf.tick σ) S
  moved : Moved S w W
  box : Box W w.heap.size K s
  size : W.heap.size = w.heap.size + 1
  new : ¬ S w.heap.size

theorem ticked {w : World} {b bf bh bd : Nat} {pv : Value} {fs : Nat → Option Nat} {sl : Nat → Value} {σ : Vf.St} {S : Nat → Prop} (h : RepAt w b bf bh bd pv fs sl σ S) (s : Vf.Step) : Ticked w (tickW (w.alloc (bx s)) b σ) b bf bh bd pv fs sl σ S (s.kind : Int) s := by
  have hnS : ¬ S w.heap.size := fun hi => by have := h.low _ hi; omega
  have h1 := h.alloc (bx s)
  refine ⟨h1.tick, ((Moved.refl S w).alloc (bx s)).trans (tick_moved h1) (fun i _ hi => hi), Box.of ?_, ?_, hnS⟩
  · exact ((tick_moved h1).block w.heap.size (by simp) hnS).trans (new_block w (bx s))
  · unfold tickW
    split <;> simp [World.setCell]

theorem cells7 {W : World} {b bf bh : Nat} {B : Nat} {K : Int} {s : Vf.Step} (h5 : W.cell? ⟨b, 5, none⟩ = some (.map (some bf))) (h6 : W.cell? ⟨b, 6, none⟩ = some (.map (some bh))) (hx : Box W B K s) :
    W.cell? ⟨b, 5, none⟩ = some (.map (some bf)) ∧ W.cell? ⟨b, 6, none⟩ = some (.map (some bh)) ∧ W.cell? ⟨B, 0, none⟩ = some (.int .i64 K) ∧ W.cell? ⟨B, 1, none⟩ = some (.int .i64 (s.file : Int)) ∧ W.cell? ⟨B, 2, none⟩ = some (.int .i64 (s.size : Int)) ∧ W.cell? ⟨B, 3, none⟩ = some (str s.name) ∧ W.cell? ⟨B, 4, none⟩ = some (str s.to) :=
  ⟨h5, h6, hx.c0, hx.c1, hx.c2, hx.c3, hx.c4⟩
theorem cells6 {W : World} {b : Nat} {pv : Value} {B : Nat} {K : Int} {s : Vf.Step} (h8 : W.cell? ⟨b, 8, none⟩ = some pv) (hx : Box W B K s) :
    W.cell? ⟨b, 8, none⟩ = some pv ∧ W.cell? ⟨B, 0, none⟩ = some (.int .i64 K) ∧ W.cell? ⟨B, 1, none⟩ = some (.int .i64 (s.file : Int)) ∧ W.cell? ⟨B, 2, none⟩ = some (.int .i64 (s.size : Int)) ∧ W.cell? ⟨B, 3, none⟩ = some (str s.name) ∧ W.cell? ⟨B, 4, none⟩ = some (str s.to) :=
  ⟨h8, hx.c0, hx.c1, hx.c2, hx.c3, hx.c4⟩

theorem grownBy_undrew' {a b : World} {r : Option Nat} (h : a.drew.grownBy b r) : a.grownBy b r := ⟨h.os, h.tape, h.output, h.size, h.block⟩
/-- What region 27 asks: the pending steps and the box, behind the new block, behind the append. -/
theorem cells6_alloc {W : World} {b : Nat} {pv : Value} {B : Nat} {K : Int} {s : Vf.Step} (o : Obj) (h : W.cell? ⟨b, 8, none⟩ = some pv) (hx : Box W B K s) :
    (W.alloc o).drew.cell? ⟨b, 8, none⟩ = some pv ∧ (W.alloc o).drew.cell? ⟨B, 0, none⟩ = some (.int .i64 K) ∧ (W.alloc o).drew.cell? ⟨B, 1, none⟩ = some (.int .i64 (s.file : Int)) ∧ (W.alloc o).drew.cell? ⟨B, 2, none⟩ = some (.int .i64 (s.size : Int)) ∧ (W.alloc o).drew.cell? ⟨B, 3, none⟩ = some (str s.name) ∧ (W.alloc o).drew.cell? ⟨B, 4, none⟩ = some (str s.to) :=
  cells6 (keepC (((Below.refl _ _).alloc (Nat.le_refl _) o).drew) h) (hx.same (Below.heap_alloc W o B hx.lt))
theorem pend_box {W : World} {K : Int} {s : Vf.Step} (hK : K = (s.kind : Int)) : (W.alloc (.cells #[.int .i64 K, .int .i64 (s.file : Int), .int .i64 (s.size : Int), str s.name, str s.to] 102)).drew.heap[W.heap.size]? = some (.cells (sc s).toArray 102 (0, 0)) := by
  subst hK
  exact new_block W (bx s)
theorem cells6_grown {W w' : World} {b bf bh bd : Nat} {pv : Value} {fs : Nat → Option Nat} {sl : Nat → Value} {σ : Vf.St} {S : Nat → Prop} {B : Nat} {K : Int} {s : Vf.Step} {o : Obj} (h : RepAt W b bf bh bd pv fs sl σ S) (hx : Box W B K s) (hB : ¬ S B) (g : (W.alloc o).drew.grownBy w' pv.ownBlock) :
    w'.cell? ⟨b, 8, none⟩ = some pv ∧ w'.cell? ⟨B, 0, none⟩ = some (.int .i64 K) ∧ w'.cell? ⟨B, 1, none⟩ = some (.int .i64 (s.file : Int)) ∧ w'.cell? ⟨B, 2, none⟩ = some (.int .i64 (s.size : Int)) ∧ w'.cell? ⟨B, 3, none⟩ = some (str s.name) ∧ w'.cell? ⟨B, 4, none⟩ = some (str s.to) := by
  have e1 : w'.heap[b]? = W.heap[b]? := (g.block b (by have := h.low _ h.sb; show b < (W.alloc o).heap.size; simp; omega) (fun e => ne_kind h.kb (h.kp e.symm) (by decide) rfl)).trans (Below.heap_alloc W o b (h.low _ h.sb))
  have e2 : w'.heap[B]? = W.heap[B]? := (g.block B (by have := hx.lt; show B < (W.alloc o).heap.size; simp; omega) (fun e => hB (h.sp B e.symm))).trans (Below.heap_alloc W o B hx.lt)
  exact cells6 ((World.cell?_of_block (w := W) e1).trans h.cells.2.2.2.2.2.2.2.2) (hx.same e2)
theorem unfrozen8 {W w' : World} {b bf bh bd : Nat} {pv : Value} {fs : Nat → Option Nat} {sl : Nat → Value} {σ : Vf.St} {S : Nat → Prop} {o : Obj} (h : RepAt W b bf bh bd pv fs sl σ S) (g : (W.alloc o).drew.grownBy w' pv.ownBlock) : w'.frozen? ⟨b, 8, none⟩ = false := by
  have e1 : w'.heap[b]? = W.heap[b]? := (g.block b (by have := h.low _ h.sb; show b < (W.alloc o).heap.size; simp; omega) (fun e => ne_kind h.kb (h.kp e.symm) (by decide) rfl)).trans (Below.heap_alloc W o b (h.low _ h.sb))
  exact Joins.unfrozen_of_block (e1.trans h.blk) 8

theorem row_shape {w : World} {base e size : Nat} {v : Value} {n : Nat} {xs : List Value} (h : w.ownsRow base e size v n xs) : ∃ a c, v = .slice a n c := by
  rcases h.2 with ⟨rfl, h0⟩ | ⟨g, cap, cur, rfl, _⟩
  · exact ⟨none, 0, by rw [h0]⟩
  · exact ⟨_, cap, rfl⟩

set_option maxHeartbeats 2000000 in
theorem do_move_none (w : World) (b bf bh bd : Nat) (pv : Value) (fs : Nat → Option Nat) (sl : Nat → Value) (σ : Vf.St) (S : Nat → Prop) (h : RepAt w b bf bh bd pv fs sl σ S) (s : Vf.Step) (hk : s.kind = 2 ∨ s.kind = 3) (v : Value) (h0 : σ.fuse ≠ 0) (ok : DoOk σ) (hp : σ.pending.length ≤ 1000000000) (so : StepOk s) (hM : σ.held.length ≤ 1000000000) (hv : ∀ k, Vf.num σ.held k ≤ 1000000000)
    (L : Nat) (HL : Hid (L = Vf.lost s σ.held)) (hL : L ≤ 1000000000) (M' : Vf.Nm) (HM : Hid (M' = Vf.ren s σ.held)) (hx : σ.files L = none) :
    Calls Tryz.prog 51 #[.pointer (some ⟨b, 0, none⟩), sv s, v] w fun e w' => e = .returned (.int .i64 0) ∧ Rep w' b (Vf.pend { Vf.tick σ with held := M' } s) (grow S w w') ∧ Moved S w w' := by
  have hfn : fs L = none := by have := h.dom L; rw [hx] at this; simpa using this
  clear hx
  have h1 := h.alloc (bx s)
  have c3 := h1.cells.2.2.2.1
  have c4 := h1.cells.2.2.2.2.1
  have f3 := h1.unfrozen 3
  have f4 := h1.unfrozen 4
  have q0 : (σ.fuse == 0) = false := by simpa using h0
  have TK := ticked h s
  have R1 := ren_any _ bh σ.held s so TK.rep.drew.held hM hv L HL M' HM
  obtain ⟨⟨fl, fu⟩, hst⟩ := ok
  unfold tickW at TK R1
  obtain ⟨K, hK⟩ : ∃ K : Int, K = (s.kind : Int) := ⟨_, rfl⟩
  have k0 : (K == 0) = false := by rw [hK]; rcases hk with hk | hk <;> rw [hk] <;> rfl
  have k1 : (K == 1) = false := by rw [hK]; rcases hk with hk | hk <;> rw [hk] <;> rfl
  have hb : (K == 2) = true ∨ ((K == 2) = false ∧ (K == 3) = true) := by
    rcases hk with hk | hk <;> rw [hk] at hK <;> subst hK
    · exact .inl rfl
    · exact .inr ⟨rfl, rfl⟩
  have HK : Hid (K = (s.kind : Int)) := hK
  unfold bx at TK R1 c3 c4 f3 f4
  unfold sv at R1 ⊢
  rw [← hK] at TK R1 c3 c4 f3 f4 ⊢
  clear h h1 h0 hk hK hM hv HL HM so
  obtain ⟨fz, hfz⟩ : ∃ z, z = σ.fuse := ⟨_, rfl⟩
  obtain ⟨sz, hsz⟩ : ∃ z, z = σ.steps := ⟨_, rfl⟩
  rw [← hfz] at TK R1 c3 q0 fl fu
  rw [← hsz] at TK R1 c4 hst
  clear hfz hsz
  by_cases e : fz = -1
  · have q1 : (fz != -1) = false := by simp [e]
    rw [if_pos e] at TK R1
    clear e
    have P1 := cells7 (TK.rep.drew.cells.2.2.2.2.2.1) (TK.rep.drew.cells.2.2.2.2.2.2.1) (TK.box.same (W' := World.drew _) rfl)
    rcases hb with k2 | ⟨k2, k3⟩
    all_goals
      go_enter Tryz.func51, Tryz.ntmps51
      go_wp2_with (fail)
      go_region_held3 (fun w' => w'.cell? ⟨b, 5, none⟩ = some (.map (some bf)) ∧ w'.cell? ⟨b, 6, none⟩ = some (.map (some bh)) ∧ w'.cell? ⟨w.heap.size, 0, none⟩ = some (.int .i64 K) ∧ w'.cell? ⟨w.heap.size, 1, none⟩ = some (.int .i64 (s.file : Int)) ∧ w'.cell? ⟨w.heap.size, 2, none⟩ = some (.int .i64 (s.size : Int)) ∧ w'.cell? ⟨w.heap.size, 3, none⟩ = some (str s.name) ∧ w'.cell? ⟨w.heap.size, 4, none⟩ = some (str s.to))
        (first | exact P1 | exact P3)
        (first | (go_at_call 80; refine R1.mono ?_; rintro e w3 ⟨rfl, n3, g3, z3⟩; have H3 := TK.rep.drew.turnH (only_grown g3) M' n3; have X3 := (TK.box.same (W' := World.drew _) rfl).same (g3.block w.heap.size TK.box.lt (fun e => TK.new (by cases e; exact TK.rep.sh))); have P3 := cells7 (H3.cells.2.2.2.2.2.1) (H3.cells.2.2.2.2.2.2.1) X3; have L3 := H3.files.look L (by omega); rw [ptr_none hfn] at L3; clear z3 n3))
      go_wp2_with (fail)
      have HG : RepAt w3 b bf bh bd pv fs sl _ (grow S w w3) := H3.wide (fun i hi => .inl hi) (fun i hi => by rcases hi with hi | hi; exact H3.low i hi; exact hi.2)
      obtain ⟨z8, z0, z1, z2, z3, z4⟩ := cells6 (H3.cells.2.2.2.2.2.2.2.2) X3
      obtain ⟨y8, y0, y1, y2, y3, y4⟩ := cells6_alloc (.cells #[.int .i64 K, .int .i64 (s.file : Int), .int .i64 (s.size : Int), str s.name, str s.to] 102) (H3.cells.2.2.2.2.2.2.2.2) X3
      have OW : (w3.alloc (.cells #[.int .i64 K, .int .i64 (s.file : Int), .int .i64 (s.size : Int), str s.name, str s.to] 102)).drew.ownsRow 0 102 5 pv σ.pending.length (scs σ.pending) := (H3.pend.alloc _).drew
      have HB := pend_box (W := w3) (s := s) HK.out
      have MW : Hid _ := (TK.moved.drew.grown g3 (fun k e _ => by cases e; exact TK.rep.sh))
      have HH : Hid _ := H3
      have XX : Hid _ := X3
      go_region_law (refine step_pend _ (by rfl) _ _ (by rfl) pv σ.pending s (by rfl) OW w3.heap.size 1 (by rfl) HB hp ?_; intro g4 cap4 n4 w4 HN4 o4 gr4 hl4 lt4; have P4 := cells6_grown HH.out XX.out TK.new gr4; have f8 := unfrozen8 HH.out gr4; obtain ⟨p8, p0, p1, p2, p3, p4⟩ := P4)
      all_goals
        go_wp2_with (fail)
        go_ret
        obtain ⟨F1, F2⟩ := put_end HG MW.out MW.out.size (grownBy_undrew' gr4) HN4.out o4 hl4.out lt4
        exact ⟨rfl, F1, F2⟩
  · have q1 : (fz != -1) = true := by simp [e]
    rw [if_neg e] at TK R1
    have P1 := cells7 (TK.rep.drew.cells.2.2.2.2.2.1) (TK.rep.drew.cells.2.2.2.2.2.2.1) (TK.box.same (W' := World.drew _) rfl)
    rcases hb with k2 | ⟨k2, k3⟩
    all_goals
      go_enter Tryz.func51, Tryz.ntmps51
      go_wp2_with (fail)
      go_region_held3 (fun w' => w'.cell? ⟨b, 5, none⟩ = some (.map (some bf)) ∧ w'.cell? ⟨b, 6, none⟩ = some (.map (some bh)) ∧ w'.cell? ⟨w.heap.size, 0, none⟩ = some (.int .i64 K) ∧ w'.cell? ⟨w.heap.size, 1, none⟩ = some (.int .i64 (s.file : Int)) ∧ w'.cell? ⟨w.heap.size, 2, none⟩ = some (.int .i64 (s.size : Int)) ∧ w'.cell? ⟨w.heap.size, 3, none⟩ = some (str s.name) ∧ w'.cell? ⟨w.heap.size, 4, none⟩ = some (str s.to))
        (first | exact P1 | exact P3)
        (first | (go_at_call 80; refine R1.mono ?_; rintro e w3 ⟨rfl, n3, g3, z3⟩; have H3 := TK.rep.drew.turnH (only_grown g3) M' n3; have X3 := (TK.box.same (W' := World.drew _) rfl).same (g3.block w.heap.size TK.box.lt (fun e => TK.new (by cases e; exact TK.rep.sh))); have P3 := cells7 (H3.cells.2.2.2.2.2.1) (H3.cells.2.2.2.2.2.2.1) X3; have L3 := H3.files.look L (by omega); rw [ptr_none hfn] at L3; clear z3 n3))
      go_wp2_with (fail)
      have HG : RepAt w3 b bf bh bd pv fs sl _ (grow S w w3) := H3.wide (fun i hi => .inl hi) (fun i hi => by rcases hi with hi | hi; exact H3.low i hi; exact hi.2)
      obtain ⟨z8, z0, z1, z2, z3, z4⟩ := cells6 (H3.cells.2.2.2.2.2.2.2.2) X3
      obtain ⟨y8, y0, y1, y2, y3, y4⟩ := cells6_alloc (.cells #[.int .i64 K, .int .i64 (s.file : Int), .int .i64 (s.size : Int), str s.name, str s.to] 102) (H3.cells.2.2.2.2.2.2.2.2) X3
      have OW : (w3.alloc (.cells #[.int .i64 K, .int .i64 (s.file : Int), .int .i64 (s.size : Int), str s.name, str s.to] 102)).drew.ownsRow 0 102 5 pv σ.pending.length (scs σ.pending) := (H3.pend.alloc _).drew
      have HB := pend_box (W := w3) (s := s) HK.out
      have MW : Hid _ := (TK.moved.drew.grown g3 (fun k e _ => by cases e; exact TK.rep.sh))
      have HH : Hid _ := H3
      have XX : Hid _ := X3
      go_region_law (refine step_pend _ (by rfl) _ _ (by rfl) pv σ.pending s (by rfl) OW w3.heap.size 1 (by rfl) HB hp ?_; intro g4 cap4 n4 w4 HN4 o4 gr4 hl4 lt4; have P4 := cells6_grown HH.out XX.out TK.new gr4; have f8 := unfrozen8 HH.out gr4; obtain ⟨p8, p0, p1, p2, p3, p4⟩ := P4)
      all_goals
        go_wp2_with (fail)
        go_ret
        obtain ⟨F1, F2⟩ := put_end HG MW.out MW.out.size (grownBy_undrew' gr4) HN4.out o4 hl4.out lt4
        exact ⟨rfl, F1, F2⟩

set_option maxHeartbeats 2000000 in
theorem do_move_some (w : World) (b bf bh bd : Nat) (pv : Value) (fs : Nat → Option Nat) (sl : Nat → Value) (σ : Vf.St) (S : Nat → Prop) (h : RepAt w b bf bh bd pv fs sl σ S) (s : Vf.Step) (hk : s.kind = 2 ∨ s.kind = 3) (v : Value) (h0 : σ.fuse ≠ 0) (ok : DoOk σ) (hp : σ.pending.length ≤ 1000000000) (so : StepOk s) (hM : σ.held.length ≤ 1000000000) (hv : ∀ k, Vf.num σ.held k ≤ 1000000000)
    (L : Nat) (HL : Hid (L = Vf.lost s σ.held)) (hL : L ≤ 1000000000) (M' : Vf.Nm) (HM : Hid (M' = Vf.ren s σ.held)) (x : Vf.File) (hx : σ.files L = some x) (hu : -1000000000000000000 ≤ σ.used ∧ σ.used ≤ 1000000000000000000) (hxl : x.bytes.length ≤ 1000000000000000000) (U : Int) (HU : Hid (U = σ.used)) (nx : Nat) (HX2 : Hid (nx = x.bytes.length)) :
    Calls Tryz.prog 51 #[.pointer (some ⟨b, 0, none⟩), sv s, v] w fun e w' => e = .returned (.int .i64 0) ∧ Rep w' b (Vf.pend { Vf.tick σ with held := M', used := U - (nx : Int) } s) (grow S w w') ∧ Moved S w w' := by
  obtain ⟨gx, hgx⟩ : ∃ g, fs L = some g := by have := h.dom L; rw [hx] at this; exact Option.isSome_iff_exists.1 this
  obtain ⟨ax, cx, hsl⟩ := row_shape (h.file L gx x hgx hx).2
  have HX : Hid (σ.files L = some x) := hx
  clear hx
  obtain ⟨u1, u2⟩ := hu
  rw [← HU.out] at u1 u2
  rw [← HX2.out] at hxl hsl
  have h1 := h.alloc (bx s)
  have c3 := h1.cells.2.2.2.1
  have c4 := h1.cells.2.2.2.2.1
  have f3 := h1.unfrozen 3
  have f4 := h1.unfrozen 4
  have q0 : (σ.fuse == 0) = false := by simpa using h0
  have TK := ticked h s
  have R1 := ren_any _ bh σ.held s so TK.rep.drew.held hM hv L HL M' HM
  obtain ⟨⟨fl, fu⟩, hst⟩ := ok
  unfold tickW at TK R1
  obtain ⟨K, hK⟩ : ∃ K : Int, K = (s.kind : Int) := ⟨_, rfl⟩
  have k0 : (K == 0) = false := by rw [hK]; rcases hk with hk | hk <;> rw [hk] <;> rfl
  have k1 : (K == 1) = false := by rw [hK]; rcases hk with hk | hk <;> rw [hk] <;> rfl
  have hb : (K == 2) = true ∨ ((K == 2) = false ∧ (K == 3) = true) := by
    rcases hk with hk | hk <;> rw [hk] at hK <;> subst hK
    · exact .inl rfl
    · exact .inr ⟨rfl, rfl⟩
  have HK : Hid (K = (s.kind : Int)) := hK
  unfold bx at TK R1 c3 c4 f3 f4
  unfold sv at R1 ⊢
  rw [← hK] at TK R1 c3 c4 f3 f4 ⊢
  clear h h1 h0 hk hK hM hv HL HM so
  obtain ⟨fz, hfz⟩ : ∃ z, z = σ.fuse := ⟨_, rfl⟩
  obtain ⟨sz, hsz⟩ : ∃ z, z = σ.steps := ⟨_, rfl⟩
  rw [← hfz] at TK R1 c3 q0 fl fu
  rw [← hsz] at TK R1 c4 hst
  clear hfz hsz
  by_cases e : fz = -1
  · have q1 : (fz != -1) = false := by simp [e]
    rw [if_pos e] at TK R1
    clear e
    have P1 := cells7 (TK.rep.drew.cells.2.2.2.2.2.1) (TK.rep.drew.cells.2.2.2.2.2.2.1) (TK.box.same (W' := World.drew _) rfl)
    rcases hb with k2 | ⟨k2, k3⟩
    all_goals
      go_enter Tryz.func51, Tryz.ntmps51
      go_wp2_with (fail)
      go_region_held3 (fun w' => w'.cell? ⟨b, 5, none⟩ = some (.map (some bf)) ∧ w'.cell? ⟨b, 6, none⟩ = some (.map (some bh)) ∧ w'.cell? ⟨w.heap.size, 0, none⟩ = some (.int .i64 K) ∧ w'.cell? ⟨w.heap.size, 1, none⟩ = some (.int .i64 (s.file : Int)) ∧ w'.cell? ⟨w.heap.size, 2, none⟩ = some (.int .i64 (s.size : Int)) ∧ w'.cell? ⟨w.heap.size, 3, none⟩ = some (str s.name) ∧ w'.cell? ⟨w.heap.size, 4, none⟩ = some (str s.to))
        (first | exact P1 | exact P3)
        (first | (go_at_call 80; refine R1.mono ?_; rintro e w3 ⟨rfl, n3, g3, z3⟩; have H3 := TK.rep.drew.turnH (only_grown g3) M' n3; have X3 := (TK.box.same (W' := World.drew _) rfl).same (g3.block w.heap.size TK.box.lt (fun e => TK.new (by cases e; exact TK.rep.sh))); have P3 := cells7 (H3.cells.2.2.2.2.2.1) (H3.cells.2.2.2.2.2.2.1) X3; have L3 := H3.files.look L (by omega); rw [ptr_some hgx] at L3; have d0 : w3.cell? ⟨gx, 0, none⟩ = some (.slice ax nx cx) := (by have := Joins.cell_of_block (H3.file L gx x hgx HX.out).1 0; rw [hsl] at this; exact this); have d1 : w3.cell? ⟨b, 1, none⟩ = some (.int .i64 U) := (by rw [HU.out]; exact H3.cells.2.1); have f1 := H3.unfrozen 1; clear z3 n3))
      have H4 := (H3.field 1 (.int .i64 (U - (nx : Int))) { Vf.tick σ with held := M', used := U - (nx : Int) } rfl rfl rfl rfl rfl (Nat.le_refl _)).drew
      have X4 : Box (w3.setCell ⟨b, 1, none⟩ (.int .i64 (U - (nx : Int)))).drew w.heap.size K s := X3.same (Below.heap_setCell w3 ⟨b, 1, none⟩ _ w.heap.size (fun e => TK.new (by have e' : w.heap.size = b := e; rw [e']; exact TK.rep.sb)))
      have M4 : Moved S w (w3.setCell ⟨b, 1, none⟩ (.int .i64 (U - (nx : Int)))).drew := ((TK.moved.drew.grown g3 (fun k e _ => by cases e; exact TK.rep.sh)).setCell (fun _ => TK.rep.sb) _).drew
      go_wp2_with (fail)
      go_region
      go_wp2_with (fail)
      generalize hW5 : (w3.setCell ⟨b, 1, none⟩ (.int .i64 (U - (nx : Int)))).drew = W5 at H4 X4 M4 ⊢
      clear hW5 d0 d1 f1 L3
      have HG : RepAt W5 b bf bh bd pv fs sl _ (grow S w W5) := H4.wide (fun i hi => .inl hi) (fun i hi => by rcases hi with hi | hi; exact H4.low i hi; exact hi.2)
      obtain ⟨z8, z0, z1, z2, z3, z4⟩ := cells6 (H4.cells.2.2.2.2.2.2.2.2) X4
      obtain ⟨y8, y0, y1, y2, y3, y4⟩ := cells6_alloc (.cells #[.int .i64 K, .int .i64 (s.file : Int), .int .i64 (s.size : Int), str s.name, str s.to] 102) (H4.cells.2.2.2.2.2.2.2.2) X4
      have OW : (W5.alloc (.cells #[.int .i64 K, .int .i64 (s.file : Int), .int .i64 (s.size : Int), str s.name, str s.to] 102)).drew.ownsRow 0 102 5 pv σ.pending.length (scs σ.pending) := (H4.pend.alloc _).drew
      have HB := pend_box (W := W5) (s := s) HK.out
      have MW : Hid _ := M4
      have HH : Hid _ := H4
      have XX : Hid _ := X4
      go_region_law (refine step_pend _ (by rfl) _ _ (by rfl) pv σ.pending s (by rfl) OW W5.heap.size 1 (by rfl) HB hp ?_; intro g4 cap4 n4 w4 HN4 o4 gr4 hl4 lt4; have P4 := cells6_grown HH.out XX.out TK.new gr4; have f8 := unfrozen8 HH.out gr4; obtain ⟨p8, p0, p1, p2, p3, p4⟩ := P4)
      all_goals
        go_wp2_with (fail)
        go_ret
        obtain ⟨F1, F2⟩ := put_end HG MW.out MW.out.size (grownBy_undrew' gr4) HN4.out o4 hl4.out lt4
        exact ⟨rfl, F1, F2⟩
  · have q1 : (fz != -1) = true := by simp [e]
    rw [if_neg e] at TK R1
    have P1 := cells7 (TK.rep.drew.cells.2.2.2.2.2.1) (TK.rep.drew.cells.2.2.2.2.2.2.1) (TK.box.same (W' := World.drew _) rfl)
    rcases hb with k2 | ⟨k2, k3⟩
    all_goals
      go_enter Tryz.func51, Tryz.ntmps51
      go_wp2_with (fail)
      go_region_held3 (fun w' => w'.cell? ⟨b, 5, none⟩ = some (.map (some bf)) ∧ w'.cell? ⟨b, 6, none⟩ = some (.map (some bh)) ∧ w'.cell? ⟨w.heap.size, 0, none⟩ = some (.int .i64 K) ∧ w'.cell? ⟨w.heap.size, 1, none⟩ = some (.int .i64 (s.file : Int)) ∧ w'.cell? ⟨w.heap.size, 2, none⟩ = some (.int .i64 (s.size : Int)) ∧ w'.cell? ⟨w.heap.size, 3, none⟩ = some (str s.name) ∧ w'.cell? ⟨w.heap.size, 4, none⟩ = some (str s.to))
        (first | exact P1 | exact P3)
        (first | (go_at_call 80; refine R1.mono ?_; rintro e w3 ⟨rfl, n3, g3, z3⟩; have H3 := TK.rep.drew.turnH (only_grown g3) M' n3; have X3 := (TK.box.same (W' := World.drew _) rfl).same (g3.block w.heap.size TK.box.lt (fun e => TK.new (by cases e; exact TK.rep.sh))); have P3 := cells7 (H3.cells.2.2.2.2.2.1) (H3.cells.2.2.2.2.2.2.1) X3; have L3 := H3.files.look L (by omega); rw [ptr_some hgx] at L3; have d0 : w3.cell? ⟨gx, 0, none⟩ = some (.slice ax nx cx) := (by have := Joins.cell_of_block (H3.file L gx x hgx HX.out).1 0; rw [hsl] at this; exact this); have d1 : w3.cell? ⟨b, 1, none⟩ = some (.int .i64 U) := (by rw [HU.out]; exact H3.cells.2.1); have f1 := H3.unfrozen 1; clear z3 n3))
      have H4 := (H3.field 1 (.int .i64 (U - (nx : Int))) { Vf.tick σ with held := M', used := U - (nx : Int) } rfl rfl rfl rfl rfl (Nat.le_refl _)).drew
      have X4 : Box (w3.setCell ⟨b, 1, none⟩ (.int .i64 (U - (nx : Int)))).drew w.heap.size K s := X3.same (Below.heap_setCell w3 ⟨b, 1, none⟩ _ w.heap.size (fun e => TK.new (by have e' : w.heap.size = b := e; rw [e']; exact TK.rep.sb)))
      have M4 : Moved S w (w3.setCell ⟨b, 1, none⟩ (.int .i64 (U - (nx : Int)))).drew := ((TK.moved.drew.grown g3 (fun k e _ => by cases e; exact TK.rep.sh)).setCell (fun _ => TK.rep.sb) _).drew
      go_wp2_with (fail)
      go_region
      go_wp2_with (fail)
      generalize hW5 : (w3.setCell ⟨b, 1, none⟩ (.int .i64 (U - (nx : Int)))).drew = W5 at H4 X4 M4 ⊢
      clear hW5 d0 d1 f1 L3
      have HG : RepAt W5 b bf bh bd pv fs sl _ (grow S w W5) := H4.wide (fun i hi => .inl hi) (fun i hi => by rcases hi with hi | hi; exact H4.low i hi; exact hi.2)
      obtain ⟨z8, z0, z1, z2, z3, z4⟩ := cells6 (H4.cells.2.2.2.2.2.2.2.2) X4
      obtain ⟨y8, y0, y1, y2, y3, y4⟩ := cells6_alloc (.cells #[.int .i64 K, .int .i64 (s.file : Int), .int .i64 (s.size : Int), str s.name, str s.to] 102) (H4.cells.2.2.2.2.2.2.2.2) X4
      have OW : (W5.alloc (.cells #[.int .i64 K, .int .i64 (s.file : Int), .int .i64 (s.size : Int), str s.name, str s.to] 102)).drew.ownsRow 0 102 5 pv σ.pending.length (scs σ.pending) := (H4.pend.alloc _).drew
      have HB := pend_box (W := W5) (s := s) HK.out
      have MW : Hid _ := M4
      have HH : Hid _ := H4
      have XX : Hid _ := X4
      go_region_law (refine step_pend _ (by rfl) _ _ (by rfl) pv σ.pending s (by rfl) OW W5.heap.size 1 (by rfl) HB hp ?_; intro g4 cap4 n4 w4 HN4 o4 gr4 hl4 lt4; have P4 := cells6_grown HH.out XX.out TK.new gr4; have f8 := unfrozen8 HH.out gr4; obtain ⟨p8, p0, p1, p2, p3, p4⟩ := P4)
      all_goals
        go_wp2_with (fail)
        go_ret
        obtain ⟨F1, F2⟩ := put_end HG MW.out MW.out.size (grownBy_undrew' gr4) HN4.out o4 hl4.out lt4
        exact ⟨rfl, F1, F2⟩
end Go.Proofs.YtlhnjloimhcpfabGreatDoor
namespace Go.Proofs.YtlhnjloimhcpfabGreatDoor
open Go.RowKit Go.Maps

/-- A file comes. -/
theorem RepAt.addFile {W : World} {b bf bh bd : Nat} {pv : Value} {fs : Nat → Option Nat} {sl : Nat → Value} {σ : Vf.St} {S : Nat → Prop} (h : RepAt W b bf bh bd pv fs sl σ S) (N : Nat) (hN : σ.files N = none) {w5 : World} (g5 : (W.alloc (.cells #[.slice none 0 0, .int .i64 0] 71)).drew.grownBy w5 (some bf)) (p5 : PtrsAt w5 bf σ.steps (setG fs N (some W.heap.size))) :
    RepAt w5 b bf bh bd pv (setG fs N (some W.heap.size)) (fun k => if k = N then .slice none 0 0 else sl k) { σ with files := Vf.setF σ.files N (some ⟨[], 0⟩) } (fun i => S i ∨ i = W.heap.size) := by
  have hz := g5.size
  have hz' : W.heap.size + 1 ≤ w5.heap.size := by have e : (W.alloc (.cells #[.slice none 0 0, .int .i64 0] 71)).drew.heap.size = W.heap.size + 1 := World.size_alloc _ _; omega
  have ho : ∀ i, i < W.heap.size → i ≠ bf → w5.heap[i]? = W.heap[i]? := fun i hi hne => (g5.block i (by show i < (W.alloc _).heap.size; simp; omega) (by simp; exact hne)).trans (Below.heap_alloc W _ i hi)
  have hnew : w5.heap[W.heap.size]? = some (.cells #[.slice none 0 0, .int .i64 0] 71 (0, 0)) := (g5.block W.heap.size (by show _ < (W.alloc _).heap.size; simp) (by have := h.files.lt; simp; omega)).trans (new_block W _)
  have hfn : fs N = none := by have := h.dom N; rw [hN] at this; simpa using this
  have hs : ∀ k g, setG fs N (some W.heap.size) k = some g → (k = N ∧ g = W.heap.size) ∨ (k ≠ N ∧ fs k = some g) := fun k g hk => by
    unfold setG at hk
    by_cases e : k = N
    · simp [e] at hk; exact .inl ⟨e, hk.symm⟩
    · simp [e] at hk; exact .inr ⟨e, hk⟩
  have hs' : ∀ k, setG fs N (some W.heap.size) k ≠ none → k ≠ N → fs k ≠ none := fun k hk hne => by simpa [setG, hne] using hk
  refine ⟨(ho b (h.low _ h.sb) (ne_kind h.kb h.files.kind (by simp))).trans h.blk, p5, h.held.same (ho _ h.held.lt h.fh.symm), h.dur.same (ho _ h.dur.lt h.fd.symm),
    ownsRow_same h.pend fun g hg => ho g (h.low _ (h.sp g hg)) (ne_kind (h.kp hg) h.files.kind (by simp)), fun k => ?_,
    fun k g x hk hx => ?_, fun k k' g h1 h2 => ?_, fun k k' g h1 h2 h3 h4 => ?_, h.fh, h.fd, h.hd, .inl h.sb, .inl h.sf, .inl h.sh, .inl h.sd, fun g hg => .inl (h.sp g hg), fun k g hk => ?_, fun k g hk hg => ?_, fun i hi => ?_⟩
  · unfold setG Vf.setF
    by_cases e : k = N
    · simp [e]
    · simp [e, h.dom k]
  · rcases hs k g hk with ⟨rfl, rfl⟩ | ⟨hne, hk'⟩
    · simp [Vf.setF] at hx
      subst hx
      simp
      exact ⟨hnew, World.ownsRow_nil _ _ _ _⟩
    · simp [Vf.setF, hne] at hx
      simp [hne]
      refine ⟨(ho g (h.low _ (h.sg k g hk')) (ne_kind (h.kg hk') h.files.kind (by simp))).trans (h.file k g x hk' hx).1, ownsRow_same (h.file k g x hk' hx).2 fun r hr => ?_⟩
      have hne0 : fs k ≠ none := by rw [hk']; simp
      exact ho r (h.low _ (h.sr k r hne0 hr)) (ne_kind (h.kr hne0 hr) h.files.kind (by simp))
  · rcases hs k g h1 with ⟨rfl, rfl⟩ | ⟨n1, e1⟩ <;> rcases hs k' _ h2 with ⟨e3, e4⟩ | ⟨n2, e2⟩
    · exact e3.symm
    · have := h.low _ (h.sg k' _ e2); omega
    · have := h.low _ (h.sg k _ e1); omega
    · exact h.inj k k' g e1 e2
  · by_cases e1 : k = N
    · simp [e1, Value.ownBlock] at h3
    · by_cases e2 : k' = N
      · simp [e2, Value.ownBlock] at h4
      · simp [e1] at h3
        simp [e2] at h4
        exact h.rows k k' g (hs' k h1 e1) (hs' k' h2 e2) h3 h4
  · rcases hs k g hk with ⟨_, rfl⟩ | ⟨_, e⟩
    · exact .inr rfl
    · exact .inl (h.sg k g e)
  · by_cases e1 : k = N
    · simp [e1, Value.ownBlock] at hg
    · simp [e1] at hg
      exact .inl (h.sr k g (hs' k hk e1) hg)
  · rcases hi with hi | hi
    · have := h.low i hi; omega
    · omega

theorem cells6' {W : World} {b bh : Nat} {B : Nat} {K : Int} {s2 : Vf.Step} (h6 : W.cell? ⟨b, 6, none⟩ = some (.map (some bh))) (hx : Box W B K s2) :
    W.cell? ⟨b, 6, none⟩ = some (.map (some bh)) ∧ W.cell? ⟨B, 0, none⟩ = some (.int .i64 K) ∧ W.cell? ⟨B, 1, none⟩ = some (.int .i64 (s2.file : Int)) ∧ W.cell? ⟨B, 2, none⟩ = some (.int .i64 (s2.size : Int)) ∧ W.cell? ⟨B, 3, none⟩ = some (str s2.name) ∧ W.cell? ⟨B, 4, none⟩ = some (str s2.to) :=
  ⟨h6, hx.c0, hx.c1, hx.c2, hx.c3, hx.c4⟩

theorem tick_files {w : World} {b bf bh bd : Nat} {pv : Value} {fs : Nat → Option Nat} {sl : Nat → Value} {σ : Vf.St} {S : Nat → Prop} (h : RepAt w b bf bh bd pv fs sl σ S) (o : Obj) : PtrsAt (tickW (w.alloc o) b σ) bf σ.steps fs := by
  have h1 := h.alloc o
  have nb : bf ≠ b := ne_kind h1.files.kind h1.kb (by simp)
  unfold tickW
  split
  · exact h1.files.same (Below.heap_setCell _ ⟨b, 4, none⟩ _ bf nb)
  · exact h1.files.same ((Below.heap_setCell _ ⟨b, 4, none⟩ _ bf nb).trans (Below.heap_setCell _ ⟨b, 3, none⟩ _ bf nb))

/-- The file's number is put into the box. -/
theorem Ticked.number {w W : World} {b bf bh bd : Nat} {pv : Value} {fs : Nat → Option Nat} {sl : Nat → Value} {σ : Vf.St} {S : Nat → Prop} {K : Int} {s : Vf.Step} (h : Ticked w W b bf bh bd pv fs sl σ S K s) (hb : W.heap[w.heap.size]? = some (.cells #[.int .i64 K, .int .i64 (s.file : Int), .int .i64 (s.size : Int), str s.name, str s.to] 102 (0, 0))) (s2 : Vf.Step) (N : Nat) (hs : s2 = { s with file := N }) (T1 : Int) (hT : T1 = (N : Int)) :
    Ticked w (W.setCell ⟨w.heap.size, 1, none⟩ (.int .i64 T1)) b bf bh bd pv fs sl σ S K s2 := by
  subst hs hT
  refine ⟨h.rep.same (fun i hi => Below.heap_setCell W ⟨w.heap.size, 1, none⟩ _ i (fun e => h.new (by have e' : i = w.heap.size := e; rw [← e']; exact hi))) (by simp [World.setCell]), h.moved.setCell (fun hlt => absurd hlt (Nat.lt_irrefl _)) _, ?_, by simp [World.setCell]; exact h.size, h.new⟩
  have e := Joins.block_setCell hb (i := 1) (.int .i64 (N : Int))
  exact ⟨Joins.cell_of_block e 0, Joins.cell_of_block e 1, Joins.cell_of_block e 2, Joins.cell_of_block e 3, Joins.cell_of_block e 4⟩

set_option maxHeartbeats 2000000 in
theorem do_name (w : World) (b bf bh bd : Nat) (pv : Value) (fs : Nat → Option Nat) (sl : Nat → Value) (σ : Vf.St) (S : Nat → Prop) (h : RepAt w b bf bh bd pv fs sl σ S) (s : Vf.Step) (hk : s.kind = 1) (v : Value) (h0 : σ.fuse ≠ 0) (ok : DoOk σ) (hp : σ.pending.length ≤ 1000000000) (so : StepOk s) (hM : σ.held.length ≤ 1000000000) (hv : ∀ k, Vf.num σ.held k ≤ 1000000000) (hF : σ.files (σ.steps + 1) = none)
    (s2 : Vf.Step) (hs2 : s2 = { s with file := σ.steps + 1 }) (M' : Vf.Nm) (HM : Hid (M' = Vf.put σ.held s2.name s2.file)) :
    Calls Tryz.prog 51 #[.pointer (some ⟨b, 0, none⟩), sv s, v] w fun e w' => e = .returned (.int .i64 0) ∧ Rep w' b (Vf.pend { Vf.tick σ with files := Vf.setF σ.files s2.file (some ⟨[], 0⟩), held := M' } s2) (grow S w w') ∧ Moved S w w' := by
  have h1 := h.alloc (bx s)
  have c3 := h1.cells.2.2.2.1
  have c4 := h1.cells.2.2.2.2.1
  have f3 := h1.unfrozen 3
  have f4 := h1.unfrozen 4
  have q0 : (σ.fuse == 0) = false := by simpa using h0
  have TK := ticked h s
  obtain ⟨⟨fl, fu⟩, hst⟩ := ok
  have hbx : (tickW (w.alloc (bx s)) b σ).heap[w.heap.size]? = some (bx s) := ((tick_moved h1).block w.heap.size (by simp) (fun hi => by have := h.low _ hi; omega)).trans (new_block w (bx s))
  have TK3 := TK.number hbx s2 (σ.steps + 1) hs2 ((σ.steps : Int) + 1) rfl
  have F3 : PtrsAt ((tickW (w.alloc (bx s)) b σ).setCell ⟨w.heap.size, 1, none⟩ (.int .i64 ((σ.steps : Int) + 1))) bf σ.steps fs := (tick_files h (bx s)).same (Below.heap_setCell _ ⟨w.heap.size, 1, none⟩ _ bf (by have := h.files.lt; show bf ≠ w.heap.size; omega))
  have hfile : s2.file = σ.steps + 1 := by rw [hs2]
  have so2 : StepOk s2 := by rw [hs2]; exact ⟨so.name, so.to, by show σ.steps + 1 ≤ _; omega, so.size, so.kind⟩
  have hT : (σ.steps : Int) + 1 = (s2.file : Int) := by rw [hfile]; rfl
  have HF : Hid ((Vf.tick σ).files s2.file = none) := by show σ.files s2.file = none; rw [hfile]; exact hF
  have HS2 : Hid ((Vf.tick σ).steps = σ.steps + 1) := rfl
  have hf9 : s2.file ≤ 1000000000 := so2.file
  have HKk : Hid (s2.kind = 1) := by show _ = _; rw [hs2]; exact hk
  obtain ⟨K, hK⟩ : ∃ K : Int, K = (s.kind : Int) := ⟨_, rfl⟩
  have HK2 : Hid (K = (s2.kind : Int)) := by show _ = _; rw [hs2]; exact hK
  have k0 : (K == 0) = false := by rw [hK, hk]; rfl
  have k1 : (K == 1) = true := by rw [hK, hk]; rfl
  have WZ : Hid (∀ i, S i → i < w.heap.size) := h.low
  unfold tickW at TK TK3 F3
  unfold bx at TK TK3 F3 c3 c4 f3 f4
  unfold sv
  rw [← hK] at TK TK3 F3 c3 c4 f3 f4 ⊢
  clear h h1 h0 hk hK so hs2 hbx hF hfile
  obtain ⟨fz, hfz⟩ : ∃ z, z = σ.fuse := ⟨_, rfl⟩
  obtain ⟨sz, hsz⟩ : ∃ z, z = σ.steps := ⟨_, rfl⟩
  rw [← hfz] at TK TK3 F3 c3 q0 fl fu
  rw [← hsz] at TK TK3 F3 c4 hst hT HS2
  clear hfz hsz
  by_cases e : fz = -1
  · have q1 : (fz != -1) = false := by simp [e]
    rw [if_pos e] at TK TK3 F3
    clear e
    go_enter Tryz.func51, Tryz.ntmps51
    go_wp2_with (fail)
    generalize hT1 : (sz : Int) + 1 = T1 at TK3 F3 hT ⊢
    clear hT1 TK c3 c4 f3 f4
    subst hT
    generalize hW3 : World.setCell _ ⟨w.heap.size, 1, none⟩ (.int .i64 (s2.file : Int)) = W3 at TK3 F3 ⊢
    clear hW3
    obtain ⟨w5, r5, p5, g5, z5⟩ := ((F3.same (w' := (W3.alloc (.cells #[.slice none 0 0, .int .i64 0] 71)).drew) (Below.heap_alloc W3 _ bf F3.lt))).put s2.file (by omega) W3.heap.size (by omega)
    have H5 := TK3.rep.addFile s2.file HF.out g5 (by rw [HS2.out]; exact p5)
    have X5 : Box w5 w.heap.size K s2 := TK3.box.same ((g5.block w.heap.size (by have := TK3.box.lt; show w.heap.size < (W3.alloc _).heap.size; simp; omega) (fun e => TK3.new (by cases e; exact TK3.rep.sf))).trans (Below.heap_alloc W3 _ _ TK3.box.lt))
    have y5 : (W3.alloc (.cells #[.slice none 0 0, .int .i64 0] 71)).cell? ⟨b, 5, none⟩ = some (.map (some bf)) := keepC ((Below.refl _ _).alloc (Nat.le_refl _) _) (TK3.rep.cells.2.2.2.2.2.1)
    have y1 : (W3.alloc (.cells #[.slice none 0 0, .int .i64 0] 71)).cell? ⟨w.heap.size, 1, none⟩ = some (.int .i64 (s2.file : Int)) := keepC ((Below.refl _ _).alloc (Nat.le_refl _) _) TK3.box.c1
    have x5 : W3.cell? ⟨b, 5, none⟩ = some (.map (some bf)) := TK3.rep.cells.2.2.2.2.2.1
    have x1 : W3.cell? ⟨w.heap.size, 1, none⟩ = some (.int .i64 (s2.file : Int)) := TK3.box.c1
    have M5 : Moved S w w5 := ((TK3.moved.alloc _).drew).grown g5 (fun k e _ => by cases e; exact TK3.rep.sf)
    have NEW : Hid (¬ (S w.heap.size ∨ w.heap.size = W3.heap.size)) := fun hh => by
      rcases hh with hh | hh
      · exact TK3.new hh
      · have := TK3.size; omega
    have Z3 : Hid (w.heap.size ≤ W3.heap.size) := by have := TK3.size; show _ ≤ _; omega
    have SH : Hid (S bh) := TK3.rep.sh
    have Z5 : Hid _ := z5
    clear z5 F3 p5
    go_region
    clear r5 y5 y1 x5 x1
    have R1 := ren_any w5.drew bh σ.held s2 so2 H5.drew.held hM hv 0 (by show _ = _; unfold Vf.lost; rw [HKk.out]; rfl) M' (by show _ = _; unfold Vf.ren; rw [HKk.out]; exact HM.out)
    unfold sv at R1
    rw [← HK2.out] at R1
    have P5 := cells6' (H5.drew.cells.2.2.2.2.2.2.1) (X5.same (W' := w5.drew) rfl)
    go_wp2_with (fail)
    go_region_held3 (fun w' => w'.cell? ⟨b, 6, none⟩ = some (.map (some bh)) ∧ w'.cell? ⟨w.heap.size, 0, none⟩ = some (.int .i64 K) ∧ w'.cell? ⟨w.heap.size, 1, none⟩ = some (.int .i64 (s2.file : Int)) ∧ w'.cell? ⟨w.heap.size, 2, none⟩ = some (.int .i64 (s2.size : Int)) ∧ w'.cell? ⟨w.heap.size, 3, none⟩ = some (str s2.name) ∧ w'.cell? ⟨w.heap.size, 4, none⟩ = some (str s2.to))
      (first | exact P5 | exact P6)
      (first | (go_at_call 80; refine R1.mono ?_; rintro e w6 ⟨rfl, n6, g6, z6⟩; have H6 := H5.drew.turnH (only_grown g6) M' n6; have X6 : Box w6 w.heap.size K s2 := (X5.same (W' := World.drew _) rfl).same (g6.block w.heap.size X5.lt (fun e => NEW.out (.inl (by cases e; exact SH.out)))); have P6 := cells6' (H6.cells.2.2.2.2.2.2.1) X6; have M6 : Moved S w w6 := (M5.drew.grown g6 (fun k e _ => by cases e; exact SH.out)); have WS : Hid (∀ i, (S i ∨ i = W3.heap.size) → grow S w w6 i) := (fun i hi => by rcases hi with hi | hi; exact .inl hi; exact .inr ⟨by rw [hi]; exact Z3.out, H6.low i (.inr hi)⟩); clear z6 n6))
    go_wp2_with (fail)
    have HG := H6.wide (T := grow S w w6) (fun i hi => WS.out i hi) (fun i hi => by rcases hi with hi | hi; exact H6.low i (.inl hi); exact hi.2)
    obtain ⟨z8, z0, z1, z2, z3, z4⟩ := cells6 (H6.cells.2.2.2.2.2.2.2.2) X6
    obtain ⟨y8, y0, y1, y2, y3, y4⟩ := cells6_alloc (.cells #[.int .i64 K, .int .i64 (s2.file : Int), .int .i64 (s2.size : Int), str s2.name, str s2.to] 102) (H6.cells.2.2.2.2.2.2.2.2) X6
    have OW : (w6.alloc (.cells #[.int .i64 K, .int .i64 (s2.file : Int), .int .i64 (s2.size : Int), str s2.name, str s2.to] 102)).drew.ownsRow 0 102 5 pv σ.pending.length (scs σ.pending) := (H6.pend.alloc _).drew
    have HB := pend_box (W := w6) (s := s2) HK2.out
    have MW : Hid _ := M6
    have HH : Hid _ := H6
    have XX : Hid _ := X6
    go_region_law (refine step_pend _ (by rfl) _ _ (by rfl) pv σ.pending s2 (by rfl) OW w6.heap.size 1 (by rfl) HB hp ?_; intro g4 cap4 n4 w4 HN4 o4 gr4 hl4 lt4; have P4 := cells6_grown HH.out XX.out NEW.out gr4; have f8 := unfrozen8 HH.out gr4; obtain ⟨p8, p0, p1, p2, p3, p4⟩ := P4)
    all_goals
      go_wp2_with (fail)
      go_ret
      obtain ⟨F1, F2⟩ := put_end HG MW.out MW.out.size (grownBy_undrew' gr4) HN4.out o4 hl4.out lt4
      exact ⟨rfl, F1, F2⟩
  · have q1 : (fz != -1) = true := by simp [e]
    rw [if_neg e] at TK TK3 F3
    go_enter Tryz.func51, Tryz.ntmps51
    go_wp2_with (fail)
    generalize hT1 : (sz : Int) + 1 = T1 at TK3 F3 hT ⊢
    clear hT1 TK c3 c4 f3 f4
    subst hT
    generalize hW3 : World.setCell _ ⟨w.heap.size, 1, none⟩ (.int .i64 (s2.file : Int)) = W3 at TK3 F3 ⊢
    clear hW3
    obtain ⟨w5, r5, p5, g5, z5⟩ := ((F3.same (w' := (W3.alloc (.cells #[.slice none 0 0, .int .i64 0] 71)).drew) (Below.heap_alloc W3 _ bf F3.lt))).put s2.file (by omega) W3.heap.size (by omega)
    have H5 := TK3.rep.addFile s2.file HF.out g5 (by rw [HS2.out]; exact p5)
    have X5 : Box w5 w.heap.size K s2 := TK3.box.same ((g5.block w.heap.size (by have := TK3.box.lt; show w.heap.size < (W3.alloc _).heap.size; simp; omega) (fun e => TK3.new (by cases e; exact TK3.rep.sf))).trans (Below.heap_alloc W3 _ _ TK3.box.lt))
    have y5 : (W3.alloc (.cells #[.slice none 0 0, .int .i64 0] 71)).cell? ⟨b, 5, none⟩ = some (.map (some bf)) := keepC ((Below.refl _ _).alloc (Nat.le_refl _) _) (TK3.rep.cells.2.2.2.2.2.1)
    have y1 : (W3.alloc (.cells #[.slice none 0 0, .int .i64 0] 71)).cell? ⟨w.heap.size, 1, none⟩ = some (.int .i64 (s2.file : Int)) := keepC ((Below.refl _ _).alloc (Nat.le_refl _) _) TK3.box.c1
    have x5 : W3.cell? ⟨b, 5, none⟩ = some (.map (some bf)) := TK3.rep.cells.2.2.2.2.2.1
    have x1 : W3.cell? ⟨w.heap.size, 1, none⟩ = some (.int .i64 (s2.file : Int)) := TK3.box.c1
    have M5 : Moved S w w5 := ((TK3.moved.alloc _).drew).grown g5 (fun k e _ => by cases e; exact TK3.rep.sf)
    have NEW : Hid (¬ (S w.heap.size ∨ w.heap.size = W3.heap.size)) := fun hh => by
      rcases hh with hh | hh
      · exact TK3.new hh
      · have := TK3.size; omega
    have Z3 : Hid (w.heap.size ≤ W3.heap.size) := by have := TK3.size; show _ ≤ _; omega
    have SH : Hid (S bh) := TK3.rep.sh
    have Z5 : Hid _ := z5
    clear z5 F3 p5
    go_region
    clear r5 y5 y1 x5 x1
    have R1 := ren_any w5.drew bh σ.held s2 so2 H5.drew.held hM hv 0 (by show _ = _; unfold Vf.lost; rw [HKk.out]; rfl) M' (by show _ = _; unfold Vf.ren; rw [HKk.out]; exact HM.out)
    unfold sv at R1
    rw [← HK2.out] at R1
    have P5 := cells6' (H5.drew.cells.2.2.2.2.2.2.1) (X5.same (W' := w5.drew) rfl)
    go_wp2_with (fail)
    go_region_held3 (fun w' => w'.cell? ⟨b, 6, none⟩ = some (.map (some bh)) ∧ w'.cell? ⟨w.heap.size, 0, none⟩ = some (.int .i64 K) ∧ w'.cell? ⟨w.heap.size, 1, none⟩ = some (.int .i64 (s2.file : Int)) ∧ w'.cell? ⟨w.heap.size, 2, none⟩ = some (.int .i64 (s2.size : Int)) ∧ w'.cell? ⟨w.heap.size, 3, none⟩ = some (str s2.name) ∧ w'.cell? ⟨w.heap.size, 4, none⟩ = some (str s2.to))
      (first | exact P5 | exact P6)
      (first | (go_at_call 80; refine R1.mono ?_; rintro e w6 ⟨rfl, n6, g6, z6⟩; have H6 := H5.drew.turnH (only_grown g6) M' n6; have X6 : Box w6 w.heap.size K s2 := (X5.same (W' := World.drew _) rfl).same (g6.block w.heap.size X5.lt (fun e => NEW.out (.inl (by cases e; exact SH.out)))); have P6 := cells6' (H6.cells.2.2.2.2.2.2.1) X6; have M6 : Moved S w w6 := (M5.drew.grown g6 (fun k e _ => by cases e; exact SH.out)); have WS : Hid (∀ i, (S i ∨ i = W3.heap.size) → grow S w w6 i) := (fun i hi => by rcases hi with hi | hi; exact .inl hi; exact .inr ⟨by rw [hi]; exact Z3.out, H6.low i (.inr hi)⟩); clear z6 n6))
    go_wp2_with (fail)
    have HG := H6.wide (T := grow S w w6) (fun i hi => WS.out i hi) (fun i hi => by rcases hi with hi | hi; exact H6.low i (.inl hi); exact hi.2)
    obtain ⟨z8, z0, z1, z2, z3, z4⟩ := cells6 (H6.cells.2.2.2.2.2.2.2.2) X6
    obtain ⟨y8, y0, y1, y2, y3, y4⟩ := cells6_alloc (.cells #[.int .i64 K, .int .i64 (s2.file : Int), .int .i64 (s2.size : Int), str s2.name, str s2.to] 102) (H6.cells.2.2.2.2.2.2.2.2) X6
    have OW : (w6.alloc (.cells #[.int .i64 K, .int .i64 (s2.file : Int), .int .i64 (s2.size : Int), str s2.name, str s2.to] 102)).drew.ownsRow 0 102 5 pv σ.pending.length (scs σ.pending) := (H6.pend.alloc _).drew
    have HB := pend_box (W := w6) (s := s2) HK2.out
    have MW : Hid _ := M6
    have HH : Hid _ := H6
    have XX : Hid _ := X6
    go_region_law (refine step_pend _ (by rfl) _ _ (by rfl) pv σ.pending s2 (by rfl) OW w6.heap.size 1 (by rfl) HB hp ?_; intro g4 cap4 n4 w4 HN4 o4 gr4 hl4 lt4; have P4 := cells6_grown HH.out XX.out NEW.out gr4; have f8 := unfrozen8 HH.out gr4; obtain ⟨p8, p0, p1, p2, p3, p4⟩ := P4)
    all_goals
      go_wp2_with (fail)
      go_ret
      obtain ⟨F1, F2⟩ := put_end HG MW.out MW.out.size (grownBy_undrew' gr4) HN4.out o4 hl4.out lt4
      exact ⟨rfl, F1, F2⟩
end Go.Proofs.YtlhnjloimhcpfabGreatDoor
namespace Go.Proofs.YtlhnjloimhcpfabGreatDoor
open Go.RowKit Go.Maps

/-- Bytes put behind a file's bytes, and the file's block told of it. -/
theorem RepAt.turnRow {W : World} {b bf bh bd : Nat} {pv : Value} {fs : Nat → Option Nat} {sl : Nat → Value} {σ : Vf.St} {S : Nat → Prop} (h : RepAt W b bf bh bd pv fs sl σ S) {n gx : Nat} {x : Vf.File} (hn : fs n = some gx) (hx : σ.files n = some x) {w4 : World} {g4 cap4 L4 : Nat} {p : Vf.Bs} (e4 : Ext 0 W (sl n) w4 (.slice (some ⟨g4, 0, none⟩) L4 cap4) (x.bytes ++ p)) (_ : L4 = (x.bytes ++ p).length) :
    RepAt (w4.setCell ⟨gx, 0, none⟩ (.slice (some ⟨g4, 0, none⟩) L4 cap4)) b bf bh bd pv fs (fun k => if k = n then .slice (some ⟨g4, 0, none⟩) L4 cap4 else sl k) { σ with files := Vf.setF σ.files n (some { x with bytes := x.bytes ++ p }) } (fun i => S i ∨ i = g4) := by
  have hn0 : fs n ≠ none := by rw [hn]; simp
  have hzs : (w4.setCell ⟨gx, 0, none⟩ (.slice (some ⟨g4, 0, none⟩) L4 cap4)).heap.size = w4.heap.size := by simp [World.setCell]
  have hz := e4.grown.size
  have hlt : g4 < w4.heap.size := by
    have := e4.own.lt g4 rfl
    exact this.2
  have nrow : ∀ i, kindAt W i ≠ some (some 5) → some i ≠ (sl n).ownBlock := fun i hi e => hi (h.kr hn0 e.symm)
  have ho : ∀ i, i < W.heap.size → i ≠ gx → some i ≠ (sl n).ownBlock → (w4.setCell ⟨gx, 0, none⟩ (.slice (some ⟨g4, 0, none⟩) L4 cap4)).heap[i]? = W.heap[i]? := fun i hi h1 h2 => (Below.heap_setCell w4 ⟨gx, 0, none⟩ _ i h1).trans (e4.grown.block i hi h2)
  have kg := h.kg hn
  have hgb : w4.heap[gx]? = some (.cells #[sl n, .int .i64 (x.synced : Int)] 71 (0, 0)) := (e4.grown.block gx (h.low _ (h.sg n gx hn)) (nrow gx (by rw [kg]; decide))).trans (h.file n gx x hn hx).1
  have g4g : g4 ≠ gx := by
    intro e
    have := row_kind e4.own (g := g4) rfl
    rw [e, kind_cells hgb] at this
    revert this; decide
  have hrow : ∀ k r, fs k ≠ none → (if k = n then Value.slice (some ⟨g4, 0, none⟩) L4 cap4 else sl k).ownBlock = some r → (k = n ∧ r = g4) ∨ (k ≠ n ∧ (sl k).ownBlock = some r) := fun k r _ h1 => by
    by_cases e : k = n
    · simp [e, Value.ownBlock] at h1; exact .inl ⟨e, h1.symm⟩
    · simp [e] at h1; exact .inr ⟨e, h1⟩
  have lies : (sl n).ownBlock = some g4 ∨ W.heap.size ≤ g4 := by
    rcases e4.lies with e | ⟨g, e, hg⟩
    · exact .inl e.symm
    · have : g4 = g := by simpa [Value.ownBlock] using e
      exact .inr (by omega)
  refine ⟨(ho b (h.low _ h.sb) (ne_kind h.kb kg (by decide)) (nrow b (by rw [h.kb]; decide))).trans h.blk, h.files.same (ho _ h.files.lt (ne_kind h.files.kind kg (by simp)) (nrow _ (by rw [h.files.kind]; simp))), h.held.same (ho _ h.held.lt (ne_kind h.held.kind kg (by simp)) (nrow _ (by rw [h.held.kind]; simp))), h.dur.same (ho _ h.dur.lt (ne_kind h.dur.kind kg (by simp)) (nrow _ (by rw [h.dur.kind]; simp))),
    ownsRow_same h.pend fun r hr => ho r (h.low _ (h.sp r hr)) (ne_kind (h.kp hr) kg (by decide)) (nrow _ (by rw [h.kp hr]; decide)), fun k => ?_,
    fun k r y hk hy => ?_, h.inj, fun k k' r h1 h2 h3 h4 => ?_, h.fh, h.fd, h.hd, .inl h.sb, .inl h.sf, .inl h.sh, .inl h.sd, fun g hg => .inl (h.sp g hg), fun k g hk => .inl (h.sg k g hk), fun k r h1 h2 => ?_, fun i hi => ?_⟩
  · show (fs k).isSome = (Vf.setF σ.files n (some { x with bytes := x.bytes ++ p }) k).isSome
    unfold Vf.setF
    by_cases e : k = n
    · subst e; simp [hn]
    · simp [e, h.dom k]
  · simp only [Vf.setF] at hy
    by_cases e : k = n
    · subst e
      simp at hy
      subst hy
      rw [hn] at hk
      cases hk
      refine ⟨?_, ?_⟩
      · rw [Joins.block_setCell hgb]; simp
      · simp only [if_true]
        have ow : w4.ownsRow 0 5 1 (.slice (some ⟨g4, 0, none⟩) L4 cap4) (x.bytes ++ p).length (bc (x.bytes ++ p)) := e4.own
        exact ownsRow_same ow fun q hq => by
          have : q = g4 := by simp [Value.ownBlock] at hq; exact hq.symm
          rw [this]
          exact Below.heap_setCell w4 ⟨gx, 0, none⟩ _ g4 g4g
    · simp [e] at hy ⊢
      have hgr : r ≠ gx := fun e2 => e (h.inj k n gx (by rw [hk, e2]) hn)
      have hk0 : fs k ≠ none := by rw [hk]; simp
      refine ⟨(ho r (h.low _ (h.sg k r hk)) hgr (nrow _ (by rw [h.kg hk]; decide))).trans (h.file k r y hk hy).1, ownsRow_same (h.file k r y hk hy).2 fun q hq => ?_⟩
      exact ho q (h.low _ (h.sr k q hk0 hq)) (ne_kind (h.kr hk0 hq) kg (by decide)) (fun e3 => e (h.rows k n q hk0 hn0 hq e3.symm))
  · rcases hrow k r h1 h3 with ⟨e1, e2⟩ | ⟨e1, e2⟩ <;> rcases hrow k' r h2 h4 with ⟨e3, e5⟩ | ⟨e3, e5⟩
    · rw [e1, e3]
    · exfalso
      rcases lies with l | l
      · rw [e2] at e5; exact e3 (h.rows k' n g4 h2 hn0 e5 l)
      · have := h.low _ (h.sr k' r h2 e5); omega
    · exfalso
      rcases lies with l | l
      · rw [e5] at e2; exact e1 (h.rows k n g4 h1 hn0 e2 l)
      · have := h.low _ (h.sr k r h1 e2); omega
    · exact h.rows k k' r h1 h2 e2 e5
  · rcases hrow k r h1 h2 with ⟨_, e⟩ | ⟨_, e⟩
    · exact .inr e
    · exact .inl (h.sr k r h1 e)
  · rw [hzs]
    rcases hi with hi | hi
    · have := h.low i hi; omega
    · rw [hi]; exact hlt

theorem Box.drew {W : World} {B : Nat} {K : Int} {s : Vf.Step} (h : Box W B K s) : Box W.drew B K s := h.same rfl

theorem Ticked.lent {w W : World} {b bf bh bd : Nat} {pv : Value} {fs : Nat → Option Nat} {sl : Nat → Value} {σ : Vf.St} {S : Nat → Prop} {K : Int} {s : Vf.Step} (h : Ticked w W b bf bh bd pv fs sl σ S K s) {bb off : Nat} {p : Vf.Bs} (hc : ∀ j u, (bc p)[j]? = some u → w.cell? ((⟨bb, off, none⟩ : Addr).add j) = some u) (hbS : ¬ S bb) (hbl : bb < w.heap.size) :
    ∀ j u, (bc p)[j]? = some u → W.drew.cell? ((⟨bb, off, none⟩ : Addr).add j) = some u := fun j u hu => by
  have e : ((⟨bb, off, none⟩ : Addr).add j).block = bb := by unfold Addr.add; split <;> rfl
  rw [← hc j u hu]
  exact World.cell?_of_block (w := w) (w' := W.drew) (by rw [e]; exact h.moved.block bb hbl hbS)
theorem file_cell {W : World} {b bf bh bd : Nat} {pv : Value} {fs : Nat → Option Nat} {sl : Nat → Value} {σ : Vf.St} {S : Nat → Prop} (h : RepAt W b bf bh bd pv fs sl σ S) {n gx : Nat} {x : Vf.File} (hn : fs n = some gx) (hx : σ.files n = some x) : W.cell? ⟨gx, 0, none⟩ = some (sl n) := Joins.cell_of_block (h.file n gx x hn hx).1 0

theorem Box.row {W w4 : World} {b bf bh bd : Nat} {pv : Value} {fs : Nat → Option Nat} {sl : Nat → Value} {σ : Vf.St} {S : Nat → Prop} {B : Nat} {K : Int} {s : Vf.Step} (hx : Box W B K s) (h : RepAt W b bf bh bd pv fs sl σ S) {n gx : Nat} (hn : fs n = some gx) (hB : ¬ S B) (g : W.grownBy w4 (sl n).ownBlock) (u : Value) : Box (w4.setCell ⟨gx, 0, none⟩ u) B K s :=
  hx.same ((Below.heap_setCell w4 ⟨gx, 0, none⟩ u B (fun e => hB (by have e' : B = gx := e; rw [e']; exact h.sg n gx hn))).trans (g.block B hx.lt (fun e => hB (h.sr n B (by rw [hn]; simp) e.symm))))

section
variable {W w4 : World} {b bf bh bd : Nat} {pv : Value} {fs : Nat → Option Nat} {sl : Nat → Value} {σ : Vf.St} {S : Nat → Prop} {n gx : Nat} {x : Vf.File}
theorem row_cell (h : RepAt W b bf bh bd pv fs sl σ S) (hn : fs n = some gx) (hx : σ.files n = some x) (g : W.grownBy w4 (sl n).ownBlock) : w4.cell? ⟨gx, 0, none⟩ = some (sl n) := by
  have hn0 : fs n ≠ none := by rw [hn]; simp
  exact Joins.cell_of_block ((g.block gx (h.low _ (h.sg n gx hn)) (fun e => ne_kind (h.kg hn) (h.kr hn0 e.symm) (by decide) rfl)).trans (h.file n gx x hn hx).1) 0
theorem row_unfrozen (h : RepAt W b bf bh bd pv fs sl σ S) (hn : fs n = some gx) (hx : σ.files n = some x) (g : W.grownBy w4 (sl n).ownBlock) : w4.frozen? ⟨gx, 0, none⟩ = false := by
  have hn0 : fs n ≠ none := by rw [hn]; simp
  exact Joins.unfrozen_of_block ((g.block gx (h.low _ (h.sg n gx hn)) (fun e => ne_kind (h.kg hn) (h.kr hn0 e.symm) (by decide) rfl)).trans (h.file n gx x hn hx).1) 0
theorem row_blk (h : RepAt W b bf bh bd pv fs sl σ S) (hn : fs n = some gx) (g : W.grownBy w4 (sl n).ownBlock) (u : Value) : (w4.setCell ⟨gx, 0, none⟩ u).heap[b]? = some (.cells (fsCells σ bf bh bd pv) 59 (0, 0)) := by
  have hn0 : fs n ≠ none := by rw [hn]; simp
  exact ((Below.heap_setCell w4 ⟨gx, 0, none⟩ u b (ne_kind h.kb (h.kg hn) (by decide))).trans (g.block b (h.low _ h.sb) (fun e => ne_kind h.kb (h.kr hn0 e.symm) (by decide) rfl))).trans h.blk
theorem row_own (h : RepAt W b bf bh bd pv fs sl σ S) (hn : fs n = some gx) (_ : σ.files n = some x) (g : W.grownBy w4 (sl n).ownBlock) (_ : Nat) : ∀ u, (w4.setCell ⟨gx, 0, none⟩ u).cell? ⟨b, 1, none⟩ = some (.int .i64 σ.used) := fun u => Joins.cell_of_block (row_blk h hn g u) 1
theorem row_ownf (h : RepAt W b bf bh bd pv fs sl σ S) (hn : fs n = some gx) (_ : σ.files n = some x) (g : W.grownBy w4 (sl n).ownBlock) (_ : Nat) : ∀ u, (w4.setCell ⟨gx, 0, none⟩ u).frozen? ⟨b, 1, none⟩ = false := fun u => Joins.unfrozen_of_block (row_blk h hn g u) 1
end

set_option maxHeartbeats 2000000 in
theorem do_write (w : World) (b bf bh bd : Nat) (pv : Value) (fs : Nat → Option Nat) (sl : Nat → Value) (σ : Vf.St) (S : Nat → Prop) (h : RepAt w b bf bh bd pv fs sl σ S) (s : Vf.Step) (hk0 : s.kind = 0) (h0 : σ.fuse ≠ 0) (ok : DoOk σ) (hp : σ.pending.length ≤ 1000000000) (so : StepOk s) (x : Vf.File) (hx : σ.files s.file = some x)
    (bb off k c : Nat) (p : Vf.Bs) (hk : k = p.length) (hpos : 0 < p.length) (hc : ∀ j u, (bc p)[j]? = some u → w.cell? ((⟨bb, off, none⟩ : Addr).add j) = some u) (hbS : ¬ S bb) (hbl : bb < w.heap.size) (hroom : x.bytes.length + p.length ≤ 140737488355328) (U : Int) (HU : Hid (U = σ.used)) (hu : -1000000000000000000 ≤ U ∧ U ≤ 1000000000000000000) :
    Calls Tryz.prog 51 #[.pointer (some ⟨b, 0, none⟩), sv s, .slice (some ⟨bb, off, none⟩) k c] w fun e w' => e = .returned (.int .i64 0) ∧ Rep w' b (Vf.pend { Vf.tick σ with files := Vf.setF σ.files s.file (some { x with bytes := x.bytes ++ p }), used := U + (k : Int) } s) (grow S w w') ∧ Moved S w w' := by
  obtain ⟨gx, hgx⟩ : ∃ g, fs s.file = some g := by have := h.dom s.file; rw [hx] at this; exact Option.isSome_iff_exists.1 this
  have HX : Hid (σ.files s.file = some x) := hx
  clear hx
  obtain ⟨u1, u2⟩ := hu
  have hf9 : s.file ≤ 1000000000 := so.file
  have LOW := h.low
  have kle : (k : Int) ≤ 140737488355328 := by omega
  have HKK : Hid (k = p.length) := hk
  clear hk
  have h1 := h.alloc (bx s)
  have c3 := h1.cells.2.2.2.1
  have c4 := h1.cells.2.2.2.2.1
  have f3 := h1.unfrozen 3
  have f4 := h1.unfrozen 4
  have q0 : (σ.fuse == 0) = false := by simpa using h0
  have TK := ticked h s
  obtain ⟨⟨fl, fu⟩, hst⟩ := ok
  unfold tickW at TK
  obtain ⟨K, hK⟩ : ∃ K : Int, K = (s.kind : Int) := ⟨_, rfl⟩
  have k0 : (K == 0) = true := by rw [hK, hk0]; rfl
  have HK : Hid (K = (s.kind : Int)) := hK
  unfold bx at TK c3 c4 f3 f4
  unfold sv
  rw [← hK] at TK c3 c4 f3 f4 ⊢
  clear h h1 h0 hk0 hK so
  obtain ⟨fz, hfz⟩ : ∃ z, z = σ.fuse := ⟨_, rfl⟩
  obtain ⟨sz, hsz⟩ : ∃ z, z = σ.steps := ⟨_, rfl⟩
  rw [← hfz] at TK c3 q0 fl fu
  rw [← hsz] at TK c4 hst
  clear hfz hsz
  by_cases e : fz = -1
  · have q1 : (fz != -1) = false := by simp [e]
    rw [if_pos e] at TK
    clear e
    have H2 := TK.rep.drew
    have X2 := TK.box.drew
    have M2 := TK.moved.drew
    have L2 := H2.files.look s.file (by omega)
    rw [ptr_some hgx] at L2
    have x5 := TK.rep.cells.2.2.2.2.2.1
    have x1 := TK.box.c1
    have OWN := (H2.file s.file gx x hgx HX.out).2
    have d0 := file_cell TK.rep hgx HX.out
    have hcB := TK.lent hc hbS hbl
    have NXW := TK.new
    have LW : Hid (∀ i, S i → i < w.heap.size) := LOW
    obtain ⟨V, hV⟩ : ∃ V, V = sl s.file := ⟨_, rfl⟩
    rw [← hV] at OWN d0
    have HV : Hid _ := hV
    clear hV
    go_enter Tryz.func51, Tryz.ntmps51
    go_wp2_with (fail)
    go_region
    go_wp2_with (at_builtin; refine wpList_append_bytes _ rfl _ _ rfl 0 V x.bytes p rfl OWN ⟨bb, off, none⟩ k c rfl HKK.out hcB hpos hroom (Nat.zero_le _) ?_; intro g4 cap4 L4 w4 HL4 e4 lt4; rw [HV.out] at e4; have H4 := H2.turnRow hgx HX.out e4 HL4.out; have t0 := row_cell H2 hgx HX.out e4.grown; rw [← HV.out] at t0; have t1 := row_unfrozen H2 hgx HX.out e4.grown; have t2 : ∀ u, (w4.setCell ⟨gx, 0, none⟩ u).cell? ⟨b, 1, none⟩ = some (.int .i64 U) := (by have t := row_own H2 hgx HX.out e4.grown gx; rw [show (Vf.tick σ).used = U from HU.out.symm] at t; exact t); have t3 := row_ownf H2 hgx HX.out e4.grown gx)
    have H6 := H4.field 1 (.int .i64 (U + (k : Int))) { Vf.tick σ with files := Vf.setF σ.files s.file (some { x with bytes := x.bytes ++ p }), used := U + (k : Int) } rfl rfl rfl rfl rfl (Nat.le_refl _)
    have hz4 := e4.grown.size
    have X6 := (X2.row H2 hgx NXW e4.grown (.slice (some ⟨g4, 0, none⟩) L4 cap4)).same (Below.heap_setCell (w4.setCell ⟨gx, 0, none⟩ (.slice (some ⟨g4, 0, none⟩) L4 cap4)) ⟨b, 1, none⟩ (.int .i64 (U + (k : Int))) w.heap.size (fun e => NXW (by have e' : w.heap.size = b := e; rw [e']; exact H2.sb)))
    have M6 : Hid _ := ((M2.grown e4.grown (fun q e _ => H2.sr s.file q (by rw [hgx]; simp) e)).setCell (p := ⟨gx, 0, none⟩) (fun _ => H2.sg s.file gx hgx) (.slice (some ⟨g4, 0, none⟩) L4 cap4)).setCell (p := ⟨b, 1, none⟩) (fun _ => H2.sb) (.int .i64 (U + (k : Int)))
    have Q4 : Hid (S g4 ∨ w.heap.size + 1 ≤ g4) := by
      rcases e4.lies with e | ⟨q, e, hq⟩
      · exact .inl (H2.sr s.file g4 (by rw [hgx]; simp) e.symm)
      · refine .inr ?_
        have e' : g4 = q := by simpa [Value.ownBlock] using e
        have hq' : _ ≤ q := hq
        have := TK.size
        rw [World.size_drew] at hq'
        omega
    have NEW : Hid (¬ (S w.heap.size ∨ w.heap.size = g4)) := fun hh => by
      rcases hh with hh | hh
      · exact NXW hh
      · rcases Q4.out with q | q
        · exact NXW (by rw [hh]; exact q)
        · omega
    generalize hW6 : (w4.setCell ⟨gx, 0, none⟩ (.slice (some ⟨g4, 0, none⟩) L4 cap4)).setCell ⟨b, 1, none⟩ (.int .i64 (U + (k : Int))) = W6 at H6 X6 M6 ⊢
    have WS : Hid (∀ i, (S i ∨ i = g4) → grow S w W6 i) := fun i hi => by
      rcases hi with hi | hi
      · exact .inl hi
      · rcases Q4.out with q | q
        · exact .inl (by rw [hi]; exact q)
        · exact .inr ⟨by omega, H6.low i (.inr hi)⟩
    clear hW6 t0 t1 t2 t3 e4 H4 L2 x5 x1 d0 OWN hcB c3 c4 f3 f4
    have HG := H6.wide (T := grow S w W6) (fun i hi => WS.out i hi) (fun i hi => by rcases hi with hi | hi; exact H6.low i (.inl hi); exact hi.2)
    obtain ⟨z8, z0, z1, z2, z3, z4⟩ := cells6 (H6.cells.2.2.2.2.2.2.2.2) X6
    obtain ⟨y8, y0, y1, y2, y3, y4⟩ := cells6_alloc (.cells #[.int .i64 K, .int .i64 (s.file : Int), .int .i64 (s.size : Int), str s.name, str s.to] 102) (H6.cells.2.2.2.2.2.2.2.2) X6
    have OW : (W6.alloc (.cells #[.int .i64 K, .int .i64 (s.file : Int), .int .i64 (s.size : Int), str s.name, str s.to] 102)).drew.ownsRow 0 102 5 pv σ.pending.length (scs σ.pending) := (H6.pend.alloc _).drew
    have HB := pend_box (W := W6) (s := s) HK.out
    have MW : Hid _ := M6.out
    have HH : Hid _ := H6
    have XX : Hid _ := X6
    go_region_law (refine step_pend _ (by rfl) _ _ (by rfl) pv σ.pending s (by rfl) OW W6.heap.size 1 (by rfl) HB hp ?_; intro g4 cap4 n4 w4 HN4 o4 gr4 hl4 lt4; have P4 := cells6_grown HH.out XX.out NEW.out gr4; have f8 := unfrozen8 HH.out gr4; obtain ⟨p8, p0, p1, p2, p3, p4⟩ := P4)
    all_goals
      go_wp2_with (fail)
      go_ret
      obtain ⟨F1, F2⟩ := put_end HG MW.out MW.out.size (grownBy_undrew' gr4) HN4.out o4 hl4.out lt4
      exact ⟨rfl, F1, F2⟩
  · have q1 : (fz != -1) = true := by simp [e]
    rw [if_neg e] at TK
    have H2 := TK.rep.drew
    have X2 := TK.box.drew
    have M2 := TK.moved.drew
    have L2 := H2.files.look s.file (by omega)
    rw [ptr_some hgx] at L2
    have x5 := TK.rep.cells.2.2.2.2.2.1
    have x1 := TK.box.c1
    have OWN := (H2.file s.file gx x hgx HX.out).2
    have d0 := file_cell TK.rep hgx HX.out
    have hcB := TK.lent hc hbS hbl
    have NXW := TK.new
    have LW : Hid (∀ i, S i → i < w.heap.size) := LOW
    obtain ⟨V, hV⟩ : ∃ V, V = sl s.file := ⟨_, rfl⟩
    rw [← hV] at OWN d0
    have HV : Hid _ := hV
    clear hV
    go_enter Tryz.func51, Tryz.ntmps51
    go_wp2_with (fail)
    go_region
    go_wp2_with (at_builtin; refine wpList_append_bytes _ rfl _ _ rfl 0 V x.bytes p rfl OWN ⟨bb, off, none⟩ k c rfl HKK.out hcB hpos hroom (Nat.zero_le _) ?_; intro g4 cap4 L4 w4 HL4 e4 lt4; rw [HV.out] at e4; have H4 := H2.turnRow hgx HX.out e4 HL4.out; have t0 := row_cell H2 hgx HX.out e4.grown; rw [← HV.out] at t0; have t1 := row_unfrozen H2 hgx HX.out e4.grown; have t2 : ∀ u, (w4.setCell ⟨gx, 0, none⟩ u).cell? ⟨b, 1, none⟩ = some (.int .i64 U) := (by have t := row_own H2 hgx HX.out e4.grown gx; rw [show (Vf.tick σ).used = U from HU.out.symm] at t; exact t); have t3 := row_ownf H2 hgx HX.out e4.grown gx)
    have H6 := H4.field 1 (.int .i64 (U + (k : Int))) { Vf.tick σ with files := Vf.setF σ.files s.file (some { x with bytes := x.bytes ++ p }), used := U + (k : Int) } rfl rfl rfl rfl rfl (Nat.le_refl _)
    have hz4 := e4.grown.size
    have X6 := (X2.row H2 hgx NXW e4.grown (.slice (some ⟨g4, 0, none⟩) L4 cap4)).same (Below.heap_setCell (w4.setCell ⟨gx, 0, none⟩ (.slice (some ⟨g4, 0, none⟩) L4 cap4)) ⟨b, 1, none⟩ (.int .i64 (U + (k : Int))) w.heap.size (fun e => NXW (by have e' : w.heap.size = b := e; rw [e']; exact H2.sb)))
    have M6 : Hid _ := ((M2.grown e4.grown (fun q e _ => H2.sr s.file q (by rw [hgx]; simp) e)).setCell (p := ⟨gx, 0, none⟩) (fun _ => H2.sg s.file gx hgx) (.slice (some ⟨g4, 0, none⟩) L4 cap4)).setCell (p := ⟨b, 1, none⟩) (fun _ => H2.sb) (.int .i64 (U + (k : Int)))
    have Q4 : Hid (S g4 ∨ w.heap.size + 1 ≤ g4) := by
      rcases e4.lies with e | ⟨q, e, hq⟩
      · exact .inl (H2.sr s.file g4 (by rw [hgx]; simp) e.symm)
      · refine .inr ?_
        have e' : g4 = q := by simpa [Value.ownBlock] using e
        have hq' : _ ≤ q := hq
        have := TK.size
        rw [World.size_drew] at hq'
        omega
    have NEW : Hid (¬ (S w.heap.size ∨ w.heap.size = g4)) := fun hh => by
      rcases hh with hh | hh
      · exact NXW hh
      · rcases Q4.out with q | q
        · exact NXW (by rw [hh]; exact q)
        · omega
    generalize hW6 : (w4.setCell ⟨gx, 0, none⟩ (.slice (some ⟨g4, 0, none⟩) L4 cap4)).setCell ⟨b, 1, none⟩ (.int .i64 (U + (k : Int))) = W6 at H6 X6 M6 ⊢
    have WS : Hid (∀ i, (S i ∨ i = g4) → grow S w W6 i) := fun i hi => by
      rcases hi with hi | hi
      · exact .inl hi
      · rcases Q4.out with q | q
        · exact .inl (by rw [hi]; exact q)
        · exact .inr ⟨by omega, H6.low i (.inr hi)⟩
    clear hW6 t0 t1 t2 t3 e4 H4 L2 x5 x1 d0 OWN hcB c3 c4 f3 f4
    have HG := H6.wide (T := grow S w W6) (fun i hi => WS.out i hi) (fun i hi => by rcases hi with hi | hi; exact H6.low i (.inl hi); exact hi.2)
    obtain ⟨z8, z0, z1, z2, z3, z4⟩ := cells6 (H6.cells.2.2.2.2.2.2.2.2) X6
    obtain ⟨y8, y0, y1, y2, y3, y4⟩ := cells6_alloc (.cells #[.int .i64 K, .int .i64 (s.file : Int), .int .i64 (s.size : Int), str s.name, str s.to] 102) (H6.cells.2.2.2.2.2.2.2.2) X6
    have OW : (W6.alloc (.cells #[.int .i64 K, .int .i64 (s.file : Int), .int .i64 (s.size : Int), str s.name, str s.to] 102)).drew.ownsRow 0 102 5 pv σ.pending.length (scs σ.pending) := (H6.pend.alloc _).drew
    have HB := pend_box (W := W6) (s := s) HK.out
    have MW : Hid _ := M6.out
    have HH : Hid _ := H6
    have XX : Hid _ := X6
    go_region_law (refine step_pend _ (by rfl) _ _ (by rfl) pv σ.pending s (by rfl) OW W6.heap.size 1 (by rfl) HB hp ?_; intro g4 cap4 n4 w4 HN4 o4 gr4 hl4 lt4; have P4 := cells6_grown HH.out XX.out NEW.out gr4; have f8 := unfrozen8 HH.out gr4; obtain ⟨p8, p0, p1, p2, p3, p4⟩ := P4)
    all_goals
      go_wp2_with (fail)
      go_ret
      obtain ⟨F1, F2⟩ := put_end HG MW.out MW.out.size (grownBy_undrew' gr4) HN4.out o4 hl4.out lt4
      exact ⟨rfl, F1, F2⟩
end Go.Proofs.YtlhnjloimhcpfabGreatDoor
