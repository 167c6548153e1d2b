/-
  A step becomes durable.
-/
import Derived.Test.YtclokpkhkokfhabVTurn
namespace Go.Proofs.Ytclokpkhkokfhab
open Go.RowKit Go.Maps

theorem ptr_none {fs : Nat → Option Nat} {n : Nat} (h : fs n = none) : ptr (fs n) = .pointer none := by rw [h]; rfl
theorem ptr_some {fs : Nat → Option Nat} {n g : Nat} (h : fs n = some g) : ptr (fs n) = .pointer (some ⟨g, 0, none⟩) := by rw [h]; rfl

abbrev boxS (w : World) (K : Int) (F Z : Nat) (u1 u2 : Value) : World := w.alloc (.cells #[.int .i64 K, .int .i64 (F : Int), .int .i64 (Z : Int), u1, u2] 55)

theorem RepAt.alloc {w : World} {b bf bh bd : Nat} {pv : Value} {fs : Nat → Option Nat} {sl : Nat → Value} {σ : Vf.St} {S : Nat → Prop} (h : RepAt w b bf bh bd pv fs sl σ S) (o : Obj) : RepAt (w.alloc o) b bf bh bd pv fs sl σ S := h.later ((Below.refl _ _).alloc (Nat.le_refl _) _)
theorem RepAt.drew {w : World} {b bf bh bd : Nat} {pv : Value} {fs : Nat → Option Nat} {sl : Nat → Value} {σ : Vf.St} {S : Nat → Prop} (h : RepAt w b bf bh bd pv fs sl σ S) : RepAt w.drew b bf bh bd pv fs sl σ S := h.same (fun _ _ => rfl) (Nat.le_refl _)

set_option maxHeartbeats 400000 in
theorem keep_none (w : World) (b bf bh bd : Nat) (pv : Value) (fs : Nat → Option Nat) (sl : Nat → Value) (σ : Vf.St) (S : Nat → Prop) (h : RepAt w b bf bh bd pv fs sl σ S) (K : Int) (F Z : Nat) (u1 u2 : Value) (hK : (K == 0) = true) (hF : F ≤ 1000000000) (hn : fs F = none) :
    Calls Try.prog 25 #[.pointer (some ⟨b, 0, none⟩), .agg #[.int .i64 K, .int .i64 (F : Int), .int .i64 (Z : Int), u1, u2]] w fun e w' => e = .returned (.tuple #[]) ∧ w' = (boxS w K F Z u1 u2).drew := by
  have h1 := h.alloc (.cells #[.int .i64 K, .int .i64 (F : Int), .int .i64 (Z : Int), u1, u2] 55)
  obtain ⟨_, _, _, _, _, c5, _, _, _⟩ := h1.cells
  have L := h1.drew.files.look F (by omega)
  rw [ptr_none hn] at L
  clear h h1 hn
  go_enter Try.func25, Try.ntmps25
  go_wp2_with (fail)
  go_region
  go_wp2_with (fail)
  go_end0
  exact ⟨rfl, rfl⟩

set_option maxHeartbeats 400000 in
theorem keep_some (w : World) (b bf bh bd : Nat) (pv : Value) (fs : Nat → Option Nat) (sl : Nat → Value) (σ : Vf.St) (S : Nat → Prop) (h : RepAt w b bf bh bd pv fs sl σ S) (K : Int) (F Z g : Nat) (x : Vf.File) (u1 u2 : Value) (hK : (K == 0) = true) (hF : F ≤ 1000000000) (hn : fs F = some g) (hx : σ.files F = some x) (hz : x.synced + Z ≤ 1000000000000) :
    Calls Try.prog 25 #[.pointer (some ⟨b, 0, none⟩), .agg #[.int .i64 K, .int .i64 (F : Int), .int .i64 (Z : Int), u1, u2]] w fun e w' => e = .returned (.tuple #[]) ∧ w' = ((boxS w K F Z u1 u2).setCell ⟨g, 1, none⟩ (.int .i64 ((x.synced + Z : Nat) : Int))).drew.drew := by
  have h1 := h.alloc (.cells #[.int .i64 K, .int .i64 (F : Int), .int .i64 (Z : Int), u1, u2] 55)
  obtain ⟨_, _, _, _, _, c5, _, _, _⟩ := h1.cells
  have L := h1.drew.files.look F (by omega)
  rw [ptr_some hn] at L
  have d1 : (boxS w K F Z u1 u2).cell? ⟨g, 1, none⟩ = some (.int .i64 (x.synced : Int)) := Joins.cell_of_block (h1.file F g x hn hx).1 1
  have f1 := Joins.unfrozen_of_block (h1.file F g x hn hx).1 1
  obtain ⟨y, hy⟩ : ∃ y, y = x.synced := ⟨_, rfl⟩
  rw [← hy] at d1 hz ⊢
  clear h h1 hn hx hy x
  go_enter Try.func25, Try.ntmps25
  go_wp2_with (fail)
  go_region
  go_wp2_with (fail)
  go_region
  go_wp2_with (fail)
  go_end0
  exact ⟨rfl, rfl⟩

theorem PtrsAt.del' {w : World} {b N : Nat} {fs : Nat → Option Nat} (h : PtrsAt w b N fs) (n : Nat) (hn : n ≤ 1000000000000) :
    ∃ w', (∀ ty, (Builtin.delete_ #[44, 3] ty #[.map (some b), .int .i64 (n : Int)]).run Try.prog w = .ok (.tuple #[]) w') ∧ PtrsAt w' b N (setG fs n none) ∧ w.grownBy w' (some b) ∧ w'.heap.size = w.heap.size := by
  obtain ⟨w', r, h⟩ := h.del n hn 0
  exact ⟨w', fun _ => r, h⟩

theorem grown_cell {w w' : World} {p : Nat} {a : Addr} {v : Value} (g : w.grownBy w' (some p)) (h : w.cell? a = some v) (hne : a.block ≠ p) : w'.cell? a = some v := by
  rw [← h]
  exact World.cell?_of_block (w := w) (g.block a.block (World.block_lt_of_cell? w _ h) (fun e => hne (Option.some.inj e)))

theorem seven_grown {w w' : World} {p b bf bd B : Nat} {K F Z : Int} {u1 u2 : Value} (g : w.grownBy w' (some p)) (hb : b ≠ p) (hB : B ≠ p) (h : w.cell? ⟨b, 5, none⟩ = some (.map (some bf)) ∧ w.cell? ⟨b, 7, none⟩ = some (.map (some bd)) ∧ w.cell? ⟨B, 0, none⟩ = some (.int .i64 K) ∧ w.cell? ⟨B, 1, none⟩ = some (.int .i64 F) ∧ w.cell? ⟨B, 2, none⟩ = some (.int .i64 Z) ∧ w.cell? ⟨B, 3, none⟩ = some u1 ∧ w.cell? ⟨B, 4, none⟩ = some u2) :
    w'.cell? ⟨b, 5, none⟩ = some (.map (some bf)) ∧ w'.cell? ⟨b, 7, none⟩ = some (.map (some bd)) ∧ w'.cell? ⟨B, 0, none⟩ = some (.int .i64 K) ∧ w'.cell? ⟨B, 1, none⟩ = some (.int .i64 F) ∧ w'.cell? ⟨B, 2, none⟩ = some (.int .i64 Z) ∧ w'.cell? ⟨B, 3, none⟩ = some u1 ∧ w'.cell? ⟨B, 4, none⟩ = some u2 := by
  obtain ⟨h1, h2, h3, h4, h5, h6, h7⟩ := h
  exact ⟨grown_cell g h1 hb, grown_cell g h2 hb, grown_cell g h3 hB, grown_cell g h4 hB, grown_cell g h5 hB, grown_cell g h6 hB, grown_cell g h7 hB⟩
theorem new_cell (w : World) (cs : Array Value) (t : TypeId) (i : Nat) : (w.alloc (.cells cs t)).drew.cell? ⟨w.heap.size, i, none⟩ = cs[i]? := by
  have : (w.alloc (.cells cs t)).drew.heap[w.heap.size]? = some (.cells cs t (0, 0)) := by show (w.heap.push _)[w.heap.size]? = _; simp
  exact Joins.cell_of_block this i

set_option maxHeartbeats 800000 in
theorem keep_name (w : World) (b bf bh bd : Nat) (pv : Value) (fs : Nat → Option Nat) (sl : Nat → Value) (σ : Vf.St) (S : Nat → Prop) (h : RepAt w b bf bh bd pv fs sl σ S) (s : Vf.Step) (ok : StepOk s) (hk : s.kind = 1 ∨ s.kind = 2 ∨ s.kind = 3) (hM : σ.durable.length ≤ 1000000000) (hv : ∀ k, Vf.num σ.durable k ≤ 1000000000)
    (L : Nat) (HL : Hid (L = Vf.lost s σ.durable)) (hL : L ≤ 1000000000) (M' : Vf.Nm) (HM : Hid (M' = Vf.ren s σ.durable)) :
    Calls Try.prog 25 #[.pointer (some ⟨b, 0, none⟩), sv s] w fun e w' => e = .returned (.tuple #[]) ∧ RepAt w' b bf bh bd pv (setG fs L none) sl { σ with durable := M', files := Vf.setF σ.files L none } S ∧ Moved S w w' := by
  have h1 := (h.alloc (.cells #[.int .i64 (s.kind : Int), .int .i64 (s.file : Int), .int .i64 (s.size : Int), str s.name, str s.to] 55)).drew
  have m1 : Moved S w (w.alloc (.cells #[.int .i64 (s.kind : Int), .int .i64 (s.file : Int), .int .i64 (s.size : Int), str s.name, str s.to] 55)).drew := ((Moved.refl S w).alloc _).drew
  have c5 := h1.cells.2.2.2.2.2.1
  have c7 := h1.cells.2.2.2.2.2.2.2.1
  have R1 := ren_any _ bd σ.durable s ok h1.dur hM hv L HL M' HM
  have nb : b ≠ bd := ne_kind h1.kb h1.dur.kind (by simp)
  have nf : b ≠ bf := ne_kind h1.kb h1.files.kind (by simp)
  have wd : w.heap.size ≠ bd := by have := h.dur.lt; omega
  have wf : w.heap.size ≠ bf := by have := h.files.lt; omega
  have P1 : (w.alloc (.cells #[.int .i64 (s.kind : Int), .int .i64 (s.file : Int), .int .i64 (s.size : Int), str s.name, str s.to] 55)).drew.cell? ⟨b, 5, none⟩ = some (.map (some bf)) ∧ (w.alloc (.cells #[.int .i64 (s.kind : Int), .int .i64 (s.file : Int), .int .i64 (s.size : Int), str s.name, str s.to] 55)).drew.cell? ⟨b, 7, none⟩ = some (.map (some bd)) ∧ (w.alloc (.cells #[.int .i64 (s.kind : Int), .int .i64 (s.file : Int), .int .i64 (s.size : Int), str s.name, str s.to] 55)).drew.cell? ⟨w.heap.size, 0, none⟩ = some (.int .i64 (s.kind : Int)) ∧ (w.alloc (.cells #[.int .i64 (s.kind : Int), .int .i64 (s.file : Int), .int .i64 (s.size : Int), str s.name, str s.to] 55)).drew.cell? ⟨w.heap.size, 1, none⟩ = some (.int .i64 (s.file : Int)) ∧ (w.alloc (.cells #[.int .i64 (s.kind : Int), .int .i64 (s.file : Int), .int .i64 (s.size : Int), str s.name, str s.to] 55)).drew.cell? ⟨w.heap.size, 2, none⟩ = some (.int .i64 (s.size : Int)) ∧ (w.alloc (.cells #[.int .i64 (s.kind : Int), .int .i64 (s.file : Int), .int .i64 (s.size : Int), str s.name, str s.to] 55)).drew.cell? ⟨w.heap.size, 3, none⟩ = some (str s.name) ∧ (w.alloc (.cells #[.int .i64 (s.kind : Int), .int .i64 (s.file : Int), .int .i64 (s.size : Int), str s.name, str s.to] 55)).drew.cell? ⟨w.heap.size, 4, none⟩ = some (str s.to) :=
    ⟨c5, c7, new_cell _ _ _ 0, new_cell _ _ _ 1, new_cell _ _ _ 2, new_cell _ _ _ 3, new_cell _ _ _ 4⟩
  have b0 : ((s.kind : Int) == 0) = false := by simp; omega
  have H1 : Hid _ := h1
  have M1 : Hid _ := m1
  clear h h1 m1 ok hM hv HL HM c5 c7
  obtain ⟨K, hK⟩ : ∃ K : Int, K = (s.kind : Int) := ⟨_, rfl⟩
  have hb : (K == 1) = true ∨ ((K == 1) = false ∧ (K == 2) = true) ∨ ((K == 1) = false ∧ (K == 2) = false ∧ (K == 3) = true) := by
    rcases hk with hk | hk | hk <;> rw [hk] at hK <;> subst hK
    · exact .inl rfl
    · exact .inr (.inl ⟨rfl, rfl⟩)
    · exact .inr (.inr ⟨rfl, rfl, rfl⟩)
  unfold sv at R1 ⊢
  rw [← hK] at b0 R1 P1 H1 M1 ⊢
  clear hK hk
  rcases hb with b1 | ⟨b1, b2⟩ | ⟨b1, b2, b3⟩
  all_goals
    go_enter Try.func25, Try.ntmps25
    go_wp2_with (fail)
    go_region_held3 (fun w' => w'.cell? ⟨b, 5, none⟩ = some (.map (some bf)) ∧ w'.cell? ⟨b, 7, none⟩ = some (.map (some bd)) ∧ w'.cell? ⟨w.heap.size, 0, none⟩ = some (.int .i64 K) ∧ w'.cell? ⟨w.heap.size, 1, none⟩ = some (.int .i64 (s.file : Int)) ∧ w'.cell? ⟨w.heap.size, 2, none⟩ = some (.int .i64 (s.size : Int)) ∧ w'.cell? ⟨w.heap.size, 3, none⟩ = some (str s.name) ∧ w'.cell? ⟨w.heap.size, 4, none⟩ = some (str s.to))
      (first | exact P1 | exact P2 | exact P3)
      (first | (go_at_call 30; refine R1.mono ?_; rintro e w2 ⟨rfl, n2, g2, z2⟩; have P2 := seven_grown g2 nb wd P1; have H2 := H1.out.turnD (only_grown g2) M' n2; obtain ⟨w3, r3, p3, g3, z3⟩ := H2.files.del' L (by omega); have P3 := seven_grown g3 nf wf P2; clear z2 z3 n2))
    go_end0
    have H3 := H2.drop (only_grown g3) L p3
    have M2 := M1.out.grown g2 (fun k e _ => by cases e; exact H1.out.sd)
    have M3 := M2.grown g3 (fun k e _ => by cases e; exact H1.out.sf)
    exact ⟨rfl, H3, M3⟩

/-- What a step that is kept must keep to. -/
structure KeepOk (σ : Vf.St) (s : Vf.Step) : Prop where
  step : StepOk s
  kind : s.kind ≤ 3
  few : σ.durable.length ≤ 1000000000
  nums : ∀ k, Vf.num σ.durable k ≤ 1000000000
  synced : ∀ x, σ.files s.file = some x → x.synced + s.size ≤ 1000000000000

theorem keep_any (w : World) (b bf bh bd : Nat) (pv : Value) (fs : Nat → Option Nat) (sl : Nat → Value) (σ : Vf.St) (S : Nat → Prop) (h : RepAt w b bf bh bd pv fs sl σ S) (s : Vf.Step) (ok : KeepOk σ s) :
    Calls Try.prog 25 #[.pointer (some ⟨b, 0, none⟩), sv s] w fun e w' => e = .returned (.tuple #[]) ∧ (∃ fs' sl', RepAt w' b bf bh bd pv fs' sl' (Vf.keep σ s) S) ∧ Moved S w w' := by
  by_cases k0 : s.kind = 0
  · have hK : ((s.kind : Int) == 0) = true := by rw [k0]; rfl
    cases hx : σ.files s.file with
    | none =>
      have hn : fs s.file = none := by
        have := h.dom s.file
        rw [hx] at this
        simpa using this
      refine (keep_none w b bf bh bd pv fs sl σ S h (s.kind : Int) s.file s.size (str s.name) (str s.to) hK ok.step.file hn).mono ?_
      rintro e w' ⟨rfl, rfl⟩
      refine ⟨rfl, ⟨fs, sl, ?_⟩, ((Moved.refl S w).alloc _).drew⟩
      have e1 : Vf.keep σ s = σ := by unfold Vf.keep; rw [if_pos k0, hx]
      rw [e1]
      exact (h.alloc _).drew
    | some x =>
      obtain ⟨g, hn⟩ : ∃ g, fs s.file = some g := by
        have := h.dom s.file
        rw [hx] at this
        exact Option.isSome_iff_exists.1 this
      refine (keep_some w b bf bh bd pv fs sl σ S h (s.kind : Int) s.file s.size g x (str s.name) (str s.to) hK ok.step.file hn hx (ok.synced x hx)).mono ?_
      rintro e w' ⟨rfl, rfl⟩
      have h1 := h.alloc (.cells #[.int .i64 (s.kind : Int), .int .i64 (s.file : Int), .int .i64 (s.size : Int), str s.name, str s.to] 55)
      refine ⟨rfl, ⟨fs, fun k => if k = s.file then sl s.file else sl k, ?_⟩, ((((Moved.refl S w).alloc _).setCell (fun _ => h.sg _ _ hn) _).drew).drew⟩
      have e1 : Vf.keep σ s = { σ with files := Vf.setF σ.files s.file (some { x with synced := x.synced + s.size }) } := by unfold Vf.keep; rw [if_pos k0, hx]
      rw [e1]
      refine RepAt.drew (RepAt.drew (h1.turnG hn hx (x' := { x with synced := x.synced + s.size }) (only_setCell _ ⟨g, 1, none⟩ _) (sl s.file) ?_ ?_ (fun r hr => hr)))
      · rw [Joins.block_setCell (h1.file s.file g x hn hx).1]; rfl
      · exact ownsRow_same (h1.file s.file g x hn hx).2 fun r hr => (only_setCell _ ⟨g, 1, none⟩ _).2 r (h1.low _ (h1.sr s.file r (by rw [hn]; simp) hr)) (ne_kind (h1.kr (by rw [hn]; simp) hr) (h1.kg hn) (by decide))
  · have hk : s.kind = 1 ∨ s.kind = 2 ∨ s.kind = 3 := by have := ok.kind; omega
    have hL : Vf.lost s σ.durable ≤ 1000000000 := by
      unfold Vf.lost
      split
      · unfold Vf.num
        rw [Vf.look_del]
        split
        · simp
        · exact ok.nums _
      · split
        · exact ok.nums _
        · omega
    refine (keep_name w b bf bh bd pv fs sl σ S h s ok.step hk ok.few ok.nums _ rfl hL _ rfl).mono ?_
    rintro e w' ⟨rfl, h', m'⟩
    refine ⟨rfl, ⟨setG fs (Vf.lost s σ.durable) none, sl, ?_⟩, m'⟩
    have e1 : Vf.keep σ s = { σ with durable := Vf.ren s σ.durable, files := Vf.setF σ.files (Vf.lost s σ.durable) none } := by unfold Vf.keep; rw [if_neg k0, if_pos ok.kind]
    rw [e1]
    exact h'
end Go.Proofs.Ytclokpkhkokfhab
