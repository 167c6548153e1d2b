/-
  A raw step: where the fuse has burnt down; and the two syncs.
-/
import Derived.Test.YtclokpkhkokfhabVSettled1
namespace Go.Proofs.Ytclokpkhkokfhab
open Go.RowKit Go.Maps

/-- The box of a step. -/
abbrev bx (s : Vf.Step) : Obj := .cells #[.int .i64 (s.kind : Int), .int .i64 (s.file : Int), .int .i64 (s.size : Int), str s.name, str s.to] 55

theorem do_off (w : World) (b bf bh bd : Nat) (pv : Value) (fs : Nat → Option Nat) (sl : Nat → Value) (σ : Vf.St) (S : Nat → Prop) (h : RepAt w b bf bh bd pv fs sl σ S) (s : Vf.Step) (v : Value) (h0 : σ.fuse = 0) :
    Calls Try.prog 20 #[.pointer (some ⟨b, 0, none⟩), sv s, v] w fun e w' => e = .returned (.int .i64 7) ∧ Rep w' b { σ with on := false } (grow S w w') ∧ Moved S w w' := by
  have h1 := h.alloc (bx s)
  have c3 := h1.cells.2.2.2.1
  rw [h0] at c3
  have c2 := h1.cells.2.2.1
  have f2 := h1.unfrozen 2
  have FIN : Hid (RepAt ((w.alloc (bx s)).setCell ⟨b, 2, none⟩ (.bool false)) b bf bh bd pv fs sl { σ with on := false } S) := h1.field 2 (.bool false) _ rfl rfl rfl rfl rfl (Nat.le_refl _)
  have MV : Hid (Moved S w ((w.alloc (bx s)).setCell ⟨b, 2, none⟩ (.bool false))) := ((Moved.refl S w).alloc _).setCell (fun _ => h.sb) _
  clear h h0 h1
  go_enter Try.func20, Try.ntmps20
  go_wp2_with (fail)
  go_ret
  exact ⟨rfl, Rep.grow1 ⟨bf, bh, bd, pv, fs, sl, FIN.out⟩, MV.out⟩

/-- What a settling asks of the steps. -/
def SettleOk (due : Vf.Step → Bool) (σ : Vf.St) : Prop := ∀ i (hi : i < σ.pending.length), due σ.pending[i] = true → KeepOk (setTo due σ i) σ.pending[i]

theorem settle2_any (w : World) (b bf bh bd : Nat) (pv : Value) (fs : Nat → Option Nat) (sl : Nat → Value) (σ : Vf.St) (S : Nat → Prop) (h : RepAt w b bf bh bd pv fs sl σ S) (hp : σ.pending.length ≤ 1000000000) (ok : SettleOk (fun p => !decide (p.kind = 0)) σ) :
    Calls Try.prog 31 #[.pointer (some ⟨b, 0, none⟩), .func (.func 33) #[] #[]] w fun e w' => e = .returned (.tuple #[]) ∧ (∃ pv' fs' sl', RepAt w' b bf bh bd pv' fs' sl' (Vf.settle (fun p => !decide (p.kind = 0)) σ) S) ∧ Moved S w w' := by
  rcases h.pend.2 with ⟨rfl, h0⟩ | ⟨g, cap, cur, rfl, _⟩
  · exact settle_nil w b bf bh bd fs sl σ S h (List.eq_nil_of_length_eq_zero h0) _ _
  · exact settle2_some w b bf bh bd g cap _ fs sl σ S h rfl hp _ (fun wx s _ => due2_any wx s) ok
theorem settle1_any (w : World) (b bf bh bd : Nat) (pv : Value) (fs : Nat → Option Nat) (sl : Nat → Value) (σ : Vf.St) (S : Nat → Prop) (h : RepAt w b bf bh bd pv fs sl σ S) (hp : σ.pending.length ≤ 1000000000) (B F : Nat) (hB : w.cell? ⟨B, 1, none⟩ = some (.int .i64 (F : Int))) (hS : ¬ S B) (ok : SettleOk (fun p => decide (p.kind = 0) && decide (p.file = F)) σ) :
    Calls Try.prog 31 #[.pointer (some ⟨b, 0, none⟩), .func (.func 32) #[] #[.pointer (some ⟨B, 0, none⟩)]] w fun e w' => e = .returned (.tuple #[]) ∧ (∃ pv' fs' sl', RepAt w' b bf bh bd pv' fs' sl' (Vf.settle (fun p => decide (p.kind = 0) && decide (p.file = F)) σ) S) ∧ Moved S w w' := by
  rcases h.pend.2 with ⟨rfl, h0⟩ | ⟨g, cap, cur, rfl, _⟩
  · exact settle_nil w b bf bh bd fs sl σ S h (List.eq_nil_of_length_eq_zero h0) _ _
  · refine settle1_some B w b bf bh bd g cap _ fs sl σ S h rfl hp _ (fun wx s hm => due1_any wx s B F ?_) ok
    rw [← hB]
    exact World.cell?_of_block (w := w) (hm.block B (World.block_lt_of_cell? w ⟨B, 1, none⟩ hB) hS)

theorem tick_one (σ : Vf.St) (h : σ.fuse = -1) : Vf.tick σ = { σ with steps := σ.steps + 1 } := by
  obtain ⟨r, u, o, f, st, fi, he, du, pe⟩ := σ
  simp at h
  subst h
  rfl
theorem tick_two (σ : Vf.St) (h : σ.fuse ≠ -1) : Vf.tick σ = { σ with fuse := σ.fuse - 1, steps := σ.steps + 1 } := by unfold Vf.tick; rw [if_neg h]

/-- The world behind a tick. -/
def tickW (w : World) (b : Nat) (σ : Vf.St) : World := if σ.fuse = -1 then w.setCell ⟨b, 4, none⟩ (.int .i64 ((σ.steps : Int) + 1)) else (w.setCell ⟨b, 3, none⟩ (.int .i64 (σ.fuse - 1))).setCell ⟨b, 4, none⟩ (.int .i64 ((σ.steps : Int) + 1))

theorem RepAt.tick {w : World} {b bf bh bd : Nat} {pv : Value} {fs : Nat → Option Nat} {sl : Nat → Value} {σ : Vf.St} {S : Nat → Prop} (h : RepAt w b bf bh bd pv fs sl σ S) : RepAt (tickW w b σ) b bf bh bd pv fs sl (Vf.tick σ) S := by
  unfold tickW
  split
  · rename_i e
    rw [tick_one σ e]
    exact h.field 4 _ _ rfl rfl rfl rfl rfl (Nat.le_succ _)
  · rename_i e
    rw [tick_two σ e]
    exact (h.field 3 _ { σ with fuse := σ.fuse - 1 } rfl rfl rfl rfl rfl (Nat.le_refl _)).field 4 _ _ rfl rfl rfl rfl rfl (Nat.le_succ _)
theorem tick_moved {w : World} {b bf bh bd : Nat} {pv : Value} {fs : Nat → Option Nat} {sl : Nat → Value} {σ : Vf.St} {S : Nat → Prop} (h : RepAt w b bf bh bd pv fs sl σ S) : Moved S w (tickW w b σ) := by
  unfold tickW
  split
  · exact (Moved.refl S w).setCell (fun _ => h.sb) _
  · exact ((Moved.refl S w).setCell (fun _ => h.sb) _).setCell (fun _ => h.sb) _

structure DoOk (σ : Vf.St) : Prop where
  fuse : -1 ≤ σ.fuse ∧ σ.fuse ≤ 9223372036854775807
  steps : σ.steps ≤ 100000000

set_option maxHeartbeats 1000000 in
theorem do_names (w : World) (b bf bh bd : Nat) (pv : Value) (fs : Nat → Option Nat) (sl : Nat → Value) (σ : Vf.St) (S : Nat → Prop) (h : RepAt w b bf bh bd pv fs sl σ S) (s : Vf.Step) (hk : s.kind = 5) (v : Value) (h0 : σ.fuse ≠ 0) (ok : DoOk σ) (hp : σ.pending.length ≤ 1000000000) (ko : SettleOk (fun p => !decide (p.kind = 0)) (Vf.tick σ)) :
    Calls Try.prog 20 #[.pointer (some ⟨b, 0, none⟩), sv s, v] w fun e w' => e = .returned (.int .i64 0) ∧ Rep w' b (Vf.settle (fun p => !decide (p.kind = 0)) (Vf.tick σ)) (grow S w w') ∧ Moved S w w' := by
  have h1 := h.alloc (bx s)
  have c3 := h1.cells.2.2.2.1
  have c4 := h1.cells.2.2.2.2.1
  have f3 := h1.unfrozen 3
  have f4 := h1.unfrozen 4
  have q0 : (σ.fuse == 0) = false := by simpa using h0
  have ST := settle2_any _ b bf bh bd pv fs sl (Vf.tick σ) S h1.tick (by show σ.pending.length ≤ _; exact hp) ko
  have M0 := ((Moved.refl S w).alloc (bx s)).trans (tick_moved h1) (fun i _ hi => hi)
  obtain ⟨⟨fl, fu⟩, hst⟩ := ok
  unfold tickW at ST M0
  obtain ⟨K, hK⟩ : ∃ K : Int, K = (s.kind : Int) := ⟨_, rfl⟩
  have k0 : (K == 0) = false := by rw [hK, hk]; rfl
  have k1 : (K == 1) = false := by rw [hK, hk]; rfl
  have k2 : (K == 2) = false := by rw [hK, hk]; rfl
  have k3 : (K == 3) = false := by rw [hK, hk]; rfl
  have k4 : (K == 4) = false := by rw [hK, hk]; rfl
  have k5 : (K == 5) = true := by rw [hK, hk]; rfl
  unfold bx at ST M0 c3 c4 f3 f4
  unfold sv
  rw [← hK] at ST M0 c3 c4 f3 f4 ⊢
  clear h h1 ko hp h0 hk hK
  obtain ⟨fz, hfz⟩ : ∃ z, z = σ.fuse := ⟨_, rfl⟩
  obtain ⟨sz, hsz⟩ : ∃ z, z = σ.steps := ⟨_, rfl⟩
  have T : Hid (Vf.tick σ = Vf.tick σ) := rfl
  rw [← hfz] at ST M0 c3 q0 fl fu
  rw [← hsz] at ST M0 c4 hst
  clear hfz hsz
  by_cases e : fz = -1
  · have q1 : (fz != -1) = false := by simp [e]
    rw [if_pos e] at ST M0
    have M1 : Hid _ := M0
    clear e M0
    go_enter Try.func20, Try.ntmps20
    go_wp2_with (go_at_call 31; refine ST.mono ?_; rintro e w3 ⟨rfl, ⟨pv', fs', sl', r3⟩, m3⟩)
    go_ret
    exact ⟨rfl, Rep.grow1 ⟨bf, bh, bd, pv', fs', sl', r3⟩, M1.out.trans m3 (fun i _ hi => hi)⟩
  · have q1 : (fz != -1) = true := by simp [e]
    rw [if_neg e] at ST M0
    have M1 : Hid _ := M0
    clear M0
    go_enter Try.func20, Try.ntmps20
    go_wp2_with (go_at_call 31; refine ST.mono ?_; rintro e w3 ⟨rfl, ⟨pv', fs', sl', r3⟩, m3⟩)
    go_ret
    exact ⟨rfl, Rep.grow1 ⟨bf, bh, bd, pv', fs', sl', r3⟩, M1.out.trans m3 (fun i _ hi => hi)⟩
end Go.Proofs.Ytclokpkhkokfhab
