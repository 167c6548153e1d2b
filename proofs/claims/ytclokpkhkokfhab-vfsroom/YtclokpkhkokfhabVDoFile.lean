/-
  A raw step that is a sync of a file.
-/
import Derived.Test.YtclokpkhkokfhabVDo
namespace Go.Proofs.Ytclokpkhkokfhab
open Go.RowKit Go.Maps

set_option maxHeartbeats 1000000 in
theorem do_file (w : World) (b bf bh bd : Nat) (pv : Value) (fs : Nat → Option Nat) (sl : Nat → Value) (σ : Vf.St) (S : Nat → Prop) (h : RepAt w b bf bh bd pv fs sl σ S) (s : Vf.Step) (hk : s.kind = 4) (v : Value) (h0 : σ.fuse ≠ 0) (ok : DoOk σ) (hp : σ.pending.length ≤ 1000000000) (ko : SettleOk (fun p => decide (p.kind = 0) && decide (p.file = s.file)) (Vf.tick σ)) :
    Calls Try.prog 20 #[.pointer (some ⟨b, 0, none⟩), sv s, v] w fun e w' => e = .returned (.int .i64 0) ∧ Rep w' b (Vf.settle (fun p => decide (p.kind = 0) && decide (p.file = s.file)) (Vf.tick σ)) (grow S w w') ∧ Moved S w w' := by
  have h1 := h.alloc (bx s)
  have c3 := h1.cells.2.2.2.1
  have c4 := h1.cells.2.2.2.2.1
  have f3 := h1.unfrozen 3
  have f4 := h1.unfrozen 4
  have q0 : (σ.fuse == 0) = false := by simpa using h0
  have hnS : ¬ S w.heap.size := fun hi => by have := h.low _ hi; omega
  have hcB : (tickW (w.alloc (bx s)) b σ).cell? ⟨w.heap.size, 1, none⟩ = some (.int .i64 (s.file : Int)) := by
    have e0 : (w.alloc (bx s)).cell? ⟨w.heap.size, 1, none⟩ = some (.int .i64 (s.file : Int)) := Joins.cell_of_block (new_block w (bx s)) 1
    rw [← e0]
    exact World.cell?_of_block (w := w.alloc (bx s)) ((tick_moved h1).block w.heap.size (by simp) hnS)
  have ST := settle1_any _ b bf bh bd pv fs sl (Vf.tick σ) S h1.tick (by show σ.pending.length ≤ _; exact hp) w.heap.size s.file hcB hnS ko
  have M0 := ((Moved.refl S w).alloc (bx s)).trans (tick_moved h1) (fun i _ hi => hi)
  obtain ⟨⟨fl, fu⟩, hst⟩ := ok
  unfold tickW at ST M0
  obtain ⟨K, hK⟩ : ∃ K : Int, K = (s.kind : Int) := ⟨_, rfl⟩
  have k0 : (K == 0) = false := by rw [hK, hk]; rfl
  have k1 : (K == 1) = false := by rw [hK, hk]; rfl
  have k2 : (K == 2) = false := by rw [hK, hk]; rfl
  have k3 : (K == 3) = false := by rw [hK, hk]; rfl
  have k4 : (K == 4) = true := by rw [hK, hk]; rfl
  unfold bx at ST M0 c3 c4 f3 f4
  unfold sv
  rw [← hK] at ST M0 c3 c4 f3 f4 ⊢
  clear h h1 ko hp h0 hk hK hcB hnS
  obtain ⟨fz, hfz⟩ : ∃ z, z = σ.fuse := ⟨_, rfl⟩
  obtain ⟨sz, hsz⟩ : ∃ z, z = σ.steps := ⟨_, rfl⟩
  have T : Hid (Vf.tick σ = Vf.tick σ) := rfl
  rw [← hfz] at ST M0 c3 q0 fl fu
  rw [← hsz] at ST M0 c4 hst
  clear hfz hsz
  by_cases e : fz = -1
  · have q1 : (fz != -1) = false := by simp [e]
    rw [if_pos e] at ST M0
    have M1 : Hid _ := M0
    clear e M0
    go_enter Try.func20, Try.ntmps20
    go_wp2_with (go_at_call 31; refine ST.mono ?_; rintro e w3 ⟨rfl, ⟨pv', fs', sl', r3⟩, m3⟩)
    go_ret
    exact ⟨rfl, Rep.grow1 ⟨bf, bh, bd, pv', fs', sl', r3⟩, M1.out.trans m3 (fun i _ hi => hi)⟩
  · have q1 : (fz != -1) = true := by simp [e]
    rw [if_neg e] at ST M0
    have M1 : Hid _ := M0
    clear M0
    go_enter Try.func20, Try.ntmps20
    go_wp2_with (go_at_call 31; refine ST.mono ?_; rintro e w3 ⟨rfl, ⟨pv', fs', sl', r3⟩, m3⟩)
    go_ret
    exact ⟨rfl, Rep.grow1 ⟨bf, bh, bd, pv', fs', sl', r3⟩, M1.out.trans m3 (fun i _ hi => hi)⟩
end Go.Proofs.Ytclokpkhkokfhab
