/-
  What a file system must keep to, so that a raw step can be done; a raw step of any kind.
-/
import Derived.Test.YtclokpkhkokfhabVDoWrite
namespace Go.Proofs.Ytclokpkhkokfhab
open Go.RowKit Go.Maps

structure Ready (σ : Vf.St) : Prop where
  ok : DoOk σ
  pend : σ.pending.length ≤ 1000000000
  heldN : σ.held.length ≤ 1000000000
  heldV : ∀ k, Vf.num σ.held k ≤ 1000000000
  free : σ.files (σ.steps + 1) = none
  used : -1000000000000000000 ≤ σ.used ∧ σ.used ≤ 1000000000000000000
  bytes : ∀ n x, σ.files n = some x → x.bytes.length ≤ 100000000000000
  sync : ∀ F, SettleOk (fun p => decide (p.kind = 0) && decide (p.file = F)) (Vf.tick σ)
  names : SettleOk (fun p => !decide (p.kind = 0)) (Vf.tick σ)
  heldIn : ∀ k n, Vf.look σ.held k = some n → ∃ x, σ.files n = some x

theorem lost_le {σ : Vf.St} (r : Ready σ) (s : Vf.Step) : Vf.lost s σ.held ≤ 1000000000 := by
  unfold Vf.lost
  split
  · unfold Vf.num
    rw [Vf.look_del]
    split
    · simp
    · exact r.heldV _
  · split
    · exact r.heldV _
    · omega

/-- A raw step that is no write. -/
theorem do_any (w : World) (b : Nat) (σ : Vf.St) (S : Nat → Prop) (h : Rep w b σ S) (r : Ready σ) (s : Vf.Step) (so : StepOk s) (hk : s.kind ≠ 0) (v : Value) :
    Calls Try.prog 20 #[.pointer (some ⟨b, 0, none⟩), sv s, v] w fun e w' => e = .returned (.int .i64 (Vf.doE σ)) ∧ Rep w' b (Vf.doSt σ s []) (grow S w w') ∧ Moved S w w' := by
  obtain ⟨bf, bh, bd, pv, fs, sl, h⟩ := h
  by_cases h0 : σ.fuse = 0
  · have e1 : Vf.doE σ = 7 := by unfold Vf.doE; rw [if_pos h0]
    have e2 : Vf.doSt σ s [] = { σ with on := false } := by unfold Vf.doSt; rw [if_pos h0]
    rw [e1, e2]
    exact do_off w b bf bh bd pv fs sl σ S h s v h0
  · have e1 : Vf.doE σ = 0 := by unfold Vf.doE; rw [if_neg h0]
    have e2 : Vf.doSt σ s [] = Vf.act (Vf.tick σ) s [] := by unfold Vf.doSt; rw [if_neg h0]
    rw [e1, e2]
    by_cases k1 : s.kind = 1
    · have e3 : Vf.act (Vf.tick σ) s [] = Vf.pend { Vf.tick σ with files := Vf.setF σ.files (σ.steps + 1) (some ⟨[], 0⟩), held := Vf.put σ.held s.name (σ.steps + 1) } { s with file := σ.steps + 1 } := by
        unfold Vf.act
        rw [if_neg hk, if_pos k1]
        rfl
      rw [e3]
      exact do_name w b bf bh bd pv fs sl σ S h s k1 v h0 r.ok r.pend so r.heldN r.heldV r.free _ rfl _ rfl
    · by_cases k3 : s.kind ≤ 3
      · have hk2 : s.kind = 2 ∨ s.kind = 3 := by omega
        have e3 : Vf.act (Vf.tick σ) s [] = Vf.pend { Vf.tick σ with held := Vf.ren s σ.held, used := match σ.files (Vf.lost s σ.held) with | none => σ.used | some x => σ.used - x.bytes.length } s := by
          unfold Vf.act
          rw [if_neg hk, if_neg k1, if_pos k3]
          rfl
        rw [e3]
        cases hx : σ.files (Vf.lost s σ.held) with
        | none => exact do_move_none w b bf bh bd pv fs sl σ S h s hk2 v h0 r.ok r.pend so r.heldN r.heldV _ rfl (lost_le r s) _ rfl hx
        | some x => exact do_move_some w b bf bh bd pv fs sl σ S h s hk2 v h0 r.ok r.pend so r.heldN r.heldV _ rfl (lost_le r s) _ rfl x hx r.used (Nat.le_trans (r.bytes _ x hx) (by omega)) _ rfl _ rfl
      · by_cases k4 : s.kind = 4
        · have e3 : Vf.act (Vf.tick σ) s [] = Vf.settle (fun p => decide (p.kind = 0) && decide (p.file = s.file)) (Vf.tick σ) := by
            unfold Vf.act
            rw [if_neg hk, if_neg k1, if_neg k3, if_pos k4]
          rw [e3]
          exact do_file w b bf bh bd pv fs sl σ S h s k4 v h0 r.ok r.pend (r.sync s.file)
        · have k5 : s.kind = 5 := by have := so.kind; omega
          have e3 : Vf.act (Vf.tick σ) s [] = Vf.settle (fun p => !decide (p.kind = 0)) (Vf.tick σ) := by
            unfold Vf.act
            rw [if_neg hk, if_neg k1, if_neg k3, if_neg k4]
          rw [e3]
          exact do_names w b bf bh bd pv fs sl σ S h s k5 v h0 r.ok r.pend r.names

/-- A raw step that is a write. -/
theorem do_piece (w : World) (b : Nat) (σ : Vf.St) (S : Nat → Prop) (h : Rep w b σ S) (r : Ready σ) (n : Nat) (x : Vf.File) (hx : σ.files n = some x) (hn : n ≤ 1000000000) (bb off k c : Nat) (p : Vf.Bs) (hk : k = p.length) (hpos : 0 < p.length) (hp : p.length ≤ 64) (hc : ∀ j u, (bc p)[j]? = some u → w.cell? ((⟨bb, off, none⟩ : Addr).add j) = some u) (hbS : ¬ S bb) (hbl : bb < w.heap.size) :
    Calls Try.prog 20 #[.pointer (some ⟨b, 0, none⟩), .agg #[.int .i64 0, .int .i64 (n : Int), .int .i64 (k : Int), .string ⟨#[]⟩, .string ⟨#[]⟩], .slice (some ⟨bb, off, none⟩) k c] w fun e w' => e = .returned (.int .i64 (Vf.doE σ)) ∧ Rep w' b (Vf.doSt σ ⟨0, n, p.length, [], []⟩ p) (grow S w w') ∧ Moved S w w' := by
  subst hk
  obtain ⟨bf, bh, bd, pv, fs, sl, h⟩ := h
  by_cases h0 : σ.fuse = 0
  · have e1 : Vf.doE σ = 7 := by unfold Vf.doE; rw [if_pos h0]
    have e2 : Vf.doSt σ ⟨0, n, p.length, [], []⟩ p = { σ with on := false } := by unfold Vf.doSt; rw [if_pos h0]
    rw [e1, e2]
    exact do_off w b bf bh bd pv fs sl σ S h ⟨0, n, p.length, [], []⟩ _ h0
  · have e1 : Vf.doE σ = 0 := by unfold Vf.doE; rw [if_neg h0]
    have e2 : Vf.doSt σ ⟨0, n, p.length, [], []⟩ p = Vf.pend { Vf.tick σ with files := Vf.setF σ.files n (some { x with bytes := x.bytes ++ p }), used := σ.used + (p.length : Int) } ⟨0, n, p.length, [], []⟩ := by
      unfold Vf.doSt
      rw [if_neg h0]
      unfold Vf.act
      rw [if_pos rfl]
      unfold Vf.write
      have : (Vf.tick σ).files n = some x := hx
      simp only [this]
      rfl
    rw [e1, e2]
    exact do_write w b bf bh bd pv fs sl σ S h ⟨0, n, p.length, [], []⟩ rfl h0 r.ok r.pend ⟨by simp, by simp, hn, by show p.length ≤ _; omega, by simp⟩ x hx bb off p.length c p rfl hpos hc hbS hbl (by have := r.bytes n x hx; omega) _ rfl r.used
end Go.Proofs.Ytclokpkhkokfhab
