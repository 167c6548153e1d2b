/-
  A file system that keeps to what it should can do each call.
-/
import Derived.Test.YtclokpkhkokfhabVCrash
import Derived.Test.YtclokpkhkokfhabVInv3
namespace Go.Proofs.Ytclokpkhkokfhab
open Go.RowKit Go.Maps Go.Sort

namespace Vf
theorem ren_le {D : Nm} {s : Step} {M : Nat} (h : ∀ p ∈ D, p.2 ≤ M) (hs : s.file ≤ M) : ∀ p ∈ ren s D, p.2 ≤ M := by
  have hd : ∀ k, ∀ p ∈ del D k, p.2 ≤ M := fun k p hp => h p (mem_del.1 hp).1
  have hn : ∀ k, num D k ≤ M := fun k => by
    unfold num
    cases e : look D k with
    | none => exact Nat.zero_le _
    | some n => exact h _ (look_mem e)
  intro p hp
  unfold ren at hp
  split at hp
  · rcases List.mem_cons.1 (show p ∈ (s.name, s.file) :: del D s.name from hp) with rfl | hp'
    · exact hs
    · exact hd _ p hp'
  · split at hp
    · rcases List.mem_cons.1 (show p ∈ (s.to, num D s.name) :: del (del D s.name) s.to from hp) with rfl | hp'
      · exact hn _
      · exact hd _ p (mem_del.1 hp').1
    · split at hp
      · exact hd _ p hp
      · exact h p hp
theorem keepAll_le {M : Nat} : ∀ {l : List Step} {σ : St}, (∀ p ∈ σ.durable, p.2 ≤ M) → (∀ s ∈ l, s.kind ≤ 3 ∧ s.file ≤ M) → ∀ p ∈ (keepAll σ l).durable, p.2 ≤ M
  | [], _, h, _ => h
  | s :: r, σ, h, hl => keepAll_le (l := r) (σ := keep σ s) (by rw [keep_dur (hl s (List.mem_cons_self ..)).1]; exact ren_le h (hl s (List.mem_cons_self ..)).2) fun t ht => hl t (List.mem_cons_of_mem _ ht)
theorem keepAll_len : ∀ {l : List Step} {σ : St}, (∀ s ∈ l, s.kind ≤ 3) → (keepAll σ l).durable.length ≤ σ.durable.length + l.length
  | [], _, _ => Nat.le_refl _
  | s :: r, σ, hl => by
    have h1 := keepAll_len (l := r) (σ := keep σ s) fun t ht => hl t (List.mem_cons_of_mem _ ht)
    rw [keep_dur (hl s (List.mem_cons_self ..))] at h1
    have h2 := ren_length s σ.durable
    show (keepAll (keep σ s) r).durable.length ≤ _
    rw [List.length_cons]; omega
theorem wsum_le (n : Nat) : ∀ {l : List Step}, (∀ s ∈ l, s.size ≤ 64) → wsum n l ≤ 64 * l.length
  | [], _ => Nat.le_refl _
  | s :: r, h => by
    have h1 := wsum_le n (l := r) fun t ht => h t (List.mem_cons_of_mem _ ht)
    have h2 := h s (List.mem_cons_self ..)
    rw [wsum_cons, List.length_cons]
    split <;> omega
theorem num_le {D : Nm} {M : Nat} (h : ∀ p ∈ D, p.2 ≤ M) (k : Bs) : num D k ≤ M := by
  unfold num
  cases e : look D k with
  | none => exact Nat.zero_le _
  | some n => exact h _ (look_mem e)
end Vf

theorem keep_ok {σ : Vf.St} (h : Vf.Inv σ) (hs : σ.steps ≤ 100000001) {l : List Vf.Step} (hl : ∀ s ∈ l, s ∈ σ.pending) (hn : l.length ≤ σ.pending.length) {s : Vf.Step} (hm : s ∈ σ.pending) {z : Nat} (hz : z ≤ s.size) (τ : Vf.St) (e1 : τ.durable = (Vf.keepAll σ l).durable) (e2 : τ.files = (Vf.keepAll σ l).files) : KeepOk τ { s with size := z } := by
  have pl := h.plain s hm
  have hf := h.wfile s hm
  have hc := h.count
  have le := Vf.keepAll_le (M := σ.steps) (l := l) (σ := σ) (fun p hp => (h.durOk.le p hp).2) (fun t ht => ⟨(h.plain t (hl t ht)).kind, h.wfile t (hl t ht)⟩)
  refine ⟨⟨?_, ?_, ?_, ?_, ?_⟩, pl.kind, ?_, ?_, ?_⟩
  · show s.name.length ≤ _; have := pl.name; omega
  · show s.to.length ≤ _; have := pl.to; omega
  · show s.file ≤ _; omega
  · show z ≤ _; have := pl.size; omega
  · show s.kind ≤ _; have := pl.kind; omega
  · have := Vf.keepAll_len (l := l) (σ := σ) (fun t ht => (h.plain t (hl t ht)).kind)
    rw [e1]; omega
  · intro k
    rw [e1]
    have := Vf.num_le le k
    omega
  · intro x hx
    rw [e2] at hx
    obtain ⟨y, hy, _, e⟩ := Vf.files_keepAll (show (Vf.keepAll σ l).files s.file = some x from hx)
    have h1 := h.pend _ y hy
    have h2 := (h.nums _ y hy).2.2
    have h3 := Vf.wsum_le s.file (l := l) (fun t ht => (h.plain t (hl t ht)).size)
    have h4 := pl.size
    show x.synced + z ≤ _
    rw [e]
    omega

theorem settle_ok {σ : Vf.St} (h : Vf.Inv σ) (hs : σ.steps ≤ 100000001) (due : Vf.Step → Bool) : SettleOk due σ := fun i hi _ =>
  keep_ok h hs (l := dueTo due σ.pending i) (fun _ hs => List.mem_of_mem_take (List.mem_filter.1 hs).1) (Nat.le_trans (List.length_filter_le _ _) (List.length_take_le' i _)) (List.getElem_mem hi) (Nat.le_refl _) _ rfl rfl

theorem ready {σ : Vf.St} (h : Vf.Inv σ) (hs : σ.steps ≤ 100000000) : Ready σ := by
  have hH := h.heldOk
  have hc := h.count
  have hlen : σ.held.length ≤ σ.steps := by
    have := Vf.play_length σ.pending σ.durable
    rw [← h.replay] at this; omega
  refine ⟨⟨h.fuse, hs⟩, by omega, by omega, fun k => ?_, ?_, ?_, fun n x hx => ?_, fun F => settle_ok h.tick (by show σ.steps + 1 ≤ _; omega) _, settle_ok h.tick (by show σ.steps + 1 ≤ _; omega) _, fun k n hk => ?_⟩
  · have := Vf.num_le (fun p hp => (hH.le p hp).2) k
    omega
  · cases hx : σ.files (σ.steps + 1) with
    | none => rfl
    | some x => have := h.nums _ x hx; omega
  · have hu : Vf.total σ.files σ.held ≤ σ.held.length * (64 * σ.steps) := by
      have : ∀ H : Vf.Nm, Vf.total σ.files H ≤ H.length * (64 * σ.steps) := by
        intro H
        induction H with
        | nil => simp [Vf.total]
        | cons p r ih =>
          rw [Vf.total_cons, List.length_cons, Nat.add_mul]
          have : Vf.blen σ.files p.2 ≤ 64 * σ.steps := by
            unfold Vf.blen
            cases hx : σ.files p.2 with
            | none => exact Nat.zero_le _
            | some x => exact (h.nums _ x hx).2.2
          omega
      exact this _
    have h1 : σ.held.length * (64 * σ.steps) ≤ 100000000 * (64 * 100000000) := Nat.mul_le_mul (by omega) (by omega)
    rw [h.used]
    omega
  · have := (h.nums n x hx).2.2
    omega
  · obtain ⟨x, hx⟩ := Option.ne_none_iff_exists'.1 (hH.look hk).1
    exact ⟨x, hx⟩

theorem crash_ok {σ : Vf.St} (h : Vf.Inv σ) (hs : σ.steps ≤ 100000000) (k t : Nat) : CrashOk σ k t := by
  have hc := h.count
  obtain ⟨nm, hd⟩ := h.keptOk k t
  have hl : (Vf.keepAll σ (Vf.kept σ.pending k t)).durable.length ≤ σ.steps := by
    have h1 := Vf.play_length (σ.pending.take k) σ.durable
    rw [hd]
    rw [List.length_take] at h1
    omega
  refine ⟨fun i hi z hz => keep_ok h (by omega) (fun _ hs => List.mem_of_mem_take hs) (List.length_take_le' i _) (List.getElem_mem hi) hz _ rfl rfl, fun i hi h0 => (h.plain _ (List.getElem_mem hi)).pos h0, ⟨by omega, fun k' => ?_, fun k' n hk => ?_, fun a a' n ha ha' => ?_, ?_⟩⟩
  · have := Vf.num_le (fun p hp => (nm.le p hp).2) k'
    omega
  · obtain ⟨x, hx⟩ := Option.ne_none_iff_exists'.1 (nm.look hk).1
    obtain ⟨y, hy, e1, _, hle⟩ := h.keptBytes k t hx
    refine ⟨x, hx, hle, Nat.le_trans hle ?_⟩
    have := (h.nums n y hy).2.2
    rw [e1]; omega
  · have := Vf.vals_inj nm.vals (Vf.look_mem ha) (Vf.look_mem ha') rfl
    exact (Prod.mk.inj this).1
  · rw [(Vf.keepAll_rest _ σ).2.2.2.2.1]; exact hl

theorem crash_good (w : World) (b : Nat) (σ : Vf.St) (S : Nat → Prop) (h : Rep w b σ S) (i : Vf.Inv σ) (hs : σ.steps ≤ 100000000) (k t : Nat) :
    Calls Try.prog 14 #[.pointer (some ⟨b, 0, none⟩), .int .i64 (k : Int), .int .i64 (t : Int)] w fun e w' => e = .returned (.int .i64 0) ∧ Rep w' b (Vf.crash σ k t) (grow S w w') ∧ Moved S w w' :=
  crash_any w b σ S h k t (by have := i.count; omega) (crash_ok i hs k t)
end Go.Proofs.Ytclokpkhkokfhab
