/-
  The same for the other question; and where nothing is pending.
-/
import Derived.Test.YtclokpkhkokfhabVSettled
namespace Go.Proofs.Ytclokpkhkokfhab
open Go.RowKit Go.Maps

set_option maxHeartbeats 1000000 in
theorem settle1_some (B : Nat) (w : World) (b bf bh bd g cap n : Nat) (fs : Nat → Option Nat) (sl : Nat → Value) (σ : Vf.St) (S : Nat → Prop) (h : RepAt w b bf bh bd (.slice (some ⟨g, 0, none⟩) n cap) fs sl σ S) (hn : n = σ.pending.length) (hcap : n ≤ 1000000000)
    (due : Vf.Step → Bool) (DU : Hid (∀ wx s, Moved S w wx → Calls Try.prog 32 #[sv s, .pointer (some ⟨B, 0, none⟩)] wx fun e w' => e = .returned (.bool (due s)) ∧ w' = wx.alloc (.cells (sc s).toArray 55)))
    (ok : Hid (∀ i (hi : i < σ.pending.length), due σ.pending[i] = true → KeepOk (setTo due σ i) σ.pending[i])) :
    Calls Try.prog 31 #[.pointer (some ⟨b, 0, none⟩), .func (.func 32) #[] #[.pointer (some ⟨B, 0, none⟩)]] w fun e w' => e = .returned (.tuple #[]) ∧ (∃ pv' fs' sl', RepAt w' b bf bh bd pv' fs' sl' (Vf.settle due σ) S) ∧ Moved S w w' := by
  have c8 := h.cells.2.2.2.2.2.2.2.2
  have HN : Hid (n = σ.pending.length) := hn
  have nc : (0 : Int) ≤ (cap : Int) := by omega
  have H0 : Hid _ := h
  clear h hn
  go_enter Try.func31, Try.ntmps31
  go_wp2_with (fail)
  go_loopw [4, 17] (fun v i wr => ∃ j r : Nat, j ≤ n ∧ r ≤ j ∧ i = .int .i64 j ∧ v = .slice (some ⟨g, 0, none⟩) r cap ∧ Hid (r = (restTo due σ.pending j).length) ∧ (∃ fs' sl', RepAt wr b bf bh bd (.slice (some ⟨g, 0, none⟩) n cap) fs' sl' (setTo due σ j) S) ∧ Moved S w wr) (fun _ i _ => n - (intOf i).toNat)
  case atStart => exact ⟨0, 0, Nat.zero_le _, Nat.le_refl _, rfl, rfl, rfl, ⟨fs, sl, by rw [setTo_zero]; exact H0.out⟩, Moved.refl _ _⟩
  case round =>
    obtain ⟨j, r, hj, hrj, rfl, rfl, HR, ⟨fs', sl', hrep⟩, hm⟩ := hrel
    clear H0 c8
    by_cases hlt : j < n
    · have hl : j < σ.pending.length := by have := HN.out; omega
      have hpl : (setTo due σ j).pending.length = n := by rw [setTo_pend due σ j (by omega)]; exact HN.out.symm
      have ST := steps_of_row (by have := hrep.pend; rw [hpl] at this; exact this) hpl.symm
      obtain ⟨s, hs⟩ : ∃ s, s = σ.pending[j] := ⟨_, rfl⟩
      have hget : (setTo due σ j).pending[j]'(by omega) = s := by rw [setTo_get due σ j hl]; exact hs.symm
      have d0 : wr.cell? ⟨g, j * 5, none⟩ = some (.int .i64 (s.kind : Int)) := by have := ST.cell j 0 (by omega) (by omega); rw [hget] at this; exact this
      have d1 : wr.cell? ⟨g, j * 5 + 1, none⟩ = some (.int .i64 (s.file : Int)) := by have := ST.cell j 1 (by omega) (by omega); rw [hget] at this; exact this
      have d2 : wr.cell? ⟨g, j * 5 + 2, none⟩ = some (.int .i64 (s.size : Int)) := by have := ST.cell j 2 (by omega) (by omega); rw [hget] at this; exact this
      have d3 : wr.cell? ⟨g, j * 5 + 3, none⟩ = some (str s.name) := by have := ST.cell j 3 (by omega) (by omega); rw [hget] at this; exact this
      have d4 : wr.cell? ⟨g, j * 5 + 4, none⟩ = some (str s.to) := by have := ST.cell j 4 (by omega) (by omega); rw [hget] at this; exact this
      have R2 := (hrep.alloc (.cells #[.int .i64 (s.kind : Int), .int .i64 (s.file : Int), .int .i64 (s.size : Int), str s.name, str s.to] 55)).alloc (.cells #[.int .i64 (s.kind : Int), .int .i64 (s.file : Int), .int .i64 (s.size : Int), str s.name, str s.to] 55)
      have M2 := (hm.alloc (.cells #[.int .i64 (s.kind : Int), .int .i64 (s.file : Int), .int .i64 (s.size : Int), str s.name, str s.to] 55)).alloc (.cells #[.int .i64 (s.kind : Int), .int .i64 (s.file : Int), .int .i64 (s.size : Int), str s.name, str s.to] 55)
      have DS : Calls Try.prog 32 #[sv s, .pointer (some ⟨B, 0, none⟩)] (wr.alloc (.cells #[.int .i64 (s.kind : Int), .int .i64 (s.file : Int), .int .i64 (s.size : Int), str s.name, str s.to] 55)) fun e w' => e = .returned (.bool (due s)) ∧ w' = (wr.alloc (.cells #[.int .i64 (s.kind : Int), .int .i64 (s.file : Int), .int .i64 (s.size : Int), str s.name, str s.to] 55)).alloc (.cells #[.int .i64 (s.kind : Int), .int .i64 (s.file : Int), .int .i64 (s.size : Int), str s.name, str s.to] 55) := DU.out (wr.alloc (.cells #[.int .i64 (s.kind : Int), .int .i64 (s.file : Int), .int .i64 (s.size : Int), str s.name, str s.to] 55)) s (hm.alloc _)
      cases hd : due s with
      | true =>
        rw [hd] at DS
        have KA := keep_any _ b bf bh bd _ fs' sl' _ S R2 s (by rw [hs]; exact ok.out j hl (by rw [← hs]; exact hd))
        have E1 : Hid (setTo due σ (j + 1) = Vf.keep (setTo due σ j) s) := by show _ = _; rw [hs]; exact setTo_yes hl (by rw [← hs]; exact hd)
        have E2 : Hid (r = (restTo due σ.pending (j + 1)).length) := by show _ = _; rw [(dueTo_yes hl (by rw [← hs]; exact hd)).2]; exact HR.out
        clear ok DU hrep hm ST hget hs R2 HR hpl hd HN
        go_wp2_with (first
          | (go_at_call 32; refine still2 DS ?_)
          | (go_at_call 25; refine KA.mono ?_; rintro e w3 ⟨rfl, r3, m3⟩))
        exact ⟨⟨j + 1, r, by omega, by omega, rfl, rfl, E2, by rw [E1.out]; exact r3, M2.trans m3 (fun i _ h => h)⟩, by simp [intOf]; omega⟩
      | false =>
        rw [hd] at DS
        have E1 : Hid (setTo due σ (j + 1) = { setTo due σ j with pending := (setTo due σ j).pending.take r ++ [s] ++ (setTo due σ j).pending.drop (r + 1) }) := by show _ = _; rw [hs, HR.out]; exact setTo_no hl (by rw [← hs]; exact hd)
        have E2 : Hid (r + 1 = (restTo due σ.pending (j + 1)).length) := by show _ = _; rw [(dueTo_no hl (by rw [← hs]; exact hd)).2, List.length_append, ← HR.out]; rfl
        have R3 := R2.alloc (.cells #[.int .i64 (s.kind : Int), .int .i64 (s.file : Int), .int .i64 (s.size : Int), str s.name, str s.to] 55)
        have M3 := M2.alloc (.cells #[.int .i64 (s.kind : Int), .int .i64 (s.file : Int), .int .i64 (s.size : Int), str s.name, str s.to] 55)
        obtain ⟨P, hP⟩ : ∃ P, P = (setTo due σ j).pending := ⟨_, rfl⟩
        have HP : Hid (P = (setTo due σ j).pending) := hP
        have S3 : StepsAt (((wr.alloc (.cells #[.int .i64 (s.kind : Int), .int .i64 (s.file : Int), .int .i64 (s.size : Int), str s.name, str s.to] 55)).alloc (.cells #[.int .i64 (s.kind : Int), .int .i64 (s.file : Int), .int .i64 (s.size : Int), str s.name, str s.to] 55)).alloc (.cells #[.int .i64 (s.kind : Int), .int .i64 (s.file : Int), .int .i64 (s.size : Int), str s.name, str s.to] 55)) g cap P := by rw [hP]; exact steps_of_row (by have := R3.pend; rw [hpl] at this; exact this) hpl.symm
        have pl : P.length = n := by rw [hP]; exact hpl
        have NB : (((wr.alloc (.cells #[.int .i64 (s.kind : Int), .int .i64 (s.file : Int), .int .i64 (s.size : Int), str s.name, str s.to] 55)).alloc (.cells #[.int .i64 (s.kind : Int), .int .i64 (s.file : Int), .int .i64 (s.size : Int), str s.name, str s.to] 55)).alloc (.cells #[.int .i64 (s.kind : Int), .int .i64 (s.file : Int), .int .i64 (s.size : Int), str s.name, str s.to] 55)).heap[wr.heap.size + 1 + 1]? = some (.cells (sc s).toArray 55 (0, 0)) := by
          have := new_block ((wr.alloc (.cells #[.int .i64 (s.kind : Int), .int .i64 (s.file : Int), .int .i64 (s.size : Int), str s.name, str s.to] 55)).alloc (.cells #[.int .i64 (s.kind : Int), .int .i64 (s.file : Int), .int .i64 (s.size : Int), str s.name, str s.to] 55)) (.cells #[.int .i64 (s.kind : Int), .int .i64 (s.file : Int), .int .i64 (s.size : Int), str s.name, str s.to] 55)
          rw [World.size_alloc, World.size_alloc] at this
          exact this
        have hrl : r < P.length := by omega
        have PL : Hid _ := pl
        clear ok DU hrep hm ST hget hs R2 HR hpl hd HN hP pl
        go_wp2_with (first
          | (go_at_call 32; refine still2 DS ?_)
          | (at_builtin; refine wpList_over _ rfl _ _ rfl g cap P s r hrl rfl (wr.heap.size + 1 + 1) 1 rfl S3 NB ?_; intro w4 s4 g4 z4; have Z4 : Hid _ := z4; clear z4))
        have ln : (P.take r ++ [s] ++ P.drop (r + 1)).length = n := by rw [← PL.out]; simp; omega
        refine ⟨⟨j + 1, r + 1, by omega, by omega, rfl, rfl, E2, ⟨fs', sl', ?_⟩, M3.grown g4 (fun k e _ => by cases e; exact R3.sp g rfl)⟩, by simp [intOf]; omega⟩
        rw [E1.out, ← HP.out]
        exact R3.turnP rfl (only_grown g4) _ (by rw [ln]; exact row_of_steps s4 ln.symm)
    · have e : j = n := by omega
      have hl : n = σ.pending.length := HN.out
      have hpl : (setTo due σ j).pending.length = n := by rw [setTo_pend due σ j (by omega)]; exact hl.symm
      have ST := steps_of_row (by have := hrep.pend; rw [hpl] at this; exact this) hpl.symm
      have c8 := hrep.cells.2.2.2.2.2.2.2.2
      have nc : n ≤ cap := by obtain ⟨_, _, _, q, _⟩ := ST; rw [hpl] at q; exact q
      have ntk : (setTo due σ j).pending.take r = restTo due σ.pending j := by
        show (restTo due σ.pending j ++ _).take r = _
        rw [HR.out]; exact List.take_left' rfl
      have i1 : (r : Int) ≤ (n : Int) := by omega
      have i2 : (n : Int) ≤ (cap : Int) := by omega
      have i3 : ¬ (j : Int) < (n : Int) := by omega
      by_cases hrn : cap = r
      · have q5 : ∀ ty a c, (Builtin.clear_ #[46] ty #[.slice a 0 c]).run Try.prog wr = .ok (.tuple #[]) wr := fun ty a c => by
          cases a <;> simp [Builtin.clear_, run_underlying Try.underlying46]
        have f8 := hrep.unfrozen 8
        have hr2 : r = n := by omega
        have nz : n - r = 0 := by omega
        have s5 := ST.take r
        rw [ntk] at s5
        have e2 : j = σ.pending.length := by omega
        have FIN : Hid _ := settle_end (r := r) (by rw [e2] at hrep; exact hrep) hm (World.grownBy.refl wr (some g)) (by rw [← e2]; exact HR.out) (by rw [e2] at s5; exact s5)
        clear ok DU hrep ST hpl hl HN ntk e hcap nc hj hlt hrj s5 hr2 e2
        subst hrn
        go_wp2_with (fail)
        go_end0
        exact ⟨rfl, FIN.out⟩
      · obtain ⟨w5, q5, s5, g5, z5⟩ := run_clear_steps wr g cap _ r (by omega) ST (cap - r)
        rw [hpl] at q5
        rw [ntk] at s5
        have b5 : w5.heap[b]? = some (.cells (fsCells (setTo due σ j) bf bh bd (.slice (some ⟨g, 0, none⟩) n cap)) 48 (0, 0)) := (g5.block b (World.block_lt_of_cell? wr _ c8) (by simp; exact ne_kind hrep.kb (hrep.kp rfl) (by decide))).trans hrep.blk
        have f8 := Joins.unfrozen_of_block b5 8
        have e8 : w5.cell? ⟨b, 8, none⟩ = some (.slice (some ⟨g, 0, none⟩) n cap) := Joins.cell_of_block b5 8
        have e2 : j = σ.pending.length := by omega
        have FIN : Hid _ := settle_end (r := r) (by rw [e2] at hrep; exact hrep) hm g5 (by rw [← e2]; exact HR.out) (by rw [e2] at s5; exact s5)
        clear ok DU hrep ST hpl hl HN ntk e hcap nc hj hlt hrj e2 s5 b5
        go_wp2_with (fail)
        go_end0
        exact ⟨rfl, FIN.out⟩

/-- Where nothing is pending. -/
theorem settle_nil (w : World) (b bf bh bd : Nat) (fs : Nat → Option Nat) (sl : Nat → Value) (σ : Vf.St) (S : Nat → Prop) (h : RepAt w b bf bh bd (.slice none 0 0) fs sl σ S) (hn : σ.pending = []) (v : Value) (due : Vf.Step → Bool) :
    Calls Try.prog 31 #[.pointer (some ⟨b, 0, none⟩), v] w fun e w' => e = .returned (.tuple #[]) ∧ (∃ pv' fs' sl', RepAt w' b bf bh bd pv' fs' sl' (Vf.settle due σ) S) ∧ Moved S w w' := by
  have c8 := h.cells.2.2.2.2.2.2.2.2
  have f8 := h.unfrozen 8
  have e1 : Vf.settle due σ = σ := by
    unfold Vf.settle
    rw [hn]
    obtain ⟨_, _, _, _, _, _, _, _, p⟩ := σ
    simp at hn
    subst hn
    rfl
  have q5 : ∀ ty wx, (Builtin.clear_ #[46] ty #[.slice none 0 0]).run Try.prog wx = .ok (.tuple #[]) wx := fun ty wx => by simp [Builtin.clear_, run_underlying Try.underlying46]
  have FIN : Hid ((∃ pv' fs' sl', RepAt (w.setCell ⟨b, 8, none⟩ (.slice none 0 0)) b bf bh bd pv' fs' sl' (Vf.settle due σ) S) ∧ Moved S w (w.setCell ⟨b, 8, none⟩ (.slice none 0 0))) := by
    refine ⟨⟨.slice none 0 0, fs, sl, ?_⟩, (Moved.refl S w).setCell (fun _ => h.sb) _⟩
    rw [e1]
    exact h.field 8 (.slice none 0 0) σ rfl rfl rfl rfl rfl (Nat.le_refl _)
  clear h hn e1
  go_enter Try.func31, Try.ntmps31
  go_wp2_with (fail)
  refine wp_loop_rounds 1 ?_
  rw [rounds_succ]
  go_wp2_with (fail)
  go_end0
  exact ⟨rfl, FIN.out⟩
end Go.Proofs.Ytclokpkhkokfhab
