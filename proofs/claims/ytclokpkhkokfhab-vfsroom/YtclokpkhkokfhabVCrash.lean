/-
  The power goes: some of the steps that are pending become durable, and nothing is left but what is durable.
-/
import Derived.Test.YtclokpkhkokfhabVForgot
namespace Go.Proofs.Ytclokpkhkokfhab
open Go.RowKit Go.Maps Go.Sort

namespace Vf
theorem keepAll_append (σ : St) (l m : List Step) : keepAll σ (l ++ m) = keepAll (keepAll σ l) m := by unfold keepAll; rw [List.foldl_append]
theorem keepAll_pending (σ : St) (l : List Step) : (keepAll σ l).pending = σ.pending := by
  induction l generalizing σ with
  | nil => rfl
  | cons s r ih =>
    show (keepAll (keep σ s) r).pending = _
    rw [ih]
    unfold keep
    split
    · split <;> rfl
    · split <;> rfl
theorem kept_small {l : List Step} {k t i : Nat} (hi : i ≤ k) : kept (l.take i) k t = l.take i := by
  unfold kept
  rw [List.take_take, List.drop_of_length_le (by rw [List.length_take]; omega)]
  simp [Nat.min_eq_right hi]
theorem kept_below {l : List Step} {k t i : Nat} (h : i < l.length) (hi : i < k) : kept (l.take (i + 1)) k t = kept (l.take i) k t ++ [l[i]] := by
  rw [kept_small (by omega), kept_small (by omega), List.take_succ_eq_append_getElem h]
theorem kept_at {l : List Step} {k t : Nat} (h : k < l.length) : kept (l.take (k + 1)) k t = l.take k ++ if (l[k]).kind = 0 then [{ l[k] with size := min t ((l[k]).size - 1) }] else [] := by
  unfold kept
  rw [List.take_take, Nat.min_eq_left (by omega), List.drop_take, List.drop_eq_getElem_cons h]
  have e : k + 1 - k = 1 := by omega
  rw [e]
  rfl
theorem kept_above {l : List Step} {k t i : Nat} (hi : k < i) : kept (l.take (i + 1)) k t = kept (l.take i) k t := by
  unfold kept
  rw [List.take_take, List.take_take, Nat.min_eq_left (by omega), Nat.min_eq_left (by omega)]
  congr 1
  by_cases h : k < l.length
  · rw [List.drop_take, List.drop_take, List.drop_eq_getElem_cons h]
    obtain ⟨a, ha⟩ : ∃ a, i + 1 - k = a + 1 := ⟨i - k, by omega⟩
    obtain ⟨c, hc⟩ : ∃ c, i - k = c + 1 := ⟨i - k - 1, by omega⟩
    rw [ha, hc]
    rfl
  · rw [List.drop_of_length_le (by rw [List.length_take]; omega), List.drop_of_length_le (by rw [List.length_take]; omega)]
end Vf

/-- What a crash must keep to. -/
structure CrashOk (σ : Vf.St) (k t : Nat) : Prop where
  keep : ∀ i (hi : i < σ.pending.length) z, z ≤ (σ.pending[i]).size → KeepOk (Vf.keepAll σ (σ.pending.take i)) { σ.pending[i] with size := z }
  size : ∀ i (hi : i < σ.pending.length), (σ.pending[i]).kind = 0 → 0 < (σ.pending[i]).size
  forget : ForgetOk (Vf.keepAll σ (Vf.kept σ.pending k t))

/-- The state behind i rounds. -/
def crashTo (σ : Vf.St) (k t i : Nat) : Vf.St := Vf.keepAll σ (Vf.kept (σ.pending.take i) k t)
theorem crashTo_pend (σ : Vf.St) (k t i : Nat) : (crashTo σ k t i).pending = σ.pending := Vf.keepAll_pending _ _

theorem crash_bad (w : World) (b : Nat) (σ : Vf.St) (S : Nat → Prop) (h : Rep w b σ S) (k t : Int) (hk : k < 0 ∨ t < 0) : Calls Try.prog 14 #[.pointer (some ⟨b, 0, none⟩), .int .i64 k, .int .i64 t] w fun e w' => e = .returned (.int .i64 2) ∧ w' = w := by
  have q := made_rep w b σ S h
  clear h
  by_cases h1 : k < 0
  · go_enter Try.func14, Try.ntmps14
    go_wp2_with (go_at_call 24; refine still q ?_)
    go_ret
    exact ⟨rfl, rfl⟩
  · have h2 : t < 0 := by omega
    clear hk
    go_enter Try.func14, Try.ntmps14
    go_wp2_with (go_at_call 24; refine still q ?_)
    go_ret
    exact ⟨rfl, rfl⟩

/-- The last three fields. -/
theorem crash_end {w wr w3 : World} {b bf bh bd : Nat} {pv : Value} {fs : Nat → Option Nat} {sl : Nat → Value} {σ : Vf.St} {S : Nat → Prop} {k t : Nat} (h : RepAt w3 b bf bh bd pv fs sl (Vf.forget (Vf.keepAll σ (Vf.kept σ.pending k t))) (grow S wr w3)) (m3 : Moved S wr w3) (m : Moved S w wr) :
    Rep (((w3.setCell ⟨b, 8, none⟩ (.slice none 0 0)).setCell ⟨b, 2, none⟩ (.bool true)).setCell ⟨b, 3, none⟩ (.int .i64 (-1))) b (Vf.crash σ k t) (grow S w (((w3.setCell ⟨b, 8, none⟩ (.slice none 0 0)).setCell ⟨b, 2, none⟩ (.bool true)).setCell ⟨b, 3, none⟩ (.int .i64 (-1)))) ∧ Moved S w (((w3.setCell ⟨b, 8, none⟩ (.slice none 0 0)).setCell ⟨b, 2, none⟩ (.bool true)).setCell ⟨b, 3, none⟩ (.int .i64 (-1))) := by
  have ez : (((w3.setCell ⟨b, 8, none⟩ (.slice none 0 0)).setCell ⟨b, 2, none⟩ (.bool true)).setCell ⟨b, 3, none⟩ (.int .i64 (-1))).heap.size = w3.heap.size := by simp [World.setCell]
  have ho : Only w3 (((w3.setCell ⟨b, 8, none⟩ (.slice none 0 0)).setCell ⟨b, 2, none⟩ (.bool true)).setCell ⟨b, 3, none⟩ (.int .i64 (-1))) b := ⟨by rw [ez]; exact Nat.le_refl _, fun i _ hne => (Below.heap_setCell _ ⟨b, 3, none⟩ _ i hne).trans ((Below.heap_setCell _ ⟨b, 2, none⟩ _ i hne).trans (Below.heap_setCell _ ⟨b, 8, none⟩ _ i hne))⟩
  have R := h.turnB ho (Vf.crash σ k t) (.slice none 0 0) (by rw [Joins.block_setCell (Joins.block_setCell (Joins.block_setCell h.blk _) _) _]; rfl) rfl rfl rfl (Nat.le_refl _) (World.ownsRow_nil _ _ _ _) (fun g hg => by cases hg)
  have hb : b < w.heap.size → S b := fun hl => by
    rcases h.sb with hh | hh
    · exact hh
    · have := m.size; omega
  have M := m.trans m3 (fun i _ h => h)
  refine ⟨⟨_, _, _, _, _, _, R.wide (fun i hi => ?_) (fun i hi => ?_)⟩, ((M.setCell (p := ⟨b, 8, none⟩) hb _).setCell (p := ⟨b, 2, none⟩) hb _).setCell (p := ⟨b, 3, none⟩) hb _⟩
  · rcases hi with hi | hi
    · exact .inl hi
    · exact .inr ⟨Nat.le_trans m.size hi.1, by rw [ez]; exact hi.2⟩
  · rcases hi with hi | hi
    · exact R.low i (.inl hi)
    · exact hi.2

set_option maxHeartbeats 1000000 in
theorem crash_some (w : World) (b bf bh bd g cap n : Nat) (fs : Nat → Option Nat) (sl : Nat → Value) (σ : Vf.St) (S : Nat → Prop) (h : RepAt w b bf bh bd (.slice (some ⟨g, 0, none⟩) n cap) fs sl σ S) (hn : n = σ.pending.length) (hcap : n ≤ 1000000000) (k t : Nat) (ok : Hid (CrashOk σ k t)) :
    Calls Try.prog 14 #[.pointer (some ⟨b, 0, none⟩), .int .i64 (k : Int), .int .i64 (t : Int)] w fun e w' => e = .returned (.int .i64 0) ∧ Rep w' b (Vf.crash σ k t) (grow S w w') ∧ Moved S w w' := by
  have q := made_some w b bf h.cells.2.2.2.2.2.1
  have c8 := h.cells.2.2.2.2.2.2.2.2
  have HN : Hid (n = σ.pending.length) := hn
  have H0 : Hid _ := h
  have k0 : ¬ (k : Int) < 0 := by omega
  have t0 : ¬ (t : Int) < 0 := by omega
  clear h hn
  go_enter Try.func14, Try.ntmps14
  go_wp2_with (go_at_call 24; refine still q ?_)
  go_loopw [23] (fun i wr => ∃ j : Nat, j ≤ n ∧ i = .int .i64 j ∧ (∃ fs' sl', RepAt wr b bf bh bd (.slice (some ⟨g, 0, none⟩) n cap) fs' sl' (crashTo σ k t j) S) ∧ Moved S w wr) (fun i _ => n - (intOf i).toNat)
  case atStart => exact ⟨0, Nat.zero_le _, rfl, ⟨fs, sl, by have e : crashTo σ k t 0 = σ := (by simp [crashTo, Vf.kept, Vf.keepAll]); rw [e]; exact H0.out⟩, Moved.refl _ _⟩
  case round =>
    obtain ⟨j, hj, rfl, ⟨fs', sl', hrep⟩, hm⟩ := hrel
    clear H0 c8 q
    by_cases hlt : j < n
    · have hl : j < σ.pending.length := by have := HN.out; omega
      have hpe : (crashTo σ k t j).pending = σ.pending := crashTo_pend σ k t j
      have hpl : (crashTo σ k t j).pending.length = n := by rw [hpe]; exact HN.out.symm
      have ST := steps_of_row (by have := hrep.pend; rw [hpl] at this; exact this) hpl.symm
      obtain ⟨s, hs⟩ : ∃ s, s = σ.pending[j] := ⟨_, rfl⟩
      have hget : (crashTo σ k t j).pending[j]'(by omega) = s := by rw [hs]; simp only [hpe]
      have d0 : wr.cell? ⟨g, j * 5, none⟩ = some (.int .i64 (s.kind : Int)) := by have := ST.cell j 0 (by omega) (by omega); rw [hget] at this; exact this
      have d1 : wr.cell? ⟨g, j * 5 + 1, none⟩ = some (.int .i64 (s.file : Int)) := by have := ST.cell j 1 (by omega) (by omega); rw [hget] at this; exact this
      have d2 : wr.cell? ⟨g, j * 5 + 2, none⟩ = some (.int .i64 (s.size : Int)) := by have := ST.cell j 2 (by omega) (by omega); rw [hget] at this; exact this
      have d3 : wr.cell? ⟨g, j * 5 + 3, none⟩ = some (str s.name) := by have := ST.cell j 3 (by omega) (by omega); rw [hget] at this; exact this
      have d4 : wr.cell? ⟨g, j * 5 + 4, none⟩ = some (str s.to) := by have := ST.cell j 4 (by omega) (by omega); rw [hget] at this; exact this
      have R2 := hrep.alloc (.cells #[.int .i64 (s.kind : Int), .int .i64 (s.file : Int), .int .i64 (s.size : Int), str s.name, str s.to] 55)
      have M2 := hm.alloc (.cells #[.int .i64 (s.kind : Int), .int .i64 (s.file : Int), .int .i64 (s.size : Int), str s.name, str s.to] 55)
      by_cases hjk : j < k
      · have i1 : (j : Int) < (k : Int) := by omega
        have ct : crashTo σ k t j = Vf.keepAll σ (σ.pending.take j) := by unfold crashTo; rw [Vf.kept_small (by omega)]
        have KA := keep_any _ b bf bh bd _ fs' sl' _ S R2 s (by rw [ct, hs]; exact ok.out.keep j hl _ (Nat.le_refl _))
        have E1 : Hid (crashTo σ k t (j + 1) = Vf.keep (crashTo σ k t j) s) := by show _ = _; unfold crashTo; rw [Vf.kept_below hl hjk, Vf.keepAll_append, hs]; rfl
        clear ok hrep hm ST hget hs R2 hpl HN hpe ct
        go_wp2_with (go_at_call 25; refine KA.mono ?_; rintro e w3 ⟨rfl, r3, m3⟩)
        exact ⟨⟨j + 1, by omega, rfl, by rw [E1.out]; exact r3, M2.trans m3 (fun i _ h => h)⟩, by simp [intOf]; omega⟩
      · have i1 : ¬ (j : Int) < (k : Int) := by omega
        by_cases hw : j = k ∧ s.kind = 0
        · have i2 : ((j : Int) == (k : Int)) = true := by simp; omega
          have i3 : ((s.kind : Int) == 0) = true := by simp; omega
          have sp : 0 < s.size := by rw [hs]; exact ok.out.size j hl (by rw [← hs]; exact hw.2)
          have ct : crashTo σ k t j = Vf.keepAll σ (σ.pending.take j) := by unfold crashTo; rw [Vf.kept_small (by omega)]
          have sb := (ok.out.keep j hl _ (Nat.le_refl _)).step.size
          obtain ⟨Z, hZ⟩ : ∃ Z : Nat, Z = min t (s.size - 1) := ⟨_, rfl⟩
          have hZi : min (t : Int) ((s.size : Int) - 1) = (Z : Int) := by omega
          have KO := ok.out.keep j hl Z (by rw [← hs]; omega)
          rw [← hs, ← ct] at KO
          have E1 : Hid (crashTo σ k t (j + 1) = Vf.keep (crashTo σ k t j) { s with size := Z }) := by
            show _ = _
            rw [ct]
            unfold crashTo
            have hjk2 := hw.1
            subst hjk2
            rw [Vf.kept_at hl, ← hs, if_pos hw.2, Vf.keepAll_append, ← hZ]
            rfl
          have R3 := hrep.alloc (.cells #[.int .i64 (s.kind : Int), .int .i64 (s.file : Int), .int .i64 (Z : Int), str s.name, str s.to] 55)
          have M3 := hm.alloc (.cells #[.int .i64 (s.kind : Int), .int .i64 (s.file : Int), .int .i64 (Z : Int), str s.name, str s.to] 55)
          have KA := keep_any _ b bf bh bd _ fs' sl' _ S R3 _ KO
          unfold sv at KA
          obtain ⟨y, hy⟩ : ∃ y, y = s.size := ⟨_, rfl⟩
          have sb' : y ≤ 1000000000 := by rw [hy, hs]; exact sb
          rw [← hy] at hZi d2 sp
          clear ok hrep hm ST hget hs R2 hpl HN hpe hw ct sb KO hZ R3 hy M2
          go_wp2_with (go_at_call 25; refine KA.mono ?_; rintro e w3 ⟨rfl, r3, m3⟩)
          exact ⟨⟨j + 1, by omega, rfl, by rw [E1.out]; exact r3, M3.trans m3 (fun i _ h => h)⟩, by simp [intOf]; omega⟩
        · have E1 : Hid (crashTo σ k t (j + 1) = crashTo σ k t j) := by
            show _ = _
            unfold crashTo
            by_cases hjk2 : j = k
            · subst hjk2
              have : ¬ s.kind = 0 := fun h => hw ⟨rfl, h⟩
              rw [Vf.kept_at hl, Vf.kept_small (Nat.le_refl _), if_neg (by rw [← hs]; exact this), List.append_nil]
            · rw [Vf.kept_above (by omega)]
          have HR : Hid _ := R2
          by_cases hjk2 : j = k
          · have i2 : ((j : Int) == (k : Int)) = true := by simp; omega
            have i3 : ((s.kind : Int) == 0) = false := by simp; omega
            clear ok hrep hm ST hget hs R2 hpl HN hpe hw hjk2
            go_wp2_with (fail)
            exact ⟨⟨j + 1, by omega, rfl, by rw [E1.out]; exact ⟨fs', sl', HR.out⟩, M2⟩, by simp [intOf]; omega⟩
          · have i2 : ((j : Int) == (k : Int)) = false := by simp; omega
            clear ok hrep hm ST hget hs R2 hpl HN hpe hw
            go_wp2_with (fail)
            exact ⟨⟨j + 1, by omega, rfl, by rw [E1.out]; exact ⟨fs', sl', HR.out⟩, M2⟩, by simp [intOf]; omega⟩
    · have e : j = n := by omega
      have hl : n = σ.pending.length := HN.out
      have i3 : ¬ (j : Int) < (n : Int) := by omega
      have ec : crashTo σ k t j = Vf.keepAll σ (Vf.kept σ.pending k t) := by unfold crashTo; rw [e, hl, List.take_length]
      rw [ec] at hrep
      have FA := forget_any _ b bf bh bd _ fs' sl' _ S hrep ok.out.forget
      have HM : Hid _ := hm
      clear ok hrep hm hl HN ec e hj hlt
      go_wp2_with (go_at_call 26; refine FA.mono ?_; rintro e w3 ⟨rfl, ⟨bf3, bh3, bd3, pv3, fs3, sl3, r3⟩, m3⟩; have f2 := r3.unfrozen 2; have f3 := r3.unfrozen 3; have f8 := r3.unfrozen 8; have c2 := r3.cells.2.2.1; have c3 := r3.cells.2.2.2.1; have c8 := r3.cells.2.2.2.2.2.2.2.2; have R3 : Hid _ := r3; have M3 : Hid _ := m3; clear r3 m3)
      go_ret
      refine ⟨rfl, crash_end R3.out M3.out HM.out⟩

theorem crash_none (w : World) (b bf bh bd : Nat) (fs : Nat → Option Nat) (sl : Nat → Value) (σ : Vf.St) (S : Nat → Prop) (h : RepAt w b bf bh bd (.slice none 0 0) fs sl σ S) (hn : σ.pending = []) (k t : Nat) (ok : Hid (CrashOk σ k t)) :
    Calls Try.prog 14 #[.pointer (some ⟨b, 0, none⟩), .int .i64 (k : Int), .int .i64 (t : Int)] w fun e w' => e = .returned (.int .i64 0) ∧ Rep w' b (Vf.crash σ k t) (grow S w w') ∧ Moved S w w' := by
  have q := made_some w b bf h.cells.2.2.2.2.2.1
  have c8 := h.cells.2.2.2.2.2.2.2.2
  have k0 : ¬ (k : Int) < 0 := by omega
  have t0 : ¬ (t : Int) < 0 := by omega
  have ec : Vf.keepAll σ (Vf.kept σ.pending k t) = σ := by rw [hn]; simp [Vf.kept, Vf.keepAll]
  have FA := forget_any _ b bf bh bd _ fs sl _ S (by rw [← ec] at h; exact h) ok.out.forget
  clear h hn ok ec
  go_enter Try.func14, Try.ntmps14
  go_wp2_with (go_at_call 24; refine still q ?_)
  go_loopw [23] (fun i wr => i = .int .i64 0 ∧ wr = w) (fun _ _ => 0)
  case atStart => exact ⟨rfl, rfl⟩
  case round =>
    obtain ⟨rfl, rfl⟩ := hrel
    clear c8 q
    go_wp2_with (go_at_call 26; refine FA.mono ?_; rintro e w3 ⟨rfl, ⟨bf3, bh3, bd3, pv3, fs3, sl3, r3⟩, m3⟩; have f2 := r3.unfrozen 2; have f3 := r3.unfrozen 3; have f8 := r3.unfrozen 8; have c2 := r3.cells.2.2.1; have c3 := r3.cells.2.2.2.1; have c8 := r3.cells.2.2.2.2.2.2.2.2; have R3 : Hid _ := r3; have M3 : Hid _ := m3; clear r3 m3)
    go_ret
    exact ⟨rfl, crash_end R3.out M3.out (Moved.refl _ _)⟩

theorem crash_any (w : World) (b : Nat) (σ : Vf.St) (S : Nat → Prop) (h : Rep w b σ S) (k t : Nat) (hp : σ.pending.length ≤ 1000000000) (ok : CrashOk σ k t) :
    Calls Try.prog 14 #[.pointer (some ⟨b, 0, none⟩), .int .i64 (k : Int), .int .i64 (t : Int)] w fun e w' => e = .returned (.int .i64 0) ∧ Rep w' b (Vf.crash σ k t) (grow S w w') ∧ Moved S w w' := by
  obtain ⟨bf, bh, bd, pv, fs, sl, h⟩ := h
  rcases h.pend.2 with ⟨e, h0⟩ | ⟨g, cap, cur, e, _⟩
  · subst e
    exact crash_none w b bf bh bd fs sl σ S h (List.eq_nil_of_length_eq_zero h0) k t ok
  · subst e
    exact crash_some w b bf bh bd g cap _ fs sl σ S h rfl hp k t ok
end Go.Proofs.Ytclokpkhkokfhab
