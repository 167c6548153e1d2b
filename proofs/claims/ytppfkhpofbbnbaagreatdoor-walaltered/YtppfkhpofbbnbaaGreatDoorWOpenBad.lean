/-
  Open, where the log can't be gone on with: it is refused, and nothing is changed.
-/
import Derived.Test.YtppfkhpofbbnbaaGreatDoorWOpen
namespace Go.Proofs.YtppfkhpofbbnbaaGreatDoor
open Go.RowKit Go.Maps Go.Sort

set_option maxRecDepth 100000 in
set_option maxHeartbeats 4000000 in
theorem open_gap (w : World) (b : Nat) (σ : Vf.St) (S : Nat → Prop) (h : Rep w b σ S) (hi : Vf.Inv σ) (hst : σ.steps ≤ 80000000) (hon : σ.on = true) (ns : List Nat) (hns : ∀ k ∈ ns, 1 ≤ k ∧ k < 100) (hl : ns.length ≤ 99)
    (hnm : namesOf σ = ns.map Wl.seg) (hfd : ∀ k ∈ ns, Vf.findE σ (Wl.seg k) = 0) (hD : ∀ k ∈ ns, (Vf.read σ (Wl.seg k)).length ≤ 10000000) (first seq : Nat) (f1 : 1 ≤ first) (f2 : first ≤ 99) (hq : seq ≤ 1073741824)
    (all : List Wl.Bat) (next : Nat) (hrf : Wl.rf (fun k => Vf.read σ (Wl.seg k)) ns first [] = some (all, next)) (hall : ∀ x ∈ all, x.seq ≤ 1073741824) (hal : all.length ≤ 1000000000) (hgo : Wl.goOnB all seq = false) :
    Calls Tryz.prog 15 #[.pointer (some ⟨b, 0, none⟩), .int .i64 (first : Int), .int .i64 (seq : Int)] w fun e w' => e = .returned (.tuple #[.pointer none, .slice none 0 0, .int .i64 6]) ∧ Below w.heap.size w w' := by
  have RD := ready hi (by omega)
  have R0 : Hid (Calls Tryz.prog 35 #[.pointer (some ⟨b, 0, none⟩), .string ⟨#[]⟩] w fun e w' => ∃ a n c, e = .returned (.tuple #[.slice a n c, .int .i64 2]) ∧ Below w.heap.size w w') := by
    have he : Vf.findE σ [] = 2 := by unfold Vf.findE Vf.refuse; rw [hon]; rfl
    refine (read_any w b σ S h RD [] (by simp) 2 he.symm).mono ?_
    rintro e w' ⟨v', rfl, o, b'⟩
    obtain ⟨a, c, rfl⟩ := row_shape5 o
    exact ⟨a, _, c, rfl, b'⟩
  have RF : Hid (∀ wx, Below w.heap.size w wx → Calls Tryz.prog 44 #[.pointer (some ⟨b, 0, none⟩), .int .i64 (first : Int)] wx fun e w' => ∃ a n c, e = .returned (.tuple #[.slice a n c, .int .i64 (next : Int), .int .i64 0]) ∧ Hid (n = all.length) ∧ Hid (∃ vs, Bats w.heap.size w' (.slice a n c) all vs) ∧ Below w.heap.size w w') := fun wx hw => by
    refine (readFrom_any wx b first ns (fun k => Vf.read σ (Wl.seg k)) hns hl (by omega) hD (fun W hW => ?_) (fun k hk W hW => ?_)).mono ?_
    · have := names_any W b σ S ((h.later hw).later (hW.mono (Nat.le_refl _))) (by have h1 := Vf.play_length σ.pending σ.durable; have h2 := hi.count; rw [← hi.replay] at h1; omega) (namesOf σ) rfl
      rw [hnm, List.length_map, List.map_map] at this
      exact this
    · refine (read_any W b σ S ((h.later hw).later hW) RD (Wl.seg k) (by rw [Wl.seg_length]; decide) 0 (hfd k hk).symm).mono ?_
      rintro e w' ⟨v', rfl, o, b'⟩
      exact ⟨v', rfl, o, b'⟩
    · rintro e w' ⟨v, x, E, rfl, ho, hb'⟩
      rcases ho with ⟨l, m, vs, h1, rfl, rfl, h2⟩ | ⟨h1, _⟩
      · rw [hrf] at h1
        cases h1
        obtain ⟨a, c, rfl, _⟩ := h2.shape
        exact ⟨a, _, c, rfl, rfl, ⟨vs, h2.mono hw.size⟩, hw.trans (hb'.mono hw.size)⟩
      · rw [hrf] at h1; cases h1
  have GO : Hid (∀ wx a n c vs, n = all.length → Bats w.heap.size wx (.slice a n c) all vs → Calls Tryz.prog 45 #[.slice a n c, .int .i64 (seq : Int)] wx fun e w' => e = .returned (.bool false) ∧ Below wx.heap.size wx w') := fun wx a n c vs hn hB => goOn_any wx w.heap.size a n c all vs hB hn (by omega) hall seq hq false hgo.symm
  have i1 : ¬ (first : Int) < 1 := by omega
  have i2 : ¬ (first : Int) > 999999 := by omega
  have i3 : ¬ (seq : Int) < 0 := by omega
  have i4 : ¬ (seq : Int) > 1073741824 := by omega
  clear h hi hst hon hns hl hnm hfd hD hrf RD hgo
  go_enter Tryz.func15, Tryz.ntmps15
  go_wp2_with (first
    | (go_at_call 35; refine R0.out.mono ?_; rintro e w1 ⟨a1, n1, c1, rfl, b1⟩; clear R0)
    | (go_at_call 44; refine (RF.out _ b1).mono ?_; rintro e w2 ⟨a2, n2, c2, rfl, HN2, B2, b2⟩; obtain ⟨vs2, B2⟩ := B2.out; clear RF)
    | (go_at_call 45; refine (GO.out _ _ _ _ _ HN2.out B2).mono ?_; rintro e w3 ⟨rfl, b3⟩; have D3 := b2.trans (b3.mono b2.size); clear GO))
  go_ret3
  exact ⟨rfl, D3⟩

set_option maxRecDepth 100000 in
set_option maxHeartbeats 4000000 in
theorem open_torn (w : World) (b : Nat) (σ : Vf.St) (S : Nat → Prop) (h : Rep w b σ S) (hi : Vf.Inv σ) (hst : σ.steps ≤ 80000000) (hon : σ.on = true) (ns : List Nat) (hns : ∀ k ∈ ns, 1 ≤ k ∧ k < 100) (hl : ns.length ≤ 99)
    (hnm : namesOf σ = ns.map Wl.seg) (hfd : ∀ k ∈ ns, Vf.findE σ (Wl.seg k) = 0) (hD : ∀ k ∈ ns, (Vf.read σ (Wl.seg k)).length ≤ 10000000) (first seq : Nat) (f1 : 1 ≤ first) (f2 : first ≤ 99) (hq : seq ≤ 1073741824)
    (hrf : Wl.rf (fun k => Vf.read σ (Wl.seg k)) ns first [] = none) :
    Calls Tryz.prog 15 #[.pointer (some ⟨b, 0, none⟩), .int .i64 (first : Int), .int .i64 (seq : Int)] w fun e w' => e = .returned (.tuple #[.pointer none, .slice none 0 0, .int .i64 6]) ∧ Below w.heap.size w w' := by
  have RD := ready hi (by omega)
  have R0 : Hid (Calls Tryz.prog 35 #[.pointer (some ⟨b, 0, none⟩), .string ⟨#[]⟩] w fun e w' => ∃ a n c, e = .returned (.tuple #[.slice a n c, .int .i64 2]) ∧ Below w.heap.size w w') := by
    have he : Vf.findE σ [] = 2 := by unfold Vf.findE Vf.refuse; rw [hon]; rfl
    refine (read_any w b σ S h RD [] (by simp) 2 he.symm).mono ?_
    rintro e w' ⟨v', rfl, o, b'⟩
    obtain ⟨a, c, rfl⟩ := row_shape5 o
    exact ⟨a, _, c, rfl, b'⟩
  have RF : Hid (∀ wx, Below w.heap.size w wx → Calls Tryz.prog 44 #[.pointer (some ⟨b, 0, none⟩), .int .i64 (first : Int)] wx fun e w' => ∃ v x, e = .returned (.tuple #[v, x, .int .i64 6]) ∧ Below w.heap.size w w') := fun wx hw => by
    refine (readFrom_any wx b first ns (fun k => Vf.read σ (Wl.seg k)) hns hl (by omega) hD (fun W hW => ?_) (fun k hk W hW => ?_)).mono ?_
    · have := names_any W b σ S ((h.later hw).later (hW.mono (Nat.le_refl _))) (by have h1 := Vf.play_length σ.pending σ.durable; have h2 := hi.count; rw [← hi.replay] at h1; omega) (namesOf σ) rfl
      rw [hnm, List.length_map, List.map_map] at this
      exact this
    · refine (read_any W b σ S ((h.later hw).later hW) RD (Wl.seg k) (by rw [Wl.seg_length]; decide) 0 (hfd k hk).symm).mono ?_
      rintro e w' ⟨v', rfl, o, b'⟩
      exact ⟨v', rfl, o, b'⟩
    · rintro e w' ⟨v, x, E, rfl, ho, hb'⟩
      rcases ho with ⟨l, m, vs, h1, rfl, rfl, h2⟩ | ⟨_, h2⟩
      · rw [hrf] at h1; cases h1
      · obtain ⟨rfl, rfl, rfl⟩ := h2
        exact ⟨_, _, rfl, hw.trans (hb'.mono hw.size)⟩
  have i1 : ¬ (first : Int) < 1 := by omega
  have i2 : ¬ (first : Int) > 999999 := by omega
  have i3 : ¬ (seq : Int) < 0 := by omega
  have i4 : ¬ (seq : Int) > 1073741824 := by omega
  clear h hi hst hon hns hl hnm hfd hD hrf RD
  go_enter Tryz.func15, Tryz.ntmps15
  go_wp2_with (first
    | (go_at_call 35; refine R0.out.mono ?_; rintro e w1 ⟨a1, n1, c1, rfl, b1⟩; clear R0)
    | (go_at_call 44; refine (RF.out _ b1).mono ?_; rintro e w2 ⟨v2, x2, rfl, b2⟩; clear RF))
  go_ret3
  exact ⟨rfl, b2⟩
end Go.Proofs.YtppfkhpofbbnbaaGreatDoor
