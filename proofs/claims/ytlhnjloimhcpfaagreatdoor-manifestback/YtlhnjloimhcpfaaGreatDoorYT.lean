/-
  Whether tables are gone through. .. and what follows from it.
-/
import Derived.Test.YtlhnjloimhcpfaaGreatDoorYA
import Derived.Test.YtlhnjloimhcpfaaGreatDoorKWr
import Derived.Test.YtlhnjloimhcpfaaGreatDoorYB
import Derived.Test.YtlhnjloimhcpfaaGreatDoorYJ
import Derived.Test.YtlhnjloimhcpfaaGreatDoorBase
namespace Go.Proofs.YtlhnjloimhcpfaaGreatDoor
open Go.RowKit

def short10M (x : Mf.Mt) : Bool := decide (x.first.length ≤ 600) && decide (x.last.length ≤ 600)
def small10B (l : List Mf.Mt) : Bool := l.all short10M && decide (l.length ≤ 60)

set_option maxRecDepth 100000 in
set_option maxHeartbeats 2000000 in
theorem small10_any (w : World) (a : Option Addr) (c n : Nat) (l : List Mf.Mt) (h : MtsAt w (.slice a n c) l) (hn : n = l.length) (hl : n ≤ maxLen) (hk : ∀ x ∈ l, x.first.length ≤ maxLen ∧ x.last.length ≤ maxLen) (S : Bool) (HS : Hid (S = small10B l)) :
    Calls Tryz.prog 21 #[.slice a n c] w fun e w' => e = .returned (.bool S) ∧ Below w.heap.size w w' := by
  have H := hide h
  have HN : Hid (n = l.length) := hn
  have HK := hide hk
  have hl' : n ≤ 9223372036854775807 := by unfold maxLen at hl; omega
  clear h hn hk hl
  go_enter Tryz.func21, Tryz.ntmps21
  go_wp2_with (fail)
  go_loopw [3] (fun i wr => wr = w ∧ ∃ j : Nat, j ≤ n ∧ i = .int .i64 j ∧ Hid ((l.take j).all short10M = true)) (fun i _ => n - (intOf i).toNat)
  case atStart => exact ⟨rfl, 0, Nat.zero_le _, rfl, by show _ = _; simp⟩
  case round =>
    obtain ⟨rfl, j, hj, rfl, HT⟩ := hrel
    by_cases hlt : j < n
    · have jl : j < l.length := by have := HN.out; omega
      obtain ⟨b, off, rfl⟩ := H.out.some (by omega)
      obtain ⟨c2, c3, c4, c0, c1⟩ := H.out.cells j jl
      clear c2 c3 c4
      have hk := HK.out l[j] (List.getElem_mem jl)
      obtain ⟨x, hx⟩ : ∃ x, x = l[j] := ⟨_, rfl⟩
      rw [← hx] at c0 c1 hk
      have FT : Hid ((l.take (j + 1)).all short10M = short10M x) := by
        show _ = _
        rw [hx, List.take_succ_eq_append_getElem jl, List.all_append, HT.out]
        simp
      have FN : Hid (short10M x = false → S = false) := fun hf => by
        rw [HS.out]
        unfold small10B
        rw [show l.all short10M = false from List.all_eq_false.2 ⟨l[j], List.getElem_mem jl, by rw [← hx, hf]; simp⟩]
        rfl
      clear hx H HS HT HN HK jl
      obtain ⟨n9, v9, c9, K, V⟩ := x
      obtain ⟨hK, hV⟩ := hk
      simp only at c0 c1 hK hV
      have hK' : K.length ≤ 9223372036854775807 := by unfold maxLen at hK; omega
      have hV' : V.length ≤ 9223372036854775807 := by unfold maxLen at hV; omega
      clear hK hV
      by_cases g0 : (K.length : Int) > 600
      · have HF : Hid (S = false) := FN.out (by simp only [short10M]; rw [decide_eq_false (p := K.length ≤ 600) (by omega)]; rfl)
        clear FN FT
        go_wp2_with (fail)
        go_ret
        exact ⟨by rw [HF.out]; rfl, Below.refl _ _⟩
      by_cases g1 : (V.length : Int) > 600
      · have HF : Hid (S = false) := FN.out (by simp only [short10M]; rw [decide_eq_false (p := V.length ≤ 600) (by omega), Bool.and_false])
        clear FN FT
        go_wp2_with (fail)
        go_ret
        exact ⟨by rw [HF.out]; rfl, Below.refl _ _⟩
      have HF : Hid ((l.take (j + 1)).all short10M = true) := by
        show _ = _
        rw [FT.out]
        simp only [short10M]
        rw [decide_eq_true (p := K.length ≤ 600) (by omega), decide_eq_true (p := V.length ≤ 600) (by omega)]
        rfl
      clear FN FT
      go_wp2_with (fail)
      exact ⟨⟨trivial, j + 1, by omega, by go_num, HF⟩, by simp [intOf]; omega⟩
    · have i3 : ¬ (j : Int) < (n : Int) := by omega
      have HF : Hid (S = decide ((n : Int) ≤ 60)) := by
        show _ = _
        have := HT.out
        rw [List.take_of_length_le (by have := HN.out; omega)] at this
        rw [HS.out]
        unfold small10B
        rw [this, ← HN.out, Bool.true_and]
        by_cases h6 : n ≤ 60
        · rw [decide_eq_true h6, decide_eq_true (by omega)]
        · rw [decide_eq_false h6, decide_eq_false (by omega)]
      clear HT H HK HN HS
      by_cases h6 : (n : Int) ≤ 60
      · have HF2 : Hid (S = true) := by show _ = _; rw [HF.out]; exact decide_eq_true h6
        clear HF
        go_wp2_with (fail)
        go_ret
        exact ⟨by rw [HF2.out]; rfl, Below.refl _ _⟩
      · have HF2 : Hid (S = false) := by show _ = _; rw [HF.out]; exact decide_eq_false h6
        clear HF
        go_wp2_with (fail)
        go_ret
        exact ⟨by rw [HF2.out]; rfl, Below.refl _ _⟩
theorem small10_facts {l : List Mf.Mt} (h : small10B l = true) : l.length ≤ 60 ∧ ∀ y ∈ l, y.first.length ≤ 600 ∧ y.last.length ≤ 600 := by
  unfold small10B at h
  simp only [Bool.and_eq_true, decide_eq_true_eq] at h
  refine ⟨h.2, fun y hy => ?_⟩
  have := List.all_eq_true.1 h.1 y hy
  unfold short10M at this
  simpa using this
end Go.Proofs.YtlhnjloimhcpfaaGreatDoor
namespace Go.Proofs.YtlhnjloimhcpfaaGreatDoor
open Go.RowKit

set_option maxHeartbeats 1600000 in
theorem ysamei_some (w : World) (b off cap b2 off2 cap2 : Nat) (l : List Int) (hv : ∀ j (h : j < l.length), w.cell? ⟨b, off + j, none⟩ = some (.int .i64 l[j])) (hv2 : ∀ j (h : j < l.length), w.cell? ⟨b2, off2 + j, none⟩ = some (.int .i64 l[j])) (hlen : l.length ≤ 1000000) :
    Calls Tryz.prog 78 #[.slice (some ⟨b, off, none⟩) l.length cap, .slice (some ⟨b2, off2, none⟩) l.length cap2] w fun e w' => e = .returned (.bool true) ∧ Below w.heap.size w w' := by
  go_enter Tryz.func78, Tryz.ntmps78
  go_wp2
  go_loopw [5] (fun i wr => ∃ j : Nat, j ≤ l.length ∧ i = .int .i64 j ∧ Below w.heap.size w wr) (fun i _ => l.length - (intOf i).toNat)
  case atStart => exact ⟨0, Nat.zero_le _, rfl, Below.refl _ _⟩
  case round =>
    obtain ⟨j, hj, rfl, hbel⟩ := hrel
    by_cases hlt : j < l.length
    · have d0 := keepC (Below.mono hbel (Nat.le_refl _)) (hv j hlt)
      have e0 := keepC (Below.mono hbel (Nat.le_refl _)) (hv2 j hlt)
      generalize l[j] = c at d0 e0
      clear hv hv2
      go_wp2
      go_quiet (fail)
      go_wp2
      go_roundw
      case rel => exact ⟨j + 1, by omega, by go_num, below_drewN hbel _⟩
      case measure => simp [intOf]; omega
    · go_wp2
      go_ret
      exact ⟨rfl, hbel⟩
set_option maxHeartbeats 800000 in
theorem ysamei_none (w : World) (a a2 : Option Addr) (cap cap2 : Nat) :
    Calls Tryz.prog 78 #[.slice a 0 cap, .slice a2 0 cap2] w fun e w' => e = .returned (.bool true) ∧ w' = w := by
  go_enter Tryz.func78, Tryz.ntmps78
  go_wp2
  refine wp_loop_rounds 1 ?_
  rw [rounds_succ]
  go_wp2
  go_ret
  exact ⟨rfl, rfl⟩
theorem ysamei_any (w : World) (v v2 : Value) (l : List Int) (h : IzAt w v l) (h2 : IzAt w v2 l) (hlen : l.length ≤ 1000000) :
    Calls Tryz.prog 78 #[v, v2] w fun e w' => e = .returned (.bool true) ∧ Below w.heap.size w w' := by
  obtain ⟨⟨a, cap, rfl, hf⟩⟩ := h
  obtain ⟨⟨a2, cap2, rfl, hf2⟩⟩ := h2
  by_cases h0 : l = []
  · subst h0
    refine (ysamei_none w a a2 cap cap2).mono ?_
    rintro e w' ⟨rfl, rfl⟩
    exact ⟨rfl, Below.refl _ _⟩
  · obtain ⟨b, off, rfl, hv⟩ := hf h0
    obtain ⟨b2, off2, rfl, hv2⟩ := hf2 h0
    exact ysamei_some w b off cap b2 off2 cap2 l hv hv2 hlen

set_option maxRecDepth 100000 in
set_option maxHeartbeats 1000000 in
theorem samee_any (w : World) (a2 a3 b2 b3 : Option Addr) (c2 c3 d2 d3 : Nat) (e : Mf.Ed) (h1 : IzAt w (.slice a2 e.drops.length c2) e.drops) (h2 : IzAt w (.slice b2 e.drops.length d2) e.drops) (h3 : MtsAt w (.slice a3 e.adds.length c3) e.adds) (h4 : MtsAt w (.slice b3 e.adds.length d3) e.adds) (hd : e.drops.length ≤ 1000000) (ha : e.adds.length ≤ 1000000) :
    Calls Tryz.prog 35 #[ev (.slice a2 e.drops.length c2) (.slice a3 e.adds.length c3) e.log e.seq e.next, ev (.slice b2 e.drops.length d2) (.slice b3 e.adds.length d3) e.log e.seq e.next] w fun r w' => r = .returned (.bool true) ∧ Below w.heap.size w w' := by
  obtain ⟨M, hM⟩ : ∃ M, M = e.drops.length := ⟨_, rfl⟩
  obtain ⟨K, hK⟩ : ∃ K, K = e.adds.length := ⟨_, rfl⟩
  rw [← hM] at h1 h2
  rw [← hK] at h3 h4
  rw [← hM, ← hK]
  obtain ⟨W, hW⟩ : ∃ W, W = (w.alloc (eO (.slice a2 M c2) (.slice a3 K c3) e.log e.seq e.next)).alloc (eO (.slice b2 M d2) (.slice b3 K d3) e.log e.seq e.next) := ⟨_, rfl⟩
  have B0 : Below w.heap.size w W := by rw [hW]; exact ((Below.refl _ _).alloc (Nat.le_refl _) _).alloc (by simp) _
  have p0 : W.heap[w.heap.size]? = some (eO (.slice a2 M c2) (.slice a3 K c3) e.log e.seq e.next) := by rw [hW]; exact (Below.heap_alloc _ _ _ (by simp)).trans (World.alloc_heap_new w _)
  have p1 : W.heap[w.heap.size + 1]? = some (eO (.slice b2 M d2) (.slice b3 K d3) e.log e.seq e.next) := by
    rw [hW]
    have := World.alloc_heap_new (w.alloc (eO (.slice a2 M c2) (.slice a3 K c3) e.log e.seq e.next)) (eO (.slice b2 M d2) (.slice b3 K d3) e.log e.seq e.next)
    rw [World.size_alloc] at this
    exact this
  have SI : Hid (∀ wx, Below W.heap.size W wx → Calls Tryz.prog 78 #[.slice a2 M c2, .slice b2 M d2] wx fun r w' => r = .returned (.bool true) ∧ Below wx.heap.size wx w') := fun wx hx => ysamei_any wx _ _ e.drops (h1.later (B0.trans (hx.mono B0.size))) (h2.later (B0.trans (hx.mono B0.size))) hd
  have SM : Hid (∀ wx, Below W.heap.size W wx → Calls Tryz.prog 15 #[.slice a3 K c3, .slice b3 K d3] wx fun r w' => r = .returned (.bool true) ∧ Below wx.heap.size wx w') := fun wx hx => samem_any wx _ _ e.adds (h3.later (B0.trans (hx.mono B0.size))) (h4.later (B0.trans (hx.mono B0.size))) (by omega)
  have HP0 := hide p0
  have HP1 := hide p1
  have HW := hide hW
  have HB0 := hide B0
  clear h1 h2 h3 h4 hd ha hM hK p0 p1 hW B0
  go_enter Tryz.func35, Tryz.ntmps35
  go_wp2_with (first
    | (go_at_call 78; refine (SI.out _ (by rw [← HW.out]; exact Below.refl _ _)).mono ?_; rintro r w2 ⟨rfl, b2'⟩; rw [← HW.out] at b2'; have D2 := hide b2'; obtain ⟨_, x1, x2, x3, x4, _⟩ := slot5 ((b2'.block _ (Array.getElem?_eq_some_iff.1 HP0.out).1).trans HP0.out); obtain ⟨_, y1, y2, y3, y4, _⟩ := slot5 ((b2'.block _ (Array.getElem?_eq_some_iff.1 HP1.out).1).trans HP1.out); clear SI b2')
    | (go_at_call 15; refine (SM.out _ D2.out).mono ?_; rintro r w3 ⟨rfl, b3'⟩; have D3 := hide (D2.out.trans (b3'.mono D2.out.size)); clear SM b3' D2 x1 x2 x3 x4 y1 y2 y3 y4; obtain ⟨_, x1, x2, x3, x4, _⟩ := slot5 ((D3.out.block _ (Array.getElem?_eq_some_iff.1 HP0.out).1).trans HP0.out); obtain ⟨_, y1, y2, y3, y4, _⟩ := slot5 ((D3.out.block _ (Array.getElem?_eq_some_iff.1 HP1.out).1).trans HP1.out)))
  go_ret
  exact ⟨rfl, HB0.out.trans (D3.out.mono HB0.out.size)⟩
end Go.Proofs.YtlhnjloimhcpfaaGreatDoor
