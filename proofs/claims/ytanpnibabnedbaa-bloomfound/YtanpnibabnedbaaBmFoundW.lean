/-
  A filter never says no to a key that it has: the walk.
-/
import Derived.Test.YtanpnibabnedbaaBmLives
namespace Go.Proofs.Ytanpnibabnedbaa.bloomFound
open Go.RowKit
open Go.Proofs.Ytanpnibabnedbaa

set_option maxHeartbeats 1600000 in
theorem walk (w : World) (v : Value) (l : List ByteArray) (d : Int) (h : TextsIn w v l) :
    Calls Try.prog 5 #[v, .int .i64 d] w fun e w' => e = .returned (.bool true) ∧ Below w.heap.size w w' := by
  have LV : Hid (Calls Try.prog 9 #[] w fun e w' => e = .returned (.bool true) ∧ Below w.heap.size w w') := lives_any w
  have SM : Hid (∀ wx, Below w.heap.size w wx → Calls Try.prog 12 #[v] wx fun e w' => e = .returned (.bool (smallB l)) ∧ w' = wx) := fun wx hw => small_any wx v l (h.later hw)
  cases hsm : smallB l
  · rw [hsm] at SM
    clear hsm h
    go_enter Try.func5, Try.ntmps5
    go_wp2_with (first
      | (go_at_call 9; refine LV.out.mono ?_; rintro e w1 ⟨rfl, b1⟩; clear LV)
      | (go_at_call 12; refine (SM.out _ b1).mono ?_; rintro e w2 ⟨rfl, rfl⟩; clear SM))
    go_ret
    exact ⟨rfl, b1⟩
  · have hb := (smallB_iff l).mp hsm
    rw [hsm] at SM
    clear hsm
    by_cases hd : d < 1 ∨ 16 < d
    · have OF : Hid (∀ wx, Calls Try.prog 7 #[v, .int .i64 d] wx fun e w' => e = .returned (.tuple #[.slice none 0 0, .int .i64 2]) ∧ w' = wx) := fun wx => by
        obtain ⟨a, cap, rfl, _⟩ := h
        exact of_bad wx a _ cap d (by omega) hd
      clear h hb
      by_cases h1 : d < 1
      all_goals
        have h2 : d < 1 ∨ d > 16 := by omega
        first | clear h2 | skip
        go_enter Try.func5, Try.ntmps5
        go_wp2_with (first
          | (go_at_call 9; refine LV.out.mono ?_; rintro e w1 ⟨rfl, b1⟩; clear LV)
          | (go_at_call 12; refine (SM.out _ b1).mono ?_; rintro e w2 ⟨rfl, rfl⟩; clear SM)
          | (go_at_call 7; refine (OF.out _).mono ?_; rintro e w3 ⟨rfl, rfl⟩; clear OF))
        go_ret
        exact ⟨by first | rfl | (simp; omega), b1⟩
    · obtain ⟨k, rfl⟩ : ∃ k : Nat, d = k := ⟨d.toNat, by omega⟩
      have k1 : 1 ≤ k := by omega
      have k2 : k ≤ 16 := by omega
      obtain ⟨F, hF⟩ : ∃ F, F = Bm.filt (keysOf l) k := ⟨_, rfl⟩
      obtain ⟨n, hn⟩ : ∃ n, n = F.length := ⟨_, rfl⟩
      have hok : Bm.ok F = true := by rw [hF]; exact Bm.filt_ok _ _ k1 k2
      have hFl : n ≤ 140737488355328 := by
        have : l.length * k ≤ 200 * 16 := Nat.mul_le_mul hb.1 k2
        rw [hn, hF, Bm.filt_length]; unfold Bm.bytes; simp [keysOf]; omega
      have OF : Hid (∀ wx, Below w.heap.size w wx → Calls Try.prog 7 #[v, .int .i64 (k : Int)] wx fun e w' => e = .returned (.tuple #[.slice (some ⟨wx.heap.size, 0, none⟩) n n, .int .i64 0]) ∧ Below wx.heap.size wx w' ∧ BytesIn w' (.slice (some ⟨wx.heap.size, 0, none⟩) n n) F) := fun wx hw => by
        refine (of_ok wx v l k (h.later hw) (by omega) (fun s hs => by have := hb.2 s hs; omega) k1 k2).mono ?_
        rintro e w' ⟨n', rfl, hn', x⟩
        rw [← hF] at hn' x
        rw [← hn] at hn'
        subst hn'
        exact ⟨rfl, x.below (Nat.le_refl _) (by simp [Value.ownBlock]), bytes_of_own x.own (by omega)⟩
      have CH : Hid (∀ wx g, BytesIn wx (.slice (some ⟨g, 0, none⟩) n n) F → Calls Try.prog 11 #[.slice (some ⟨g, 0, none⟩) n n] wx fun e w' => e = .returned (.int .i64 0) ∧ w' = wx) := fun wx g hx => by
        have := check_any wx (some ⟨g, 0, none⟩) n F (by rw [← hn]; exact hx)
        rwa [okE_ok hok, ← hn] at this
      have HS : Hid (∀ wx g (s : ByteArray), s ∈ l → BytesIn wx (.slice (some ⟨g, 0, none⟩) n n) F → Calls Try.prog 8 #[.slice (some ⟨g, 0, none⟩) n n, .string s] wx fun e w' => e = .returned (.tuple #[.bool true, .int .i64 0]) ∧ Below wx.heap.size wx w') := fun wx g s hs hx => by
        have := has_any wx (some ⟨g, 0, none⟩) n F s (by rw [← hn]; exact hx) (by omega) (by have := hb.2 s hs; omega)
        have hh : Bm.has F s.data.toList = true := by rw [hF]; exact Bm.filt_has _ _ k1 k2 _ (List.mem_map_of_mem (f := fun s : ByteArray => s.data.toList) hs)
        rwa [okE_ok hok, hok, hh, ← hn] at this
      obtain ⟨a, cap, rfl, hc1, hc2, hc3, hf⟩ := h
      obtain ⟨L, hL⟩ : ∃ L, L = l.length := ⟨_, rfl⟩
      have HF : Hid (l ≠ [] → ∃ b off, a = some ⟨b, off, none⟩ ∧ ∀ j (h : j < l.length), w.cell? ⟨b, off + j, none⟩ = some (.string l[j])) := hf
      have HL : Hid (L = l.length) := hL
      rw [← hL] at SM OF ⊢
      have L2 : L ≤ 200 := by omega
      clear hF hn hok hFl hf hL hb hd hc1 hc2 hc3
      go_enter Try.func5, Try.ntmps5
      go_wp2_with (first
        | (go_at_call 9; refine LV.out.mono ?_; rintro e w1 ⟨rfl, b1⟩; clear LV)
        | (go_at_call 12; refine (SM.out _ b1).mono ?_; rintro e w2 ⟨rfl, rfl⟩; clear SM)
        | (go_at_call 7; refine (OF.out _ b1).mono ?_; rintro e w3 ⟨rfl, b3, x3⟩; have B3 := b1.trans (b3.mono b1.size); clear OF b3)
        | (go_at_call 11; refine (CH.out _ _ x3).mono ?_; rintro e w4 ⟨rfl, rfl⟩; clear CH))
      go_loopw [7] (fun i wr => ∃ j : Nat, j ≤ L ∧ i = .int .i64 j ∧ Below w.heap.size w wr ∧ BytesIn wr (.slice (some ⟨_, 0, none⟩) n n) F) (fun i _ => L - (intOf i).toNat)
      case atStart => exact ⟨0, Nat.zero_le _, rfl, B3, x3⟩
      case round =>
        clear B3 x3
        obtain ⟨j, hj, rfl, bx, xx⟩ := hrel
        by_cases hlt : j < L
        · have hjl : j < l.length := by rw [← HL.out]; exact hlt
          obtain ⟨b, off, rfl, hat⟩ := HF.out (fun h0 => by rw [h0] at hjl; cases hjl)
          have d1 := keepC bx (hat j hjl)
          obtain ⟨s, hs'⟩ : ∃ s, s = l[j] := ⟨_, rfl⟩
          rw [← hs'] at d1
          have HJ : Hid (s ∈ l) := by show _ ∈ _; rw [hs']; exact List.getElem_mem hjl
          clear hat hs'
          go_wp2_with (go_at_call 8; refine (HS.out _ _ _ HJ.out xx).mono ?_; rintro e w5 ⟨rfl, b5⟩; have x5 := xx.later b5; have B5 := bx.trans (b5.mono bx.size); clear xx bx b5)
          exact ⟨⟨j + 1, by omega, by go_num, B5, x5⟩, by simp [intOf]; omega⟩
        · have hlt' : ¬ (j : Int) < (L : Int) := by omega
          go_wp2_with (fail)
          go_ret
          exact ⟨rfl, bx⟩
end Go.Proofs.Ytanpnibabnedbaa.bloomFound
