/-
  stagepostref09: eight, and Build's refusals.
-/
import Derived.Test.YtolalicliojkfaaGreatSN
import Derived.Test.YtolalicliojkfaaGreatSChk
import Derived.Test.YtolalicliojkfaaGreatBRefC
namespace Go.Proofs.YtolalicliojkfaaGreat
open Go.RowKit

set_option maxRecDepth 100000 in
set_option maxHeartbeats 4000000 in
theorem reight_any (w : World) (y : Nat) :
    Calls Tryz.prog 36 #[.int .i64 (y : Int)] w fun e w' => ∃ g cap, e = .returned (.slice (some ⟨g, 0, none⟩) 8 cap) ∧ Hid (w'.ownsRow w.heap.size 5 1 (.slice (some ⟨g, 0, none⟩) 8 cap) 8 (bc (Ss.le8 y))) ∧ Below w.heap.size w w' := by
  obtain ⟨i0, hi, hz0, hz1, hz2⟩ := info_parts Tryz.info5
  go_enter Tryz.func36, Tryz.ntmps36
  go_wp2_with (fail)
  go_loopw [3, 4] (fun v k wi => ∃ j : Nat, j ≤ 8 ∧ k = .int .i64 j ∧ wi.ownsRow w.heap.size 5 1 v ((Ss.le8 y).take j).length (bc ((Ss.le8 y).take j)) ∧ Below w.heap.size w wi) (fun _ k _ => 8 - (intOf k).toNat)
  case atStart => exact ⟨0, Nat.zero_le _, rfl, World.ownsRow_nil _ _ _ _, Below.refl _ _⟩
  case round =>
    obtain ⟨j, hj, rfl, o1, b1⟩ := hrel
    by_cases hj8 : j < 8
    · have TK : Hid ((Ss.le8 y).take (j + 1) = (Ss.le8 y).take j ++ [UInt8.ofNat (y / 2 ^ (8 * j))]) := le8_take y j hj8
      have BA := byte_at y j
      obtain ⟨c, hc⟩ : ∃ c, c = UInt8.ofNat (y / 2 ^ (8 * j)) := ⟨_, rfl⟩
      rw [← hc] at TK BA
      have LE : ((Ss.le8 y).take j).length ≤ 100 := by rw [List.length_take, Ss.le8_length]; omega
      generalize (Ss.le8 y).take j = o at *
      have w8 : IntKind.i64.wrap (8 * (j : Int)) = 8 * (j : Int) := by rw [IntKind.wrap_i64]; omega
      have k0 : ¬ (8 * (j : Int)) < 0 := by omega
      have O1 := hide o1
      have zb := b1.size
      clear o1 hc
      have Z1 : Hid (o.length + 1 ≤ maxLen) := by show _ ≤ _; unfold maxLen; omega
      have Z2 : Hid ((o.length + 1) * 1 ≤ 140737488355328) := by show _ ≤ _; omega
      go_wp2_with (at_builtin; refine wpList_append_lies _ rfl (.tmp 9) (.tmp 15) 26 rfl w.heap.size 5 i0 (.int .u8 0) 1 1 Tryz.underlying26 hi hz0 hz1 hz2 rfl (by decide) _ o.length _ rfl (O1.out.alloc _) ⟨wr.heap.size, 0, none⟩ 1 1 (bc [c]) rfl rfl (cell_one_new _ _ _) (bc_one _) (by decide) Z1.out Z2.out (by simp; omega) _ rfl ?_; intro g8 cap8 w8' o8 h8 l8 lt8)
      refine ⟨⟨j + 1, hj8, by go_num, ?_, (b1.alloc (Nat.le_trans (Nat.le_refl _) zb) _).grown h8 (by simp; omega) (fun k hk => (O1.out.lt k hk).1)⟩, by simp [intOf]; omega⟩
      rw [TK.out, bc_append, List.length_append]
      exact o8
    · have e : j = 8 := by omega
      subst e
      have tk : (Ss.le8 y).take 8 = Ss.le8 y := List.take_of_length_le (by rw [Ss.le8_length]; exact Nat.le_refl _)
      rw [tk, Ss.le8_length] at o1
      have O1 := hide o1
      clear o1 tk
      go_wp2_with (fail)
      go_ret
      obtain ⟨g, cap, rfl⟩ := own_someE O1.out (by decide)
      exact ⟨g, cap, rfl, O1, b1⟩

set_option maxRecDepth 100000 in
set_option maxHeartbeats 4000000 in
theorem rsbuild_shape (w : World) (a : Option Addr) (c n : Nat) (l : List Mm.Ent) (hn : n = l.length) (per bits : Int) (h : Ss.shapeOk l per bits = false) :
    Calls Tryz.prog 8 #[.slice a n c, .int .i64 per, .int .i64 bits] w fun e w' => e = .returned (.tuple #[.slice none 0 0, .int .i64 2]) ∧ w' = w := by
  unfold Ss.shapeOk at h
  rw [← hn] at h
  simp only [Bool.and_eq_false_iff, decide_eq_false_iff_not] at h
  by_cases h1 : per < 1
  · go_enter Tryz.func8, Tryz.ntmps8
    go_wp2_with (fail)
    go_ret2
    exact ⟨rfl, rfl⟩
  by_cases h2 : per > 64
  · go_enter Tryz.func8, Tryz.ntmps8
    go_wp2_with (fail)
    go_ret2
    exact ⟨rfl, rfl⟩
  by_cases h3 : bits < 1
  · go_enter Tryz.func8, Tryz.ntmps8
    go_wp2_with (fail)
    go_ret2
    exact ⟨rfl, rfl⟩
  by_cases h4 : bits > 16
  · go_enter Tryz.func8, Tryz.ntmps8
    go_wp2_with (fail)
    go_ret2
    exact ⟨rfl, rfl⟩
  have h5 : n = 0 := by
    rcases h with h | h | h | h | h
    · omega
    · omega
    · omega
    · omega
    · exact Classical.not_not.1 h
  subst h5
  clear h
  go_enter Tryz.func8, Tryz.ntmps8
  go_wp2_with (fail)
  go_ret2
  exact ⟨rfl, rfl⟩

set_option maxRecDepth 100000 in
set_option maxHeartbeats 4000000 in
theorem rsbuild_bad (w : World) (a : Option Addr) (c n : Nat) (l : List Mm.Ent) (h : EntsAt w (.slice a n c) l) (hn : n = l.length) (hl : n ≤ 65536) (per bits : Int) (hs : Ss.shapeOk l per bits = true) (hc : Ss.checkE l per bits ≠ 0) :
    Calls Tryz.prog 8 #[.slice a n c, .int .i64 per, .int .i64 bits] w fun e w' => e = .returned (.tuple #[.slice none 0 0, .int .i64 (Ss.checkE l per bits)]) ∧ Below w.heap.size w w' := by
  obtain ⟨S, hS⟩ : ∃ S, S = Ss.checkE l per bits := ⟨_, rfl⟩
  have hS2 : Hid (S = if l.all Bk.may then if Bk.inOrd l then 0 else 10 else 2) := by
    show _ = _
    rw [hS, Ss.checkE, if_neg (by rw [hs]; simp), if_neg (by omega)]
  rw [← hS] at hc ⊢
  unfold Ss.shapeOk at hs
  rw [← hn] at hs
  simp only [Bool.and_eq_true, decide_eq_true_eq] at hs
  obtain ⟨h1, h2, h3, h4, h5⟩ := hs
  have g1 : ¬ per < 1 := by omega
  have g2 : ¬ per > 64 := by omega
  have g3 : ¬ bits < 1 := by omega
  have g4 : ¬ bits > 16 := by omega
  have g5 : ((n : Int) == 0) = false := by simp; omega
  have g6 : ¬ (n : Int) > 65536 := by omega
  have H := hide h
  have HN : Hid (n = l.length) := hn
  have HC := hide hc
  have CK : Hid (∀ wx e, Calls Tryz.prog 29 #[entV e] wx fun r w' => r = .returned (.int .i64 (Mm.checkE e)) ∧ Below wx.heap.size wx w') := fun wx e => rmcheck_any wx e
  have IO : Hid (∀ wx, Below w.heap.size w wx → Calls Tryz.prog 30 #[.slice a n c] wx fun e w' => e = .returned (.bool (Bk.inOrd l)) ∧ Below wx.heap.size wx w') := fun wx hw => rinOrder_any wx a c n l (h.later hw) hn (by omega) _ rfl
  clear h hn hS hc h1 h2 h3 h4 h5
  go_enter Tryz.func8, Tryz.ntmps8
  go_wp2_with (fail)
  go_loopw [8] (fun i wr => ∃ j : Nat, j ≤ n ∧ i = .int .i64 j ∧ Below w.heap.size w wr ∧ Hid ((l.take j).all Bk.may = true)) (fun i _ => n - (intOf i).toNat)
  case atStart => exact ⟨0, Nat.zero_le _, rfl, Below.refl _ _, rfl⟩
  case round =>
    obtain ⟨j, hj, rfl, bx, HA⟩ := hrel
    by_cases hlt : j < n
    · have jl : j < l.length := by have := HN.out; omega
      obtain ⟨b, off, rfl⟩ := H.out.some (by omega)
      obtain ⟨c0, c1, c2, c3⟩ := (H.out.later bx).cells j jl
      have CJ := hide (CK.out wr l[j])
      have jn : (j : Int) < (n : Int) := by omega
      cases hm : Bk.may l[j]
      · have hF : Hid (S = 2) := by show _ = _; rw [hS2.out, all_no_e jl hm]; rfl
        rw [checkE_may, hm] at CJ
        have CJ' : Hid (Calls Tryz.prog 29 #[entV l[j]] wr fun r w' => r = .returned (.int .i64 2) ∧ Below wr.heap.size wr w') := CJ.out
        generalize l[j] = x at *
        clear HA hm CK IO CJ jl hS2
        go_wp2_with (go_at_call 29; refine CJ'.out.mono ?_; rintro r w1 ⟨rfl, b1⟩)
        go_ret2
        rw [hF.out]
        exact ⟨rfl, bx.trans (b1.mono bx.size)⟩
      · have HA' : Hid ((l.take (j + 1)).all Bk.may = true) := by show _ = _; rw [all_take_e jl HA.out]; exact hm
        rw [checkE_may, hm] at CJ
        have CJ' : Hid (Calls Tryz.prog 29 #[entV l[j]] wr fun r w' => r = .returned (.int .i64 0) ∧ Below wr.heap.size wr w') := CJ.out
        generalize l[j] = x at *
        clear HA hm CK CJ jl
        go_wp2_with (go_at_call 29; refine CJ'.out.mono ?_; rintro r w1 ⟨rfl, b1⟩)
        exact ⟨⟨j + 1, by omega, by go_num, bx.trans (b1.mono bx.size), HA'⟩, by simp [intOf]; omega⟩
    · have jn : ¬ (j : Int) < (n : Int) := by omega
      have hall : l.all Bk.may = true := by
        have := HA.out
        rwa [List.take_of_length_le (by have := HN.out; omega)] at this
      have IJ := hide (IO.out wr bx)
      cases hi : Bk.inOrd l
      · have hF : Hid (S = 10) := by show _ = _; rw [hS2.out, hall, hi]; rfl
        rw [hi] at IJ
        clear HA hall hi CK IO H hS2
        go_wp2_with (go_at_call 30; refine IJ.out.mono ?_; rintro r w1 ⟨rfl, b1⟩)
        go_ret2
        rw [hF.out]
        exact ⟨rfl, bx.trans (b1.mono bx.size)⟩
      · exact absurd (by rw [hS2.out, hall, hi]; rfl) HC.out
end Go.Proofs.YtolalicliojkfaaGreat
