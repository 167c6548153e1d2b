/-
  What was told is read as the same tokens: the law's walk, where the text is no list of tokens.
-/
import Derived.Test.YtfkfljpajeeclaaDoorLxPB
namespace Go.Proofs.YtfkfljpajeeclaaDoor
open Go.RowKit
attribute [local go_sem ↓] Go.wp_at_zero Go.wp_at_succ

set_option maxRecDepth 100000 in
set_option maxHeartbeats 16000000 in
theorem back_11 (w : World) (s : ByteArray) (al : Option Addr) (cap : Nat) (l : List Lx.Tk) (hin : TksIn w (.slice al l.length cap) l) (hT : Tabs w) (hs : s.size ≤ 4000) (hl : l.length ≤ 200) (X : Int) (P : Nat) (hX : ¬ X = 0) (h1 : Lx.lexA s.data.toList 0 = .error (X, P)) (I : Nat) (hI : Lx.badAt l = some I) : Calls Tryd.prog 5 #[.string s, .slice al l.length cap] w fun e w' => e = .returned (.bool true) ∧ Below w.heap.size w w' := by
  have LV : Hid (∀ wx, Below w.heap.size w wx → Calls Tryd.prog 12 #[] wx fun e w' => e = .returned (.bool true) ∧ Below wx.heap.size wx w') := fun wx hb => lives_any wx (hT.later hb).two
  have L1 := hide (fun wx (hb : Below w.heap.size w wx) => lex_bad wx s X P (by omega) (hT.later hb).two h1)
  have T3 := hide (fun wx (hb : Below w.heap.size w wx) => text_bad wx _ l (hin.later hb) (by omega) (hT.later hb) I hI)
  have hIl : (I : Int) < l.length := by have := Lx.bad_lt l I hI; omega
  have hsi : ¬ (s.size : Int) > 4000 := by omega
  have hli2 : ¬ (l.length : Int) > 200 := by omega
  clear hin hT hs hl h1 hI
  have K0 : Hid True := trivial
  go_enter Tryd.func5, Tryd.ntmps5
  go_wp2_with (first
    | (go_at_call 12; have tk := K0; refine (LV.out _ (Below.refl _ _)).mono ?_; rintro e w0 ⟨rfl, hz⟩; have B0 := hide hz; clear hz; clear tk K0; have K1 : Hid True := trivial)
    | (go_at_call 8; have tk := K1; refine (L1.out _ B0.out).mono ?_; rintro e w1 ⟨rfl, hz⟩; have STF := hide (St.first (X := (.int .i64 X, .int .i64 P)) (t := 25) B0.out hz); clear hz; clear tk K1; have K2 : Hid True := trivial)
    | (go_at_call 11; have tk := K2; refine (T3.out _ (STF.out.belTo (by first | exact Below.refl _ _ | exact (Below.refl _ _).alloc (Nat.le_refl _) _ | exact ((Below.refl _ _).alloc (Nat.le_refl _) _).alloc (by simp) _ | exact (((Below.refl _ _).alloc (Nat.le_refl _) _).alloc (by simp) _).alloc (by simp; omega) _))).mono ?_; rintro e w2 ⟨rfl, hz⟩; replace STF := hide (STF.out.step hz (by first | exact Below.refl _ _ | exact (Below.refl _ _).alloc (Nat.le_refl _) _ | exact ((Below.refl _ _).alloc (Nat.le_refl _) _).alloc (by simp) _ | exact (((Below.refl _ _).alloc (Nat.le_refl _) _).alloc (by simp) _).alloc (by simp; omega) _)); obtain ⟨z0, z1, f0, f1, hl8⟩ := slot2 STF.out.fb; have BF := hide (STF.out.store (.int .i64 2) (.int .i64 I)).bel; clear hz; clear tk K2; have K3 : Hid True := trivial))
  go_ret
  exact ⟨rfl, by first | exact BF.out | exact BF.out.alloc BF.out.size _⟩

set_option maxRecDepth 100000 in
set_option maxHeartbeats 16000000 in
theorem back_12 (w : World) (s : ByteArray) (al : Option Addr) (cap : Nat) (l : List Lx.Tk) (hin : TksIn w (.slice al l.length cap) l) (hT : Tabs w) (hs : s.size ≤ 4000) (hl : l.length ≤ 200) (X : Int) (P : Nat) (hX : ¬ X = 0) (h1 : Lx.lexA s.data.toList 0 = .error (X, P)) (hm : ∀ x ∈ l, Lx.mayT x = true) (t3 : ByteArray) (ht3 : t3 = ⟨(Lx.textL l).toArray⟩) (hl3 : t3.size ≤ 65536) (q3 : List Lx.Tk) (h3 : Lx.lexA t3.data.toList 0 = .ok q3) (hq3 : q3.map Lx.unp = l) : Calls Tryd.prog 5 #[.string s, .slice al l.length cap] w fun e w' => e = .returned (.bool true) ∧ Below w.heap.size w w' := by
  have LV : Hid (∀ wx, Below w.heap.size w wx → Calls Tryd.prog 12 #[] wx fun e w' => e = .returned (.bool true) ∧ Below wx.heap.size wx w') := fun wx hb => lives_any wx (hT.later hb).two
  have L1 := hide (fun wx (hb : Below w.heap.size w wx) => lex_bad wx s X P (by omega) (hT.later hb).two h1)
  have T3 := hide (fun wx (hb : Below w.heap.size w wx) => text_may wx _ l (hin.later hb) (by omega) (hT.later hb) hm t3 ht3)
  have L3 := hide (fun wx (hb : Below w.heap.size w wx) => lex_ok wx t3 q3 hl3 (hT.later hb).two h3)
  have hql3 : q3.length = l.length := by rw [← hq3, List.length_map]
  have P3 := hide (fun wx v (h : TksIn wx v q3) => placed_in wx v q3 l h (by omega) hq3 hin.wf)
  have SB := hide (fun wx a (h : TksIn wx a l) (hb : Below w.heap.size w wx) => sameT_any wx a _ l h (hin.later hb) (by omega))
  have hl3i : ¬ (t3.size : Int) > 65536 := by omega
  have hsi : ¬ (s.size : Int) > 4000 := by omega
  have hli2 : ¬ (l.length : Int) > 200 := by omega
  clear hin hT hs hl h1 hm ht3 hl3 h3 hq3 hql3
  have K0 : Hid True := trivial
  go_enter Tryd.func5, Tryd.ntmps5
  go_wp2_with (first
    | (go_at_call 12; have tk := K0; refine (LV.out _ (Below.refl _ _)).mono ?_; rintro e w0 ⟨rfl, hz⟩; have B0 := hide hz; clear hz; clear tk K0; have K1 : Hid True := trivial)
    | (go_at_call 8; have tk := K1; refine (L1.out _ B0.out).mono ?_; rintro e w1 ⟨rfl, hz⟩; have STF := hide (St.first (X := (.int .i64 X, .int .i64 P)) (t := 25) B0.out hz); clear hz; clear tk K1; have K2 : Hid True := trivial)
    | (go_at_call 11; have tk := K2; refine (T3.out _ (STF.out.belTo (by first | exact Below.refl _ _ | exact (Below.refl _ _).alloc (Nat.le_refl _) _ | exact ((Below.refl _ _).alloc (Nat.le_refl _) _).alloc (by simp) _ | exact (((Below.refl _ _).alloc (Nat.le_refl _) _).alloc (by simp) _).alloc (by simp; omega) _))).mono ?_; rintro e w2 ⟨rfl, hz⟩; replace STF := hide (STF.out.step hz (by first | exact Below.refl _ _ | exact (Below.refl _ _).alloc (Nat.le_refl _) _ | exact ((Below.refl _ _).alloc (Nat.le_refl _) _).alloc (by simp) _ | exact (((Below.refl _ _).alloc (Nat.le_refl _) _).alloc (by simp) _).alloc (by simp; omega) _)); obtain ⟨z0, z1, f0, f1, hl8⟩ := slot2 STF.out.fb; replace STF := hide (STF.out.store (.int .i64 0) (.int .i64 0)); clear hz; clear tk K2; have K3 : Hid True := trivial)
    | (go_at_call 8; have tk := K3; refine (L3.out _ (STF.out.belTo (by first | exact Below.refl _ _ | exact (Below.refl _ _).alloc (Nat.le_refl _) _ | exact ((Below.refl _ _).alloc (Nat.le_refl _) _).alloc (by simp) _ | exact (((Below.refl _ _).alloc (Nat.le_refl _) _).alloc (by simp) _).alloc (by simp; omega) _))).mono ?_; rintro e w3 ⟨v9, rfl, hv, hz⟩; replace STF := hide (STF.out.step hz (by first | exact Below.refl _ _ | exact (Below.refl _ _).alloc (Nat.le_refl _) _ | exact ((Below.refl _ _).alloc (Nat.le_refl _) _).alloc (by simp) _ | exact (((Below.refl _ _).alloc (Nat.le_refl _) _).alloc (by simp) _).alloc (by simp; omega) _)); have V9 := hide hv; clear hv; clear hz; clear tk K3; have K4 : Hid True := trivial)
    | (go_at_call 17; have tk := K4; refine (P3.out _ _ (V9.out.later (by first | exact Below.refl _ _ | exact (Below.refl _ _).alloc (Nat.le_refl _) _ | exact ((Below.refl _ _).alloc (Nat.le_refl _) _).alloc (by simp) _ | exact (((Below.refl _ _).alloc (Nat.le_refl _) _).alloc (by simp) _).alloc (by simp; omega) _))).mono ?_; rintro e w4 ⟨v10, rfl, hv, hz⟩; replace STF := hide (STF.out.step hz (by first | exact Below.refl _ _ | exact (Below.refl _ _).alloc (Nat.le_refl _) _ | exact ((Below.refl _ _).alloc (Nat.le_refl _) _).alloc (by simp) _ | exact (((Below.refl _ _).alloc (Nat.le_refl _) _).alloc (by simp) _).alloc (by simp; omega) _)); replace V9 := hide (V9.out.step hz (by first | exact Below.refl _ _ | exact (Below.refl _ _).alloc (Nat.le_refl _) _ | exact ((Below.refl _ _).alloc (Nat.le_refl _) _).alloc (by simp) _ | exact (((Below.refl _ _).alloc (Nat.le_refl _) _).alloc (by simp) _).alloc (by simp; omega) _)); have V10 := hide hv; clear hv V9; clear hz; clear tk K4; have K5 : Hid True := trivial)
    | (go_at_call 9; have tk := K5; refine (SB.out _ _ (V10.out.later (by first | exact Below.refl _ _ | exact (Below.refl _ _).alloc (Nat.le_refl _) _ | exact ((Below.refl _ _).alloc (Nat.le_refl _) _).alloc (by simp) _ | exact (((Below.refl _ _).alloc (Nat.le_refl _) _).alloc (by simp) _).alloc (by simp; omega) _)) (STF.out.belTo (by first | exact Below.refl _ _ | exact (Below.refl _ _).alloc (Nat.le_refl _) _ | exact ((Below.refl _ _).alloc (Nat.le_refl _) _).alloc (by simp) _ | exact (((Below.refl _ _).alloc (Nat.le_refl _) _).alloc (by simp) _).alloc (by simp; omega) _))).mono ?_; rintro e w5 ⟨rfl, hz⟩; replace STF := hide (STF.out.step hz (by first | exact Below.refl _ _ | exact (Below.refl _ _).alloc (Nat.le_refl _) _ | exact ((Below.refl _ _).alloc (Nat.le_refl _) _).alloc (by simp) _ | exact (((Below.refl _ _).alloc (Nat.le_refl _) _).alloc (by simp) _).alloc (by simp; omega) _)); replace V10 := hide (V10.out.step hz (by first | exact Below.refl _ _ | exact (Below.refl _ _).alloc (Nat.le_refl _) _ | exact ((Below.refl _ _).alloc (Nat.le_refl _) _).alloc (by simp) _ | exact (((Below.refl _ _).alloc (Nat.le_refl _) _).alloc (by simp) _).alloc (by simp; omega) _)); have BF := hide STF.out.bel; clear V10; clear hz; clear tk K5; have K6 : Hid True := trivial))
  go_ret
  exact ⟨rfl, by first | exact BF.out | exact BF.out.alloc BF.out.size _⟩

set_option maxRecDepth 100000 in
set_option maxHeartbeats 16000000 in
theorem back_13 (w : World) (s : ByteArray) (al : Option Addr) (cap : Nat) (l : List Lx.Tk) (hin : TksIn w (.slice al l.length cap) l) (hT : Tabs w) (hs : s.size ≤ 4000) (hl : l.length ≤ 200) (X : Int) (P : Nat) (hX : ¬ X = 0) (h1 : Lx.lexA s.data.toList 0 = .error (X, P)) (hm : ∀ x ∈ l, Lx.mayT x = true) (t3 : ByteArray) (ht3 : t3 = ⟨(Lx.textL l).toArray⟩) (hl3 : 65536 < t3.size) : Calls Tryd.prog 5 #[.string s, .slice al l.length cap] w fun e w' => e = .returned (.bool true) ∧ Below w.heap.size w w' := by
  have LV : Hid (∀ wx, Below w.heap.size w wx → Calls Tryd.prog 12 #[] wx fun e w' => e = .returned (.bool true) ∧ Below wx.heap.size wx w') := fun wx hb => lives_any wx (hT.later hb).two
  have L1 := hide (fun wx (hb : Below w.heap.size w wx) => lex_bad wx s X P (by omega) (hT.later hb).two h1)
  have T3 := hide (fun wx (hb : Below w.heap.size w wx) => text_may wx _ l (hin.later hb) (by omega) (hT.later hb) hm t3 ht3)
  have L3 := hide (fun wx (_ : Below w.heap.size w wx) => lex_long wx t3 hl3)
  have hl3i : (t3.size : Int) > 65536 := by omega
  have hsi : ¬ (s.size : Int) > 4000 := by omega
  have hli2 : ¬ (l.length : Int) > 200 := by omega
  clear hin hT hs hl h1 hm ht3 hl3
  have K0 : Hid True := trivial
  go_enter Tryd.func5, Tryd.ntmps5
  go_wp2_with (first
    | (go_at_call 12; have tk := K0; refine (LV.out _ (Below.refl _ _)).mono ?_; rintro e w0 ⟨rfl, hz⟩; have B0 := hide hz; clear hz; clear tk K0; have K1 : Hid True := trivial)
    | (go_at_call 8; have tk := K1; refine (L1.out _ B0.out).mono ?_; rintro e w1 ⟨rfl, hz⟩; have STF := hide (St.first (X := (.int .i64 X, .int .i64 P)) (t := 25) B0.out hz); clear hz; clear tk K1; have K2 : Hid True := trivial)
    | (go_at_call 11; have tk := K2; refine (T3.out _ (STF.out.belTo (by first | exact Below.refl _ _ | exact (Below.refl _ _).alloc (Nat.le_refl _) _ | exact ((Below.refl _ _).alloc (Nat.le_refl _) _).alloc (by simp) _ | exact (((Below.refl _ _).alloc (Nat.le_refl _) _).alloc (by simp) _).alloc (by simp; omega) _))).mono ?_; rintro e w2 ⟨rfl, hz⟩; replace STF := hide (STF.out.step hz (by first | exact Below.refl _ _ | exact (Below.refl _ _).alloc (Nat.le_refl _) _ | exact ((Below.refl _ _).alloc (Nat.le_refl _) _).alloc (by simp) _ | exact (((Below.refl _ _).alloc (Nat.le_refl _) _).alloc (by simp) _).alloc (by simp; omega) _)); obtain ⟨z0, z1, f0, f1, hl8⟩ := slot2 STF.out.fb; replace STF := hide (STF.out.store (.int .i64 0) (.int .i64 0)); clear hz; clear tk K2; have K3 : Hid True := trivial)
    | (go_at_call 8; have tk := K3; refine (L3.out _ (STF.out.belTo (by first | exact Below.refl _ _ | exact (Below.refl _ _).alloc (Nat.le_refl _) _ | exact ((Below.refl _ _).alloc (Nat.le_refl _) _).alloc (by simp) _ | exact (((Below.refl _ _).alloc (Nat.le_refl _) _).alloc (by simp) _).alloc (by simp; omega) _))).mono ?_; rintro e w3 ⟨rfl, hz⟩; replace STF := hide (STF.out.step hz (by first | exact Below.refl _ _ | exact (Below.refl _ _).alloc (Nat.le_refl _) _ | exact ((Below.refl _ _).alloc (Nat.le_refl _) _).alloc (by simp) _ | exact (((Below.refl _ _).alloc (Nat.le_refl _) _).alloc (by simp) _).alloc (by simp; omega) _)); have BF := hide STF.out.bel; clear hz; clear tk K3; have K4 : Hid True := trivial))
  go_ret
  exact ⟨rfl, by first | exact BF.out | exact BF.out.alloc BF.out.size _⟩
end Go.Proofs.YtfkfljpajeeclaaDoor
