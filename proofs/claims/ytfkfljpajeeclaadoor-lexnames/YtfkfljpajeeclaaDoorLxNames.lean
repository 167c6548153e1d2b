/-
  The layer's numbers are as told, and the chapter's examples hold: the law's walk.
-/
import Derived.Test.YtfkfljpajeeclaaDoorLxPB
namespace Go.Proofs.YtfkfljpajeeclaaDoor
open Go.RowKit
attribute [local go_sem ↓] Go.wp_at_zero Go.wp_at_succ

set_option maxRecDepth 100000 in
set_option maxHeartbeats 4000000 in
theorem fails_any (w : World) (s : ByteArray) (x : Int) (p : Nat) (hs : s.size ≤ 65536) (hT : Tab2 w) (hq : Lx.lexA s.data.toList 0 = .error (x, p)) : Calls Tryd.prog 10 #[.string s, .int .i64 x, .int .i64 p] w fun e w' => e = .returned (.bool true) ∧ Below w.heap.size w w' := by
  have L := hide (lex_bad w s x p hs hT hq)
  clear hT hq
  go_enter Tryd.func10, Tryd.ntmps10
  go_wp2_with (go_at_call 8; refine L.out.mono ?_; rintro e w1 ⟨rfl, hz⟩)
  go_ret
  exact ⟨rfl, by first | exact hz | exact hz.alloc hz.size _ | exact (hz.alloc hz.size _).alloc (by have := hz.size; simp; omega) _⟩

def nmS : ByteArray := ⟨#[49, 60, 61, 50, 60, 62, 51]⟩
def nmQ : List Lx.Tk := [⟨2, [], 1, 0⟩, ⟨4, [60, 61], 0, 1⟩, ⟨2, [], 2, 3⟩, ⟨4, [60, 62], 0, 4⟩, ⟨2, [], 3, 6⟩]
theorem nm_lex : Lx.lexA nmS.data.toList 0 = .ok nmQ := by kernel_rfl
def nmS2 : ByteArray := ⟨#[49, 50, 97, 98]⟩
def nmQ2 : List Lx.Tk := [⟨2, [], 12, 0⟩, ⟨1, [97, 98], 0, 2⟩]
theorem nm_lex2 : Lx.lexA nmS2.data.toList 0 = .ok nmQ2 := by kernel_rfl
theorem nm_wf2 : ∀ x ∈ nmQ2, Twf x := fun x hx => ((gs_wf nmS2.data.toList (by decide) nmQ2 0 (lex_gs nm_lex2)).1 x hx).1
theorem nm_cells2 : #[.int .u8 2, .string ⟨#[]⟩, .int .u64 12, .int .i64 0, .int .u8 1, .string ⟨#[97, 98]⟩, .int .u64 0, .int .i64 2] = (tkcs nmQ2).toArray := rfl
def nmL : List Lx.Tk := [⟨1, [115, 101, 108, 101, 99, 116], 0, 0⟩, ⟨1, [97, 49], 0, 0⟩, ⟨4, [44], 0, 0⟩, ⟨3, [105, 116, 39, 115], 0, 0⟩]
theorem nm_cells : #[.int .u8 1, .string ⟨#[115, 101, 108, 101, 99, 116]⟩, .int .u64 0, .int .i64 0, .int .u8 1, .string ⟨#[97, 49]⟩, .int .u64 0, .int .i64 0, .int .u8 4, .string ⟨#[44]⟩, .int .u64 0, .int .i64 0, .int .u8 3, .string ⟨#[105, 116, 39, 115]⟩, .int .u64 0, .int .i64 0] = (tkcs nmL).toArray := rfl
theorem nm_may : ∀ x ∈ nmL, Lx.mayT x = true := (Lx.bad_none nmL).1 (by kernel_rfl)
theorem nm_wf : ∀ x ∈ nmL, Twf x := fun x hx => may_wf (by rw [Lx.may_unp (nm_may x hx)]; exact nm_may x hx) (by rw [Lx.may_at (nm_may x hx)]; decide) (by rw [Lx.may_at (nm_may x hx)]; decide)
theorem nm_text : (⟨#[115, 101, 108, 101, 99, 116, 32, 97, 49, 32, 44, 32, 39, 105, 116, 39, 39, 115, 39]⟩ : ByteArray) = ⟨(Lx.textL nmL).toArray⟩ := by kernel_rfl
theorem nf0 : Lx.lexA (⟨#[57, 50, 50, 51, 51, 55, 50, 48, 51, 54, 56, 53, 52, 55, 55, 53, 56, 48, 57]⟩ : ByteArray).data.toList 0 = .error (233, 0) := by kernel_rfl
theorem nf1 : Lx.lexA (⟨#[33]⟩ : ByteArray).data.toList 0 = .error (230, 0) := by kernel_rfl
theorem nf2 : Lx.lexA (⟨#[39, 97]⟩ : ByteArray).data.toList 0 = .error (231, 0) := by kernel_rfl
theorem nf3 : Lx.lexA (⟨#[39, 255, 39]⟩ : ByteArray).data.toList 0 = .error (232, 0) := by kernel_rfl
theorem nf4 : Lx.lexA (⟨#[124]⟩ : ByteArray).data.toList 0 = .error (230, 0) := by kernel_rfl
theorem res_no : resL.contains (⟨#[83, 101, 108, 101, 99, 116]⟩ : ByteArray).data.toList = false := by kernel_rfl
theorem res_yes : resL.contains (⟨#[115, 101, 108, 101, 99, 116]⟩ : ByteArray).data.toList = true := by kernel_rfl

theorem byte_back (W : World) : (convert 34 9 (.slice (some ⟨W.heap.size, 0, none⟩) 1 1)).run Tryd.prog (W.alloc (.cells #[.int .u8 255] 5)) = .ok (.string ⟨#[255]⟩) (W.alloc (.cells #[.int .u8 255] 5)) := by
  have h := run_convert_bytes_back (P := Tryd.prog) (W.alloc (.cells #[.int .u8 255] 5)) 34 9 5 ⟨W.heap.size, 0, none⟩ 1 [255] Tryd.underlying34 Tryd.underlying5 Tryd.underlying9 (fun j hj => by
    obtain rfl : j = 0 := by simp at hj; exact hj
    rw [Lib.add_plain, Joins.cell_of_block (heap_alloc_new W (.cells #[.int .u8 255] 5)) _]
    rfl)
  exact h

set_option maxRecDepth 100000 in
set_option maxHeartbeats 16000000 in
theorem names_walk (w : World) (hT : Tabs w) : Calls Tryd.prog 3 #[] w fun e w' => e = .returned (.bool true) ∧ Below w.heap.size w w' := by
  have L1 := hide (fun wx (hb : Below w.heap.size w wx) => lex_ok wx nmS nmQ (by decide) (hT.later hb).two nm_lex)
  have L2 := hide (fun wx (hb : Below w.heap.size w wx) => lex_ok wx nmS2 nmQ2 (by decide) (hT.later hb).two nm_lex2)
  unfold nmS at L1
  unfold nmS2 at L2
  have SA := hide (fun wx v v2 h h2 => sameT_any wx v v2 nmQ2 h h2 (by decide))
  have F0 := hide (fun wx (hb : Below w.heap.size w wx) => fails_any wx ⟨#[57, 50, 50, 51, 51, 55, 50, 48, 51, 54, 56, 53, 52, 55, 55, 53, 56, 48, 57]⟩ 233 0 (by decide) (hT.later hb).two nf0)
  have F1 := hide (fun wx (hb : Below w.heap.size w wx) => fails_any wx ⟨#[33]⟩ 230 0 (by decide) (hT.later hb).two nf1)
  have F2 := hide (fun wx (hb : Below w.heap.size w wx) => fails_any wx ⟨#[39, 97]⟩ 231 0 (by decide) (hT.later hb).two nf2)
  have F3 := hide (fun wx (hb : Below w.heap.size w wx) => fails_any wx ⟨#[39, 255, 39]⟩ 232 0 (by decide) (hT.later hb).two nf3)
  have F4 := hide (fun wx (hb : Below w.heap.size w wx) => fails_any wx ⟨#[124]⟩ 230 0 (by decide) (hT.later hb).two nf4)
  have TX := hide (fun wx v (h : TksIn wx v nmL) (hb : Below w.heap.size w wx) => text_may wx v nmL h (by decide) (hT.later hb) nm_may _ nm_text)
  have LV := hide (fun wx (hb : Below w.heap.size w wx) => lives_any wx (hT.later hb).two)
  have R0 : Hid (∀ wx, Calls Tryd.prog 13 #[.string ⟨#[83, 101, 108, 101, 99, 116]⟩] wx fun e w' => e = .returned (.bool false) ∧ w' = wx) := fun wx => by have := reserved_any wx ⟨#[83, 101, 108, 101, 99, 116]⟩; rw [res_no] at this; exact this
  have R1 : Hid (∀ wx, Calls Tryd.prog 13 #[.string ⟨#[115, 101, 108, 101, 99, 116]⟩] wx fun e w' => e = .returned (.bool true) ∧ w' = wx) := fun wx => by have := reserved_any wx ⟨#[115, 101, 108, 101, 99, 116]⟩; rw [res_yes] at this; exact this
  have cv : ∀ W : World, (convert 34 9 (.slice (some ⟨W.heap.size, 0, none⟩) 1 1)).run Tryd.prog (W.alloc (.cells #[.int .u8 255] 5)) = .ok (.string ⟨#[255]⟩) (W.alloc (.cells #[.int .u8 255] 5)) := fun W => byte_back W
  clear hT
  have K0 : Hid True := trivial
  go_enter Tryd.func3, Tryd.ntmps3
  go_wp2_with (first
    | (go_at_call 8; have tk := K0; refine (L1.out _ (Below.refl _ _)).mono ?_; rintro e w0 ⟨v1, rfl, hv, hz⟩; have STF := hide (St.first (X := (.int .i64 0, .int .i64 0)) (t := 25) (Below.refl w.heap.size w) hz); have V1 := hide hv; clear hv hz; clear tk K0; have K1 : Hid True := trivial)
    | (go_at_call 8; have tk := K1; refine (L2.out _ (STF.out.belTo (by first | exact Below.refl _ _ | exact (Below.refl _ _).alloc (Nat.le_refl _) _ | exact ((Below.refl _ _).alloc (Nat.le_refl _) _).alloc (by simp) _ | exact (((Below.refl _ _).alloc (Nat.le_refl _) _).alloc (by simp) _).alloc (by simp; omega) _))).mono ?_; rintro e w1 ⟨v2, rfl, hv, hz⟩; replace STF := hide (STF.out.step hz (by first | exact Below.refl _ _ | exact (Below.refl _ _).alloc (Nat.le_refl _) _ | exact ((Below.refl _ _).alloc (Nat.le_refl _) _).alloc (by simp) _ | exact (((Below.refl _ _).alloc (Nat.le_refl _) _).alloc (by simp) _).alloc (by simp; omega) _)); replace V1 := hide (V1.out.step hz (by first | exact Below.refl _ _ | exact (Below.refl _ _).alloc (Nat.le_refl _) _ | exact ((Below.refl _ _).alloc (Nat.le_refl _) _).alloc (by simp) _ | exact (((Below.refl _ _).alloc (Nat.le_refl _) _).alloc (by simp) _).alloc (by simp; omega) _)); have V2 := hide hv; clear hv hz; obtain ⟨z0, z1, _, _, hlf⟩ := slot2 STF.out.fb; obtain ⟨⟨a1, c1, hv1, _, hf1⟩, _⟩ := V1.out; obtain ⟨b1, o1, ha1, ht1⟩ := hf1 (by decide); have t1 := ht1 1 (by decide); have t3 := ht1 3 (by decide); have t4 := ht1 4 (by decide); simp only [nmQ, List.getElem_cons_succ, List.getElem_cons_zero, List.length_cons, List.length_nil, Nat.one_mul, Nat.reduceMul] at t1 t3 t4 hv1; subst hv1; subst ha1; obtain ⟨_, t1, _, _⟩ := t1; obtain ⟨_, t3, _, _⟩ := t3; obtain ⟨_, _, t4, _⟩ := t4; have lb : b1 < w1.heap.size := World.block_lt_of_cell? w1 _ t1; replace t4 : w1.cell? ⟨b1, o1 + 16 + 2, none⟩ = some (.int .u64 3) := t4; clear tk K1; have K2 : Hid True := trivial)
    | (go_at_call 9; have tk := K2; refine (SA.out _ _ _ (V2.out.later (by first | exact Below.refl _ _ | exact (Below.refl _ _).alloc (Nat.le_refl _) _ | exact ((Below.refl _ _).alloc (Nat.le_refl _) _).alloc (by simp) _ | exact (((Below.refl _ _).alloc (Nat.le_refl _) _).alloc (by simp) _).alloc (by simp; omega) _)) ⟨⟨_, 2, rfl, (fun e => by cases e), fun _ => ⟨_, 0, rfl, tks_lit _ nmQ2 _ nm_cells2 (by simp)⟩⟩, nm_wf2⟩).mono ?_; rintro e w2 ⟨rfl, hz⟩; replace STF := hide (STF.out.step hz (by first | exact Below.refl _ _ | exact (Below.refl _ _).alloc (Nat.le_refl _) _ | exact ((Below.refl _ _).alloc (Nat.le_refl _) _).alloc (by simp) _ | exact (((Below.refl _ _).alloc (Nat.le_refl _) _).alloc (by simp) _).alloc (by simp; omega) _)); clear hz; clear tk K2; have K3 : Hid True := trivial)
    | (go_at_call 10; have tk := K3; refine (F0.out _ (STF.out.belTo (by first | exact Below.refl _ _ | exact (Below.refl _ _).alloc (Nat.le_refl _) _ | exact ((Below.refl _ _).alloc (Nat.le_refl _) _).alloc (by simp) _ | exact (((Below.refl _ _).alloc (Nat.le_refl _) _).alloc (by simp) _).alloc (by simp; omega) _))).mono ?_; rintro e w3 ⟨rfl, hz⟩; replace STF := hide (STF.out.step hz (by first | exact Below.refl _ _ | exact (Below.refl _ _).alloc (Nat.le_refl _) _ | exact ((Below.refl _ _).alloc (Nat.le_refl _) _).alloc (by simp) _ | exact (((Below.refl _ _).alloc (Nat.le_refl _) _).alloc (by simp) _).alloc (by simp; omega) _)); clear hz; clear tk K3; have K4 : Hid True := trivial)
    | (go_at_call 10; have tk := K4; refine (F1.out _ (STF.out.belTo (by first | exact Below.refl _ _ | exact (Below.refl _ _).alloc (Nat.le_refl _) _ | exact ((Below.refl _ _).alloc (Nat.le_refl _) _).alloc (by simp) _ | exact (((Below.refl _ _).alloc (Nat.le_refl _) _).alloc (by simp) _).alloc (by simp; omega) _))).mono ?_; rintro e w4 ⟨rfl, hz⟩; replace STF := hide (STF.out.step hz (by first | exact Below.refl _ _ | exact (Below.refl _ _).alloc (Nat.le_refl _) _ | exact ((Below.refl _ _).alloc (Nat.le_refl _) _).alloc (by simp) _ | exact (((Below.refl _ _).alloc (Nat.le_refl _) _).alloc (by simp) _).alloc (by simp; omega) _)); clear hz; clear tk K4; have K5 : Hid True := trivial)
    | (go_at_call 10; have tk := K5; refine (F2.out _ (STF.out.belTo (by first | exact Below.refl _ _ | exact (Below.refl _ _).alloc (Nat.le_refl _) _ | exact ((Below.refl _ _).alloc (Nat.le_refl _) _).alloc (by simp) _ | exact (((Below.refl _ _).alloc (Nat.le_refl _) _).alloc (by simp) _).alloc (by simp; omega) _))).mono ?_; rintro e w5 ⟨rfl, hz⟩; replace STF := hide (STF.out.step hz (by first | exact Below.refl _ _ | exact (Below.refl _ _).alloc (Nat.le_refl _) _ | exact ((Below.refl _ _).alloc (Nat.le_refl _) _).alloc (by simp) _ | exact (((Below.refl _ _).alloc (Nat.le_refl _) _).alloc (by simp) _).alloc (by simp; omega) _)); clear hz; clear tk K5; have K6 : Hid True := trivial)
    | (go_at_call 10; have tk := K6; refine (F3.out _ (STF.out.belTo (by first | exact Below.refl _ _ | exact (Below.refl _ _).alloc (Nat.le_refl _) _ | exact ((Below.refl _ _).alloc (Nat.le_refl _) _).alloc (by simp) _ | exact (((Below.refl _ _).alloc (Nat.le_refl _) _).alloc (by simp) _).alloc (by simp; omega) _))).mono ?_; rintro e w6 ⟨rfl, hz⟩; replace STF := hide (STF.out.step hz (by first | exact Below.refl _ _ | exact (Below.refl _ _).alloc (Nat.le_refl _) _ | exact ((Below.refl _ _).alloc (Nat.le_refl _) _).alloc (by simp) _ | exact (((Below.refl _ _).alloc (Nat.le_refl _) _).alloc (by simp) _).alloc (by simp; omega) _)); clear hz; clear tk K6; have K7 : Hid True := trivial)
    | (go_at_call 10; have tk := K7; refine (F4.out _ (STF.out.belTo (by first | exact Below.refl _ _ | exact (Below.refl _ _).alloc (Nat.le_refl _) _ | exact ((Below.refl _ _).alloc (Nat.le_refl _) _).alloc (by simp) _ | exact (((Below.refl _ _).alloc (Nat.le_refl _) _).alloc (by simp) _).alloc (by simp; omega) _))).mono ?_; rintro e w7 ⟨rfl, hz⟩; replace STF := hide (STF.out.step hz (by first | exact Below.refl _ _ | exact (Below.refl _ _).alloc (Nat.le_refl _) _ | exact ((Below.refl _ _).alloc (Nat.le_refl _) _).alloc (by simp) _ | exact (((Below.refl _ _).alloc (Nat.le_refl _) _).alloc (by simp) _).alloc (by simp; omega) _)); clear hz; clear tk K7; have K8 : Hid True := trivial)
    | (go_at_call 11; have tk := K8; refine (TX.out _ _ ⟨⟨_, 4, rfl, (fun e => by cases e), fun _ => ⟨_, 0, rfl, tks_lit _ nmL _ nm_cells (by simp)⟩⟩, nm_wf⟩ (STF.out.belTo (by first | exact Below.refl _ _ | exact (Below.refl _ _).alloc (Nat.le_refl _) _ | exact ((Below.refl _ _).alloc (Nat.le_refl _) _).alloc (by simp) _ | exact (((Below.refl _ _).alloc (Nat.le_refl _) _).alloc (by simp) _).alloc (by simp; omega) _))).mono ?_; rintro e w8 ⟨rfl, hz⟩; have STG := hide (St.first (X := (.int .i64 0, .int .i64 0)) (t := 25) (STF.out.belTo (by first | exact Below.refl _ _ | exact (Below.refl _ _).alloc (Nat.le_refl _) _ | exact ((Below.refl _ _).alloc (Nat.le_refl _) _).alloc (by simp) _ | exact (((Below.refl _ _).alloc (Nat.le_refl _) _).alloc (by simp) _).alloc (by simp; omega) _)) hz); replace STF := hide (STF.out.step hz (by first | exact Below.refl _ _ | exact (Below.refl _ _).alloc (Nat.le_refl _) _ | exact ((Below.refl _ _).alloc (Nat.le_refl _) _).alloc (by simp) _ | exact (((Below.refl _ _).alloc (Nat.le_refl _) _).alloc (by simp) _).alloc (by simp; omega) _)); clear hz; clear tk K8; have K9 : Hid True := trivial)
    | (go_at_call 12; have tk := K9; refine (LV.out _ (STF.out.belTo (by first | exact Below.refl _ _ | exact (Below.refl _ _).alloc (Nat.le_refl _) _ | exact ((Below.refl _ _).alloc (Nat.le_refl _) _).alloc (by simp) _ | exact (((Below.refl _ _).alloc (Nat.le_refl _) _).alloc (by simp) _).alloc (by simp; omega) _))).mono ?_; rintro e w9 ⟨rfl, hz⟩; replace STF := hide (STF.out.step hz (by first | exact Below.refl _ _ | exact (Below.refl _ _).alloc (Nat.le_refl _) _ | exact ((Below.refl _ _).alloc (Nat.le_refl _) _).alloc (by simp) _ | exact (((Below.refl _ _).alloc (Nat.le_refl _) _).alloc (by simp) _).alloc (by simp; omega) _)); replace STG := hide (STG.out.step hz (by first | exact Below.refl _ _ | exact (Below.refl _ _).alloc (Nat.le_refl _) _ | exact ((Below.refl _ _).alloc (Nat.le_refl _) _).alloc (by simp) _ | exact (((Below.refl _ _).alloc (Nat.le_refl _) _).alloc (by simp) _).alloc (by simp; omega) _)); obtain ⟨y0, y1, _, _, hlg⟩ := slot2 STG.out.fb; clear hz; clear tk K9; have K10 : Hid True := trivial)
    | (go_at_call 13; have tk := K10; refine (R0.out _).mono ?_; rintro e w10 ⟨rfl, rfl⟩; skip; clear tk K10; have K11 : Hid True := trivial)
    | (go_at_call 13; have tk := K11; refine (R1.out _).mono ?_; rintro e w11 ⟨rfl, rfl⟩; skip; clear tk K11; have K12 : Hid True := trivial))
  go_ret
  exact ⟨rfl, by first | exact STF.out.bel | exact STF.out.bel.alloc STF.out.bel.size _⟩
end Go.Proofs.YtfkfljpajeeclaaDoor
