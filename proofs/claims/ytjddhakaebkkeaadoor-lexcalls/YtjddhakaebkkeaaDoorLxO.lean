/-
  The chapter's first example holds; Lex as the laws use it.
-/
import Derived.Test.YtjddhakaebkkeaaDoorLxN
namespace Go.Proofs.YtjddhakaebkkeaaDoor
open Go.RowKit
attribute [local go_sem ↓] Go.wp_at_zero Go.wp_at_succ

theorem tks_lit (w : World) (l : List Lx.Tk) (cs : Array Value) (hc : cs = (tkcs l).toArray) {B : Nat} (hB : B = w.heap.size) : TksAt (w.alloc (.cells cs 27)) B 0 l := by
  subst hB hc
  intro j hj
  obtain ⟨e0, e1, e2, e3⟩ := tkcs_get l j hj
  have h := heap_alloc_new w (.cells (tkcs l).toArray 27)
  have c : ∀ i, (w.alloc (.cells (tkcs l).toArray 27)).cell? ⟨w.heap.size, i, none⟩ = (tkcs l)[i]? := fun i => by
    rw [Joins.cell_of_block h i]; simp
  rw [Nat.zero_add, c, c, c, c]
  exact ⟨e0, e1, e2, e3⟩

/-- What Lex answers where a text has tokens. -/
theorem lex_ok (w : World) (s : ByteArray) (q : List Lx.Tk) (hs : s.size ≤ 65536) (hT : Tab2 w) (hq : Lx.lexA s.data.toList 0 = .ok q) : Calls Tryd.prog 5 #[.string s] w fun e w' => ∃ v, e = .returned (.tuple #[v, .agg #[.int .i64 0, .int .i64 0]]) ∧ TksIn w' v q ∧ Below w.heap.size w w' := by
  refine (lex_any w s hs hT).mono ?_
  rintro e w' ⟨v, hv, hb⟩
  unfold lexV at hv
  rw [hq] at hv
  exact ⟨v, hv.1, TksIn.own hv.2 (fun x hx => ((gs_wf s.data.toList (by rw [l_size]; exact hs) q 0 (lex_gs hq)).1 x hx).1), hb⟩
theorem own_room {w : World} {base : Nat} {v : Value} {l : List Lx.Tk} (h : w.ownsRow base 27 4 v l.length (tkcs l)) : ∃ a cap, v = .slice a l.length cap ∧ l.length ≤ cap := by
  rcases h.2 with ⟨rfl, h0⟩ | ⟨g, cap, cur, rfl, _, _, hnc, _⟩
  · exact ⟨none, 0, by rw [h0], by omega⟩
  · exact ⟨_, cap, rfl, hnc⟩
theorem lex_room (w : World) (s : ByteArray) (q : List Lx.Tk) (hs : s.size ≤ 65536) (hT : Tab2 w) (hq : Lx.lexA s.data.toList 0 = .ok q) : Calls Tryd.prog 5 #[.string s] w fun e w' => ∃ v, e = .returned (.tuple #[v, .agg #[.int .i64 0, .int .i64 0]]) ∧ TksIn w' v q ∧ (∃ a cap, v = .slice a q.length cap ∧ q.length ≤ cap) ∧ Below w.heap.size w w' := by
  refine (lex_any w s hs hT).mono ?_
  rintro e w' ⟨v, hv, hb⟩
  unfold lexV at hv
  rw [hq] at hv
  exact ⟨v, hv.1, TksIn.own hv.2 (fun x hx => ((gs_wf s.data.toList (by rw [l_size]; exact hs) q 0 (lex_gs hq)).1 x hx).1), own_room hv.2, hb⟩
theorem lex_bad (w : World) (s : ByteArray) (x : Int) (p : Nat) (hs : s.size ≤ 65536) (hT : Tab2 w) (hq : Lx.lexA s.data.toList 0 = .error (x, p)) : Calls Tryd.prog 5 #[.string s] w fun e w' => e = .returned (.tuple #[.slice none 0 0, .agg #[.int .i64 x, .int .i64 p]]) ∧ Below w.heap.size w w' := by
  refine (lex_any w s hs hT).mono ?_
  rintro e w' ⟨v, hv, hb⟩
  unfold lexV at hv
  rw [hq] at hv
  exact ⟨hv, hb⟩

def liveS : ByteArray := ⟨#[83, 69, 76, 69, 67, 84, 32, 97, 49, 44, 39, 105, 116, 39, 39, 115, 39]⟩
def liveQ : List Lx.Tk := [⟨1, [115, 101, 108, 101, 99, 116], 0, 0⟩, ⟨1, [97, 49], 0, 7⟩, ⟨4, [44], 0, 9⟩, ⟨3, [105, 116, 39, 115], 0, 10⟩]
theorem live_lex : Lx.lexA liveS.data.toList 0 = .ok liveQ := by kernel_rfl
theorem live_cells : #[.int .u8 1, .string ⟨#[115, 101, 108, 101, 99, 116]⟩, .int .u64 0, .int .i64 0, .int .u8 1, .string ⟨#[97, 49]⟩, .int .u64 0, .int .i64 7, .int .u8 4, .string ⟨#[44]⟩, .int .u64 0, .int .i64 9, .int .u8 3, .string ⟨#[105, 116, 39, 115]⟩, .int .u64 0, .int .i64 10] = (tkcs liveQ).toArray := rfl
theorem live_wf : ∀ x ∈ liveQ, Twf x := by
  intro x hx
  exact ((gs_wf liveS.data.toList (by decide) liveQ 0 (lex_gs live_lex)).1 x hx).1

set_option maxRecDepth 100000 in
set_option maxHeartbeats 4000000 in
theorem lives_any (w : World) (hT : Tab2 w) : Calls Tryd.prog 4 #[] w fun e w' => e = .returned (.bool true) ∧ Below w.heap.size w w' := by
  have LK := hide (lex_ok w liveS liveQ (by decide) hT live_lex)
  unfold liveS at LK
  have SA := hide (fun wx v v2 h h2 => sameT_any wx v v2 liveQ h h2 (by decide))
  clear hT
  go_enter Tryd.func4, Tryd.ntmps4
  go_wp2_with (first
    | (go_at_call 5; refine LK.out.mono ?_; rintro e w1 ⟨v, rfl, hv, hb⟩; have HV := hide hv; clear hv)
    | (go_at_call 9; refine (SA.out _ _ _ (HV.out.later (((Below.refl _ _).alloc (Nat.le_refl _) _).trans (((Below.refl _ _).alloc (Nat.le_refl _) _).mono (by simp)))) ⟨⟨_, 4, rfl, (fun e => by cases e), fun _ => ⟨_, 0, rfl, tks_lit _ liveQ _ live_cells (by simp)⟩⟩, live_wf⟩).mono ?_; rintro e w2 ⟨rfl, hb2⟩; have B2 := hb.trans ((((Below.refl _ _).alloc (Nat.le_refl _) _).trans (((Below.refl _ _).alloc (Nat.le_refl _) _).mono (by simp))).trans (hb2.mono (by simp; omega)) |>.mono hb.size)))
  go_ret
  exact ⟨rfl, B2⟩
end Go.Proofs.YtjddhakaebkkeaaDoor
