/-
  The kit's CopyInts, LentInts, SameInts (of lists that are the same) and KeptInts.
-/
import Derived.Test.YtbdgdigpnfpnhaaBFold
namespace Go.Proofs.Ytbdgdigpnfpnhaa
open Go.RowKit

theorem ints_own {w : World} {base : Nat} {v : Value} {l : List Int} (h : w.ownsRow base 3 1 v l.length (ics l)) : IntsAt w v l := by
  obtain ⟨a, c, hv⟩ := row_shape h
  subst hv
  rcases h.2 with ⟨e, h0⟩ | ⟨g, cap, cur, e, _⟩
  · simp only [Value.slice.injEq] at e
    exact ⟨a, c, rfl, fun _ => ⟨List.eq_nil_of_length_eq_zero h0, e.2.2⟩, fun hl => absurd (List.eq_nil_of_length_eq_zero h0) hl⟩
  · simp only [Value.slice.injEq] at e
    obtain ⟨rfl, _, rfl⟩ := e
    refine ⟨_, c, rfl, (fun e => by cases e), fun hl => ⟨g, 0, rfl, fun j hj => ?_⟩⟩
    rw [Nat.zero_add, h.cellAt j (by omega)]
    simp [ics, hj]

set_option maxRecDepth 100000 in
theorem copyInts_any (w : World) (a : Option Addr) (c n : Nat) (l : List Int) (h : IntsAt w (.slice a n c) l) (hn : n = l.length) (hl : n ≤ 100000) :
    Calls Try.prog 34 #[.slice a n c] w fun e w' => ∃ g cap, e = .returned (.slice (some ⟨g, 0, none⟩) n cap) ∧ w'.ownsRow w.heap.size 3 1 (.slice (some ⟨g, 0, none⟩) n cap) n (ics l) ∧ Below w.heap.size w w' := by
  have L0 : (w.alloc (.cells #[] 3)).ownsRow w.heap.size 3 1 (.slice (some ⟨w.heap.size, 0, none⟩) 0 0) 0 (ics []) := World.ownsRow_lit (size := 1) (e := 3) (base := w.heap.size) w #[] 0 (Nat.le_refl _) (by unfold maxLen; omega) rfl
  have b0 : Below w.heap.size w (w.alloc (.cells #[] 3)) := (Below.refl _ _).alloc (Nat.le_refl _) _
  have HL0 := hide L0
  have HA := hide (h.later b0)
  have HN : Hid (n = l.length) := hn
  clear L0 h hn b0
  go_enter Try.func34, Try.ntmps34
  go_wp2_with (first
    | (at_builtin; refine wpList_app_ints _ rfl _ _ rfl w.heap.size w.heap.size 0 [] l 0 n c rfl HN.out rfl HL0.out a rfl HA.out (by omega) (by simp) ?_; intro g1 cap1 w1 o1 h1))
  have B1 : Below w.heap.size w w1 := ((Below.refl _ _).alloc (Nat.le_refl _) _).grown h1 (by simp) (fun k hk => by cases hk; exact Nat.le_refl _)
  simp only [Nat.zero_add, List.nil_append] at o1 ⊢
  go_ret
  exact ⟨g1, cap1, rfl, o1, B1⟩

def lentI (l : List Int) (k : Nat) : List Int := l ++ (List.range k).map (fun i : Nat => (7777777 : Int) + Int.ofNat i)
theorem lentI_next (l : List Int) (k : Nat) : lentI l (k + 1) = lentI l k ++ [7777777 + (k : Int)] := by
  unfold lentI
  rw [List.range_succ, List.map_append, List.append_assoc]
  rfl
theorem lentI_len (l : List Int) (k : Nat) : (lentI l k).length = l.length + k := by simp [lentI]

set_option maxRecDepth 100000 in
set_option maxHeartbeats 2000000 in
theorem lentInts_any (w : World) (a : Option Addr) (c n : Nat) (l : List Int) (h : IntsAt w (.slice a n c) l) (hn : n = l.length) (hl : n ≤ 100000) :
    Calls Try.prog 7 #[.slice a n c] w fun e w' => ∃ g cap, e = .returned (.slice (some ⟨g, 0, none⟩) (n + 3) cap) ∧ w'.ownsRow w.heap.size 3 1 (.slice (some ⟨g, 0, none⟩) (n + 3) cap) (n + 3) (ics (lentI l 3)) ∧ Below w.heap.size w w' := by
  obtain ⟨i0, hi, hz0, hz1, hz2⟩ := info_parts Try.infoI
  have CP := hide (copyInts_any w a c n l h hn hl)
  have HN := hide hn
  clear h hn
  go_enter Try.func7, Try.ntmps7
  go_wp2_with (go_at_call 34; refine CP.out.mono ?_; rintro e w1 ⟨g1, cap1, rfl, o1, B1⟩; clear CP)
  have O1 : w1.ownsRow w.heap.size 3 1 (.slice (some ⟨g1, 0, none⟩) (n + 0) cap1) (n + 0) (ics (lentI l 0)) := by
    have : lentI l 0 = l := by simp [lentI]
    rw [this]; exact o1
  clear o1
  go_loopw [3, 4] (fun v i wr => ∃ (j g cap : Nat), j ≤ 3 ∧ i = .int .i64 (j : Int) ∧ v = .slice (some ⟨g, 0, none⟩) (n + j) cap ∧ wr.ownsRow w.heap.size 3 1 (.slice (some ⟨g, 0, none⟩) (n + j) cap) (n + j) (ics (lentI l j)) ∧ Below w.heap.size w wr) (fun _ i _ => 3 - (intOf i).toNat)
  case atStart => exact ⟨0, g1, cap1, by omega, rfl, rfl, O1, B1⟩
  case round =>
    obtain ⟨j, g, cap, hj, rfl, rfl, o, bx⟩ := hrel
    clear O1 B1
    by_cases hlt : j < 3
    · have O := hide o
      have HLE := hide (lentI_next l j)
      have wj : IntKind.i64.wrap (7777777 + (j : Int)) = 7777777 + (j : Int) := by rw [IntKind.wrap_i64]; omega
      have CN : Hid (∀ W : World, ∀ B, B = W.heap.size → ∀ i u, (ics [7777777 + (j : Int)])[i]? = some u → (W.alloc (.cells #[.int .i64 (7777777 + (j : Int))] 3)).cell? ((⟨B, 0, none⟩ : Addr).add i) = some u) := by
        rintro W B rfl i u hu
        have hi0 : i = 0 := by
          rcases i with _ | i
          · rfl
          · simp [ics] at hu
        subst hi0
        have hadd : (⟨W.heap.size, 0, none⟩ : Addr).add 0 = ⟨W.heap.size, 0, none⟩ := by unfold Addr.add; split <;> simp_all
        rw [hadd]
        refine (Joins.cell_of_block (World.alloc_heap_new W _) 0).trans ?_
        rw [← hu]; rfl
      have HL : Hid ((ics [7777777 + (j : Int)]).length = 1 * 1) := rfl
      have HO : Hid (∀ u ∈ ics [7777777 + (j : Int)], u.oneCell' = true) := ics_one _
      have Z1 : Hid (n + j + 1 ≤ maxLen) := by show _ ≤ _; unfold maxLen; omega
      have Z2 : Hid ((n + j + 1) * 8 ≤ 140737488355328) := by show _ ≤ _; omega
      have i1 : (j : Int) < 3 := by omega
      clear o
      go_wp2_with (first
        | (at_builtin; refine wpList_append_lies _ rfl _ _ 22 rfl w.heap.size 3 i0 _ 1 8 Try.underlying22 hi hz0 hz1 hz2 rfl (by decide) _ (n + j) _ rfl (O.out.alloc _) ⟨wr.heap.size, 0, none⟩ 1 1 (ics [7777777 + (j : Int)]) rfl HL.out (CN.out _ _ rfl) HO.out (by decide) Z1.out Z2.out (by have := bx.size; simp; omega) _ rfl ?_; intro g7 cap7 w7 o7 h7 l7 lt7))
      have B7 : Below w.heap.size w w7 := (bx.alloc bx.size _).grown h7 (by have := bx.size; simp; omega) (fun k hk => (O.out.lt k hk).1)
      refine ⟨⟨j + 1, g7, cap7, by omega, by go_num, rfl, ?_, B7⟩, by simp [intOf]; omega⟩
      rw [HLE.out]
      have : ics (lentI l j ++ [7777777 + (j : Int)]) = ics (lentI l j) ++ ics [7777777 + (j : Int)] := by simp [ics]
      rw [this]
      exact o7
    · have e : j = 3 := by omega
      subst e
      go_wp2_with (fail)
      go_ret
      exact ⟨g, cap, rfl, o, bx⟩
set_option maxHeartbeats 1600000 in
theorem samei_some (w : World) (b off cap b2 off2 cap2 : Nat) (l : List Int) (hv : ∀ j (h : j < l.length), w.cell? ⟨b, off + j, none⟩ = some (.int .i64 l[j])) (hv2 : ∀ j (h : j < l.length), w.cell? ⟨b2, off2 + j, none⟩ = some (.int .i64 l[j])) (hlen : l.length ≤ 1000000) :
    Calls Try.prog 36 #[.slice (some ⟨b, off, none⟩) l.length cap, .slice (some ⟨b2, off2, none⟩) l.length cap2] w fun e w' => e = .returned (.bool true) ∧ Below w.heap.size w w' := by
  go_enter Try.func36, Try.ntmps36
  go_wp2
  go_loopw [5] (fun i wr => ∃ j : Nat, j ≤ l.length ∧ i = .int .i64 j ∧ Below w.heap.size w wr) (fun i _ => l.length - (intOf i).toNat)
  case atStart => exact ⟨0, Nat.zero_le _, rfl, Below.refl _ _⟩
  case round =>
    obtain ⟨j, hj, rfl, hbel⟩ := hrel
    by_cases hlt : j < l.length
    · have d0 := keepC (Below.mono hbel (Nat.le_refl _)) (hv j hlt)
      have e0 := keepC (Below.mono hbel (Nat.le_refl _)) (hv2 j hlt)
      generalize l[j] = c at d0 e0
      clear hv hv2
      go_wp2
      go_quiet (fail)
      go_wp2
      go_roundw
      case rel => exact ⟨j + 1, by omega, by go_num, below_drewN hbel _⟩
      case measure => simp [intOf]; omega
    · go_wp2
      go_ret
      exact ⟨rfl, hbel⟩
set_option maxHeartbeats 800000 in
theorem samei_none (w : World) (a a2 : Option Addr) (cap cap2 : Nat) :
    Calls Try.prog 36 #[.slice a 0 cap, .slice a2 0 cap2] w fun e w' => e = .returned (.bool true) ∧ w' = w := by
  go_enter Try.func36, Try.ntmps36
  go_wp2
  refine wp_loop_rounds 1 ?_
  rw [rounds_succ]
  go_wp2
  go_ret
  exact ⟨rfl, rfl⟩
theorem samei_any (w : World) (v v2 : Value) (l : List Int) (h : IntsAt w v l) (h2 : IntsAt w v2 l) (hlen : l.length ≤ 1000000) :
    Calls Try.prog 36 #[v, v2] w fun e w' => e = .returned (.bool true) ∧ Below w.heap.size w w' := by
  obtain ⟨a, cap, rfl, _, hf⟩ := h
  obtain ⟨a2, cap2, rfl, _, hf2⟩ := h2
  by_cases h0 : l = []
  · subst h0
    refine (samei_none w a a2 cap cap2).mono ?_
    rintro e w' ⟨rfl, rfl⟩
    exact ⟨rfl, Below.refl _ _⟩
  · obtain ⟨b, off, rfl, hv⟩ := hf h0
    obtain ⟨b2, off2, rfl, hv2⟩ := hf2 h0
    exact samei_some w b off cap b2 off2 cap2 l hv hv2 hlen

set_option maxRecDepth 100000 in
theorem keptInts_any (w : World) (a : Option Addr) (c n : Nat) (l : List Int) (h : IntsAt w (.slice a n c) l) (hn : n = l.length) (hl : n ≤ 100000) (v : Value) (hv : IntsAt w v (lentI l 3)) :
    Calls Try.prog 10 #[v, .slice a n c] w fun e w' => e = .returned (.bool true) ∧ Below w.heap.size w w' := by
  have LE := hide (lentInts_any w a c n l h hn hl)
  have SE : Hid (∀ wx u, Below w.heap.size w wx → IntsAt wx u (lentI l 3) → Calls Try.prog 36 #[v, u] wx fun e w' => e = .returned (.bool true) ∧ Below wx.heap.size wx w') := fun wx u hx hu => samei_any wx v u _ (hv.later hx) hu (by rw [lentI_len]; omega)
  have HN : Hid (n + 3 = (lentI l 3).length) := by show _ = _; rw [lentI_len, hn]
  clear h hn hv
  go_enter Try.func10, Try.ntmps10
  go_wp2_with (first
    | (go_at_call 7; refine LE.out.mono ?_; rintro e w1 ⟨g1, c1, rfl, o1, b1⟩; clear LE)
    | (go_at_call 36; refine (SE.out _ _ b1 (by rw [HN.out] at o1 ⊢; exact ints_own o1)).mono ?_; rintro e w2 ⟨rfl, b2⟩))
  go_ret
  exact ⟨rfl, b1.trans (b2.mono b1.size)⟩
end Go.Proofs.Ytbdgdigpnfpnhaa
