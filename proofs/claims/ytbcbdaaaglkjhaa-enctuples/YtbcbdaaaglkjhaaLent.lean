/-
  A list of values that is lent: a copy with three more values behind, in new memory; and whether one is as it was lent.
-/
import Derived.Test.YtbcbdaaaglkjhaaBegins
import Derived.Test.YtbcbdaaaglkjhaaSameVals
namespace Go.Proofs.Ytbcbdaaaglkjhaa
open Go.RowKit

def behind : Val := ⟨2, 99, ByteArray.empty⟩
def lentL (vs : List Val) : List Val := vs ++ [behind, behind, behind]

theorem one_in (w : World) (v : Val) (hv : v.wf) : ValsIn (w.alloc (.cells #[.int .u8 v.k, .int .i64 v.n, .string v.t] 32)) (.slice (some ⟨w.heap.size, 0, none⟩) 1 1) [v] := by
  refine ⟨⟨_, 1, rfl, fun _ => ⟨_, _, rfl, ?_⟩⟩, by simpa using hv, by simp⟩
  intro j hj
  have e : j = 0 := by simp at hj; omega
  subst e
  simp [go_sem]

theorem behind_wf : behind.wf := ⟨by decide, by decide, by decide, by decide, by decide⟩

set_option maxHeartbeats 1600000 in
theorem lent_any (w : World) (ao : Option Addr) (c : Nat) (vs : List Val) (h : ValsIn w (.slice ao vs.length c) vs) (hn : ao = none → c = 0) (hl : vs.length ≤ 1000000) :
    Calls Try.prog 26 #[.slice ao vs.length c] w fun e w' => ∃ g cap, e = .returned (.slice (some ⟨g, 0, none⟩) (vs.length + 3) cap) ∧ vs.length + 3 ≤ cap ∧ ValsIn w' (.slice (some ⟨g, 0, none⟩) (vs.length + 3) cap) (lentL vs) ∧ Below w.heap.size w w' := by
  go_enter Try.func26, Try.ntmps26
  have O1 := World.ownsRow_lit (size := 3) (e := 32) (base := w.heap.size) w #[] 0 (Nat.le_refl _) (by decide) rfl
  have K1 : Below w.heap.size w (w.alloc (.cells #[] 32)) := (Below.refl _ _).alloc (Nat.le_refl _) _
  have V1 := h.later K1
  have Y1 : ([] : List Val).length + vs.length ≤ 4398046511104 := by rw [List.length_nil]; omega
  go_wp2_with (at_builtin; refine wpList_append_vals _ rfl _ _ rfl w.heap.size w.heap.size 0 [] vs 0 vs.length c rfl rfl rfl O1 ao rfl V1 hn Y1 K1.size ?_; intro g1 cap1 w1 L1 h1 o1 f1; obtain ⟨B1, X1⟩ := f1 w.heap.size w K1 K1.size (Nat.le_refl _); have H1 : Hid (L1 = (([] : List Val) ++ vs).length) := h1; clear O1 V1 h1 f1)
  have N1 : Hid (L1 = vs.length) := by show _ = _; rw [H1.out, List.nil_append]
  rw [List.nil_append] at o1
  have LV : Hid (∀ v ∈ vs, v.wf) := h.wf
  clear H1 h hn Y1 K1
  go_loopw [3, 4] (fun x i wr => ∃ (j g cap L : Nat), j ≤ 3 ∧ i = .int .i64 j ∧ x = .slice (some ⟨g, 0, none⟩) L cap ∧ Hid (L = vs.length + j) ∧ wr.ownsRow w.heap.size 32 3 (.slice (some ⟨g, 0, none⟩) L cap) L (vc (vs ++ List.replicate j behind)) ∧ Below w.heap.size w wr ∧ w.heap.size ≤ g) (fun _ i _ => 3 - (intOf i).toNat)
  case atStart => exact ⟨0, g1, cap1, L1, by omega, rfl, rfl, N1.out, by simpa using o1, B1, X1⟩
  case round =>
    clear o1 B1 X1 N1
    obtain ⟨j, g, cap, L, hj, rfl, rfl, HL, hown, hbel, hg⟩ := hrel
    have hsz := hbel.size
    by_cases hlt : j < 3
    · have E1 : Hid (L = (vs ++ List.replicate j behind).length) := by show _ = _; rw [HL.out, List.length_append, List.length_replicate]
      have K2 : Below w.heap.size w (wr.alloc (.cells #[.int .u8 2, .int .i64 99, .string ⟨#[]⟩] 32)) := hbel.alloc hsz _
      have V2 : ValsIn (wr.alloc (.cells #[.int .u8 2, .int .i64 99, .string ⟨#[]⟩] 32)) (.slice (some ⟨wr.heap.size, 0, none⟩) 1 1) [behind] := one_in wr behind behind_wf
      have Y2 : (vs ++ List.replicate j behind).length + [behind].length ≤ 4398046511104 := by rw [List.length_append, List.length_replicate, List.length_singleton]; omega
      have E2 : Hid ((vs ++ List.replicate j behind ++ [behind]) = vs ++ List.replicate (j + 1) behind) := by show _ = _; rw [List.append_assoc, List.replicate_succ']
      have hown' := hown.alloc (.cells #[.int .u8 2, .int .i64 99, .string ⟨#[]⟩] 32)
      clear hown
      go_wp2_with (at_builtin; refine wpList_append_vals _ rfl _ _ rfl w.heap.size g cap (vs ++ List.replicate j behind) [behind] L 1 1 E1.out rfl rfl hown' (some ⟨wr.heap.size, 0, none⟩) rfl V2 (fun e => (by cases e)) Y2 K2.size ?_; intro g2 cap2 w2 L2 h2 o2 f2; obtain ⟨B2, X2⟩ := f2 w.heap.size w K2 K2.size hg; have H2 : Hid (L2 = (vs ++ List.replicate j behind ++ [behind]).length) := h2; clear h2 f2 V2 K2 hown')
      rw [E2.out] at o2
      have H3 : Hid (L2 = vs.length + (j + 1)) := by show _ = _; rw [H2.out, E2.out, List.length_append, List.length_replicate]
      go_roundw
      case rel => exact ⟨j + 1, g2, cap2, L2, by omega, by go_num, rfl, H3, o2, B2, X2⟩
      case measure => simp [intOf]; omega
    · have e3 : j = 3 := by omega
      subst e3
      go_wp2
      go_ret
      have e := HL.out
      subst e
      have hc : vs.length + 3 ≤ cap := by
        rcases hown.2 with ⟨e, _⟩ | ⟨g1, cap1, cur, e, _, _, h1, _⟩
        · cases e
        · simp only [Value.slice.injEq, true_and] at e; rw [e.2]; exact h1
      refine ⟨g, cap, rfl, hc, ?_, hbel⟩
      have e2 : (vs ++ List.replicate 3 behind).length = vs.length + 3 := by rw [List.length_append, List.length_replicate]
      have hv : ∀ x ∈ vs ++ List.replicate 3 behind, x.wf := by
        intro x hx
        rcases List.mem_append.mp hx with h | h
        · exact LV.out x h
        · rw [List.eq_of_mem_replicate h]; exact behind_wf
      exact vals_of_own (vs := vs ++ List.replicate 3 behind) (by rw [e2]; exact hown) hv (by omega)

/-- Is the list that was lent as it was? -/
theorem kept_any (w : World) (v : Value) (l : List Val) (hv : ValsIn w v l) (ao : Option Addr) (c : Nat) (vs : List Val) (h : ValsIn w (.slice ao vs.length c) vs) (hn : ao = none → c = 0) (hl : vs.length ≤ 1000000) (he : l = lentL vs) :
    Calls Try.prog 35 #[v, .slice ao vs.length c] w fun e w' => e = .returned (.bool true) ∧ Below w.heap.size w w' := by
  subst he
  have P1 : Hid (Calls Try.prog 26 #[.slice ao vs.length c] w fun e w' => ∃ g cap, e = .returned (.slice (some ⟨g, 0, none⟩) (vs.length + 3) cap) ∧ vs.length + 3 ≤ cap ∧ ValsIn w' (.slice (some ⟨g, 0, none⟩) (vs.length + 3) cap) (lentL vs) ∧ Below w.heap.size w w') := lent_any w ao c vs h hn hl
  have P2 : Hid (∀ wx u, ValsIn wx u (lentL vs) → Below w.heap.size w wx → Calls Try.prog 31 #[v, u] wx fun e w' => e = .returned (.bool true) ∧ Below wx.heap.size wx w') := fun wx u hu hw => by
    have := sameV_any wx v u _ _ (hv.later hw) hu
    rwa [(sameL_iff _ _).mpr rfl] at this
  clear hv h hn
  go_enter Try.func35, Try.ntmps35
  go_wp2_with (first
    | (go_at_call 26; refine P1.out.mono ?_; rintro e w1 ⟨g1, cap1, rfl, hc1, hv1, hb1⟩; clear P1)
    | (go_at_call 31; refine (P2.out _ _ hv1 hb1).mono ?_; rintro e w2 ⟨rfl, hb2⟩))
  go_ret
  exact ⟨rfl, hb1.trans (hb2.mono hb1.size)⟩
end Go.Proofs.Ytbcbdaaaglkjhaa
