/-
  The document's own text of a tuple: the same as the program's, of every slice of values.
-/
import Derived.Test.YtbcbdaaaglkjhaaRefText
import Derived.Test.YtbcbdaaaglkjhaaTuple
namespace Go.Proofs.Ytbcbdaaaglkjhaa
open Go.RowKit

theorem Ext.some {base : Nat} {a b : World} {u v : Value} {l : List UInt8} (h : Ext base a u b v l) (hl : l ≠ []) : ∃ g cap, v = .slice (some ⟨g, 0, none⟩) l.length cap := by
  rcases h.own.2 with ⟨_, h0⟩ | ⟨g, cap, cur, rfl, _⟩
  · exact absurd (List.eq_nil_of_length_eq_zero h0) hl
  · exact ⟨g, cap, rfl⟩

theorem vtext_ne (k n : Int) (t : ByteArray) : vtext k n t ≠ [] := by
  unfold vtext
  repeat' split
  all_goals simp

theorem vtext_le (v : Val) (h : v.may = true) : (vtext v.k v.n v.t).length ≤ 131 := text_length v h

set_option maxHeartbeats 800000 in
theorem refTuple_some (w : World) (b off cap : Nat) (vs : List Val) (hwf : ∀ v ∈ vs, v.wf) (hv : ValsAt w b off vs) (hlen : vs.length ≤ 16) :
    Calls Try.prog 27 #[.slice (some ⟨b, off, none⟩) vs.length cap] w fun e w' => e = .returned (.tuple #[.string (tupS vs), .int .i64 (tupE vs)]) ∧ Below w.heap.size w w' := by
  go_enter Try.func27, Try.ntmps27
  go_wp2
  go_loopw [4, 5] (fun l i wr => ∃ (j : Nat) (m : List UInt8), j ≤ vs.length ∧ i = .int .i64 j ∧ Ext w.heap.size w (.slice none 0 0) wr l m ∧ m = tupB (vs.take j) ∧ (vs.take j).all Val.may = true) (fun _ i _ => vs.length - (intOf i).toNat)
  case atStart => exact ⟨0, [], Nat.zero_le _, rfl, Ext.nil _ _, by simp [tupB], by simp⟩
  case round =>
    obtain ⟨j, m, hj, rfl, hext, hm, hall⟩ := hrel
    have hl : m.length ≤ 100000 := by
      have h1 := tupB_length _ hall
      have h2 : (vs.take j).length ≤ j := List.length_take_le _ _
      rw [hm]; omega
    have HM : Hid (m = tupB (vs.take j)) := hm
    have HA : Hid ((vs.take j).all Val.may = true) := hall
    clear hm hall
    have hs := hext.size
    by_cases hlt : j < vs.length
    · obtain ⟨c0, c1, c2⟩ := hv j hlt
      have d0 := hext.keeps c0 (by simp [Value.ownBlock])
      have d1 := hext.keeps c1 (by simp [Value.ownBlock])
      have d2 := hext.keeps c2 (by simp [Value.ownBlock])
      clear c0 c1 c2
      have W := hwf _ (List.getElem_mem hlt)
      have W1 := W.n0
      have W2 := W.n1
      have W3 := W.t1
      have HT : Hid ((vs.take (j + 1)).all Val.may = (vs[j]).may) := by
        show _ = _
        rw [List.take_succ_eq_append_getElem hlt, List.all_append, HA.out]; simp
      have HB : Hid (tupB (vs.take (j + 1)) = tupB (vs.take j) ++ (vs[j]).text) := tupB_snoc vs j hlt
      clear W
      by_cases hmay : mayV (vs[j]).k (vs[j]).n (vs[j]).t = true
      · have hchk : chk (vs[j]).k (vs[j]).n (vs[j]).t = 0 := by unfold chk; rw [hmay]; rfl
        have HMY : Hid (mayV (vs[j]).k (vs[j]).n (vs[j]).t = true) := hmay
        clear hmay
        have hvl := vtext_le _ HMY.out
        have rm : m.length + (vtext (vs[j]).k (vs[j]).n (vs[j]).t).length ≤ 140737488355328 := by omega
        have vp : 0 < (vtext (vs[j]).k (vs[j]).n (vs[j]).t).length := List.length_pos_iff.mpr (vtext_ne _ _ _)
        go_wp2_with (first
          | (go_at_call 34; refine (refCheck_any _ _ _ _ W3).mono ?_; rintro e wc ⟨rfl, hwc⟩; have KC : Below wr.heap.size wr wc := (by rw [hwc]; exact (Below.refl _ _).alloc (Nat.le_refl _) _); have hextc : Ext w.heap.size w (.slice none 0 0) wc _ m := (by rw [hwc]; exact hext.alloc _); have e0 := (KC.cell (World.block_lt_of_cell? wr _ d0)).trans d0; have e1 := (KC.cell (World.block_lt_of_cell? wr _ d1)).trans d1; have e2 := (KC.cell (World.block_lt_of_cell? wr _ d2)).trans d2; clear hwc hext)
          | (go_at_call 54; refine (refText_any _ _ _ _ W1 W2 HMY.out).mono ?_; rintro e w2 ⟨v2, rfl, hx2⟩; obtain ⟨g2, cap2, rfl⟩ := hx2.some (vtext_ne _ _ _); have R0 := hextc.beside hx2; have nw := own_cells hx2.own; have hb2 : w.heap.size ≤ w2.heap.size := R0.size; clear hextc)
          | (at_builtin; refine wpList_append_bytes _ rfl _ _ rfl w.heap.size _ m _ rfl R0.own ⟨g2, 0, none⟩ _ cap2 rfl rfl nw vp rm hb2 ?_; intro g3 cap3 L3 w3 HL3 hx3 hl3; have R := R0.trans hx3; clear R0 hx2 hx3 nw))
        go_roundw
        case rel => exact ⟨j + 1, _, by omega, by go_num, R, by rw [HM.out, HB.out]; rfl, by rw [HT.out]; exact HMY.out⟩
        case measure => simp [intOf]; omega
      · have hchk : chk (vs[j]).k (vs[j]).n (vs[j]).t = 2 := by unfold chk; rw [if_neg hmay]
        have hno : (vs[j]).may = false := by simpa [Val.may] using hmay
        have hte : tupE vs = 2 := by
          unfold tupE
          rw [if_neg (by omega), if_neg]
          intro h
          have := List.all_eq_true.mp h _ (List.getElem_mem hlt)
          rw [hno] at this; cases this
        have HE : Hid (tupE vs = 2) := hte
        clear hmay hno hte
        go_wp2_with (go_at_call 34; refine (refCheck_any _ _ _ _ W3).mono ?_; rintro e w' ⟨rfl, rfl⟩)
        go_ret2
        have E2 := HE.out
        exact ⟨by unfold tupS; rw [E2]; rfl, ((Below.refl _ _).grown hext.grown (Nat.le_refl _) (by simp [Value.ownBlock])).alloc (by omega) _⟩
    · have e : j = vs.length := by omega
      have HE : Hid (tupE vs = 0) := by
        show _ = _
        have h := HA.out
        rw [List.take_of_length_le (by omega)] at h
        unfold tupE
        rw [if_neg (by omega), if_pos h]
      have HS : Hid ((⟨m.toArray⟩ : ByteArray) = tupS vs) := by
        show _ = _
        unfold tupS
        rw [if_pos HE.out, HM.out, List.take_of_length_le (by omega)]
      have hcv := hext.str
      go_wp2
      go_ret2
      exact ⟨by rw [HE.out, ← HS.out]; rfl, (Below.refl _ _).grown hext.grown (Nat.le_refl _) (by simp [Value.ownBlock])⟩

set_option maxHeartbeats 400000 in
theorem refTuple_long (w : World) (a : Option Addr) (cap n : Nat) (hn : 16 < n) (hlen : n ≤ 1099511627776000) :
    Calls Try.prog 27 #[.slice a n cap] w fun e w' => e = .returned (.tuple #[.string ByteArray.empty, .int .i64 3]) ∧ w' = w := by
  have h : (16 : Int) < (n : Int) := by omega
  go_enter Try.func27, Try.ntmps27
  go_wp2
  go_ret2
  exact ⟨rfl, rfl⟩

set_option maxHeartbeats 400000 in
theorem refTuple_none (w : World) (a : Option Addr) (cap : Nat) :
    Calls Try.prog 27 #[.slice a 0 cap] w fun e w' => e = .returned (.tuple #[.string ByteArray.empty, .int .i64 0]) ∧ w' = w := by
  have hcv := run_convert_bytes_nil w 22 5 Try.underlying22 Try.underlying5 0 0 9 Try.underlying9
  go_enter Try.func27, Try.ntmps27
  go_wp2
  refine wp_loop_rounds 1 ?_
  rw [rounds_succ]
  go_wp2
  go_ret2
  exact ⟨rfl, rfl⟩

theorem refTuple_any (w : World) (v : Value) (vs : List Val) (h : ValsIn w v vs) :
    Calls Try.prog 27 #[v] w fun e w' => e = .returned (.tuple #[.string (tupS vs), .int .i64 (tupE vs)]) ∧ Below w.heap.size w w' := by
  obtain ⟨⟨a, cap, rfl, hf⟩, hwf, hlen⟩ := h
  by_cases h16 : 16 < vs.length
  · refine (refTuple_long w a cap vs.length h16 hlen).mono ?_
    rintro e w' ⟨rfl, rfl⟩
    have : tupE vs = 3 := by unfold tupE; rw [if_pos h16]
    exact ⟨by unfold tupS; rw [this]; rfl, Below.refl _ _⟩
  · by_cases h0 : vs = []
    · subst h0
      refine (refTuple_none w a cap).mono ?_
      rintro e w' ⟨rfl, rfl⟩
      exact ⟨rfl, Below.refl _ _⟩
    · obtain ⟨b, off, rfl, hv⟩ := hf h0
      exact refTuple_some w b off cap vs hwf hv (by omega)
end Go.Proofs.Ytbcbdaaaglkjhaa
