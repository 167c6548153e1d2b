/-
  Bytes that are lent, and whether they are as they were: the calls of the kit.
-/
import Derived.Test.YtanhmebjfockjaaJKCopy
namespace Go.Proofs.Ytanhmebjfockjaa
open Go.RowKit

def lentB (l : List UInt8) : List UInt8 := l ++ [201, 202, 203]

theorem lentB_take (l : List UInt8) (j : Nat) (h : j < 3) : l ++ ([201, 202, 203] : List UInt8).take (j + 1) = l ++ ([201, 202, 203] : List UInt8).take j ++ [UInt8.ofNat (201 + j)] := by
  rcases (by omega : j = 0 ∨ j = 1 ∨ j = 2) with rfl | rfl | rfl <;> simp

set_option maxHeartbeats 800000 in
theorem lentBytes_any (w : World) (a0 : Option Addr) (c0 : Nat) (l : List UInt8) (h : BytesIn w (.slice a0 l.length c0) l) (hn : a0 = none → c0 = 0) (hlen : l.length ≤ 140737488351232) :
    Calls Try.prog 28 #[.slice a0 l.length c0] w fun e w' => ∃ g cap, e = .returned (.slice (some ⟨g, 0, none⟩) (l.length + 3) cap) ∧ Ext w.heap.size w (.slice none 0 0) w' (.slice (some ⟨g, 0, none⟩) (l.length + 3) cap) (lentB l) := by
  have CB : Hid (Calls Try.prog 69 #[.slice a0 l.length c0] w fun e w' => ∃ g cap, e = .returned (.slice (some ⟨g, 0, none⟩) l.length cap) ∧ Ext w.heap.size w (.slice none 0 0) w' (.slice (some ⟨g, 0, none⟩) l.length cap) l) := copyBytes_any w a0 c0 l h hn
  clear h hn
  go_enter Try.func28, Try.ntmps28
  go_wp2_with (go_at_call 69; refine CB.out.mono ?_; rintro e w1 ⟨g1, cap1, rfl, hx1⟩)
  clear CB
  go_loopw [3, 4] (fun x i wr => ∃ (j g cap L : Nat), j ≤ 3 ∧ i = .int .i64 j ∧ x = .slice (some ⟨g, 0, none⟩) L cap ∧ Hid (L = l.length + j) ∧ Ext w.heap.size w (.slice none 0 0) wr (.slice (some ⟨g, 0, none⟩) L cap) (l ++ ([201, 202, 203] : List UInt8).take j)) (fun _ i _ => 3 - (intOf i).toNat)
  case atStart => exact ⟨0, g1, cap1, l.length, by omega, rfl, rfl, rfl, by simpa using hx1⟩
  case round =>
    clear hx1
    obtain ⟨j, g, cap, L, hj, rfl, rfl, HL, hext⟩ := hrel
    have hsz := hext.size
    by_cases hlt : j < 3
    · obtain ⟨c, hc⟩ : ∃ c : UInt8, c = UInt8.ofNat (201 + j) := ⟨_, rfl⟩
      have E2 : Hid (l ++ ([201, 202, 203] : List UInt8).take (j + 1) = l ++ ([201, 202, 203] : List UInt8).take j ++ [c]) := by show _ = _; rw [hc]; exact lentB_take l j hlt
      have hcv : (c.toNat : Int) = 201 + (j : Int) := by rw [hc, UInt8.toNat_ofNat']; omega
      have hln : (l ++ ([201, 202, 203] : List UInt8).take j).length = l.length + j := by rw [List.length_append, List.length_take]; simp; omega
      have rm : (l ++ ([201, 202, 203] : List UInt8).take j).length + [c].length ≤ 140737488355328 := by rw [hln, List.length_singleton]; omega
      have HC : Hid ((c.toNat : Int) = 201 + (j : Int)) := hcv
      clear hc hcv
      have hbb : ∀ o, w.heap.size ≤ (wr.alloc o).heap.size := fun o => by simp; omega
      have hown : wr.ownsRow w.heap.size 5 1 (.slice (some ⟨g, 0, none⟩) L cap) (l ++ ([201, 202, 203] : List UInt8).take j).length (bc (l ++ ([201, 202, 203] : List UInt8).take j)) := hext.own
      have nw : ∀ X : Int, X = 201 + (j : Int) → ∀ i u, (bc [c])[i]? = some u → (wr.alloc (.cells #[.int .u8 X] 5)).cell? ((⟨wr.heap.size, 0, none⟩ : Addr).add i) = some u := fun X hX => by
        rw [hX, ← HC.out]
        exact cell_one_new _ _ _
      clear hln
      go_wp2_with (at_builtin; refine wpList_append_bytes _ rfl _ _ rfl w.heap.size _ _ [c] rfl (hown.alloc _) ⟨wr.heap.size, 0, none⟩ 1 1 rfl rfl (nw _ (by first | rfl | omega)) (Nat.succ_pos _) rm (hbb _) ?_; intro g2 cap2 L2 w2 HL2 hx2 hl2; have R := (hext.alloc _).trans hx2; clear hext hx2 hown nw)
      rw [← E2.out] at R
      have H3 : Hid (L2 = l.length + (j + 1)) := by show _ = _; rw [HL2.out, ← E2.out, List.length_append, List.length_take]; simp; omega
      go_roundw
      case rel => exact ⟨j + 1, g2, cap2, L2, by omega, by go_num, rfl, H3, R⟩
      case measure => simp [intOf]; omega
    · have e3 : j = 3 := by omega
      subst e3
      go_wp2
      go_ret
      have e := HL.out
      subst e
      exact ⟨g, cap, rfl, hext⟩
theorem lentB_length (l : List UInt8) : (lentB l).length = l.length + 3 := by unfold lentB; rw [List.length_append]; rfl

/-- Are the bytes that were lent as they were? -/
theorem keptBytes_any (w : World) (v : Value) (l : List UInt8) (hv : BytesIn w v (lentB l)) (a0 : Option Addr) (c0 : Nat) (h : BytesIn w (.slice a0 l.length c0) l) (hn : a0 = none → c0 = 0) (hl : l.length ≤ 140737488351232) :
    Calls Try.prog 37 #[v, .slice a0 l.length c0] w fun e w' => e = .returned (.bool true) ∧ Below w.heap.size w w' := by
  have P1 : Hid (Calls Try.prog 28 #[.slice a0 l.length c0] w fun e w' => ∃ g cap, e = .returned (.slice (some ⟨g, 0, none⟩) (l.length + 3) cap) ∧ Ext w.heap.size w (.slice none 0 0) w' (.slice (some ⟨g, 0, none⟩) (l.length + 3) cap) (lentB l)) := lentBytes_any w a0 c0 l h hn hl
  have P2 : Hid (∀ wx u, BytesIn wx u (lentB l) → Below w.heap.size w wx → Calls Try.prog 35 #[v, u] wx fun e w' => e = .returned (.bool true) ∧ Below wx.heap.size wx w') := fun wx u hu hw => by
    have := same_any wx v u _ _ (hv.later hw) hu
    rwa [decide_eq_true rfl] at this
  have hl3 : (lentB l).length ≤ 140737488355328 := by rw [lentB_length]; omega
  have HL3 : Hid ((lentB l).length ≤ 140737488355328) := hl3
  clear hv h hn hl3
  go_enter Try.func37, Try.ntmps37
  go_wp2_with (first
    | (go_at_call 28; refine P1.out.mono ?_; rintro e w1 ⟨g1, cap1, rfl, hx1⟩; have hb1 := hx1.below (Nat.le_refl _) (by simp [Value.ownBlock]); have hv1 := bytes_of_own hx1.own HL3.out; clear P1 hx1)
    | (go_at_call 35; refine (P2.out _ _ hv1 hb1).mono ?_; rintro e w2 ⟨rfl, hb2⟩))
  go_ret
  exact ⟨rfl, hb1.trans (hb2.mono hb1.size)⟩
end Go.Proofs.Ytanhmebjfockjaa
