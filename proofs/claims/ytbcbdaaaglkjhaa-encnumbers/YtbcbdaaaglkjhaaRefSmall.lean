/-
  The document's own reading of a number up to a greatest one; and whether bytes that were lent are as they were.
-/
import Derived.Test.YtbcbdaaaglkjhaaRefRead
namespace Go.Proofs.Ytbcbdaaaglkjhaa
open Go.RowKit

set_option maxHeartbeats 1600000 in
theorem refSmall_any (w : World) (v : Value) (l : List UInt8) (most : Int) (hm : most ≤ 9223372036854775807) (hm0 : -9223372036854775808 ≤ most) (h : BytesIn w v l) :
    Calls Try.prog 22 #[v, .int .i64 most] w fun e w' => e = .returned (.tuple #[.int .i64 (smX l most), .int .i64 (smN l most), .int .i64 (smE l most)]) ∧ Below w.heap.size w w' := by
  have RD : Hid (Calls Try.prog 20 #[v] w fun e w' => e = .returned (.tuple #[.int .u64 ((rd l).1 : Int), .int .i64 ((rd l).2.1 : Int), .int .i64 ((rd l).2.2 : Int)]) ∧ Below w.heap.size w w') := refRead_any w v l h
  have F : ∀ c, ((rd l).2.2 = 0 ∧ 0 ≤ most ∧ ((rd l).1 : Int) ≤ most) = c → Hid (c → smX l most = ((rd l).1 : Int) ∧ smN l most = ((rd l).2.1 : Int) ∧ smE l most = 0) ∧ Hid (¬ c → smX l most = 0 ∧ smN l most = 0 ∧ smE l most = 5) := by
    rintro c rfl
    exact ⟨fun h => ⟨if_pos h, if_pos h, if_pos h⟩, fun h => ⟨if_neg h, if_neg h, if_neg h⟩⟩
  obtain ⟨F1, F2⟩ := F _ rfl
  clear F h
  have hlt := rd_lt l
  have he := rd_err l
  obtain ⟨X, hX⟩ : ∃ X, X = (rd l).1 := ⟨_, rfl⟩
  obtain ⟨N, hN⟩ : ∃ N, N = (rd l).2.1 := ⟨_, rfl⟩
  obtain ⟨E, hE⟩ : ∃ E, E = (rd l).2.2 := ⟨_, rfl⟩
  obtain ⟨sx, hsx⟩ : ∃ s, s = smX l most := ⟨_, rfl⟩
  obtain ⟨sn, hsn⟩ : ∃ s, s = smN l most := ⟨_, rfl⟩
  obtain ⟨se, hse⟩ : ∃ s, s = smE l most := ⟨_, rfl⟩
  rw [← hX, ← hN, ← hE] at RD F1
  rw [← hX, ← hE] at F2
  rw [← hsx, ← hsn, ← hse] at F1 F2 ⊢
  rw [← hX] at hlt
  rw [← hE] at he
  clear hX hN hE hsx hsn hse
  rcases he with rfl | rfl
  · by_cases h1 : 0 ≤ most
    · have h1' : ¬ most < 0 := by omega
      have hw : IntKind.u64.wrap most = most := by rw [IntKind.wrap_u64]; omega
      by_cases h2 : (X : Int) ≤ most
      · have h2' : ¬ most < (X : Int) := by omega
        have hwx : IntKind.i64.wrap (X : Int) = (X : Int) := by simp only [IntKind.wrap, IntKind.bits, IntKind.signed]; simp; omega
        obtain ⟨rfl, rfl, rfl⟩ := F1.out ⟨rfl, h1, h2⟩
        clear F1 F2
        go_enter Try.func22, Try.ntmps22
        go_wp2_with (go_at_call 20; refine RD.out.mono ?_; rintro e w' ⟨rfl, hb⟩)
        go_ret3
        exact ⟨rfl, hb⟩
      · have h2' : most < (X : Int) := by omega
        obtain ⟨rfl, rfl, rfl⟩ := F2.out (fun h => h2 h.2.2)
        clear F1 F2
        go_enter Try.func22, Try.ntmps22
        go_wp2_with (go_at_call 20; refine RD.out.mono ?_; rintro e w' ⟨rfl, hb⟩)
        go_ret3
        exact ⟨rfl, hb⟩
    · have h1' : most < 0 := by omega
      obtain ⟨rfl, rfl, rfl⟩ := F2.out (fun h => h1 h.2.1)
      clear F1 F2
      go_enter Try.func22, Try.ntmps22
      go_wp2_with (go_at_call 20; refine RD.out.mono ?_; rintro e w' ⟨rfl, hb⟩)
      go_ret3
      exact ⟨rfl, hb⟩
  · obtain ⟨rfl, rfl, rfl⟩ := F2.out (fun h => by cases h.1)
    clear F1 F2
    go_enter Try.func22, Try.ntmps22
    go_wp2_with (go_at_call 20; refine RD.out.mono ?_; rintro e w' ⟨rfl, hb⟩)
    go_ret3
    exact ⟨rfl, hb⟩

theorem bytes_of_own {w : World} {base : Nat} {v : Value} {l : List UInt8} (h : w.ownsRow base 5 1 v l.length (bc l)) (hl : l.length ≤ 140737488355328) : BytesIn w v l := by
  rcases h.2 with ⟨rfl, h0⟩ | ⟨g, cap, cur, rfl, _⟩
  · exact ⟨⟨none, 0, by rw [h0], fun hne => absurd (List.eq_nil_of_length_eq_zero h0) hne⟩, hl⟩
  · refine ⟨⟨_, cap, rfl, fun _ => ⟨g, 0, rfl, fun j hj => ?_⟩⟩, hl⟩
    rw [Nat.zero_add, h.cellAt j (by omega), bc_get l j hj]

theorem lentB_length (l : List UInt8) : (lentB l).length = l.length + 3 := by unfold lentB; rw [List.length_append]; rfl

/-- Are the bytes that were lent as they were? -/
theorem keptBytes_any (w : World) (v : Value) (l : List UInt8) (hv : BytesIn w v (lentB l)) (a0 : Option Addr) (c0 : Nat) (h : BytesIn w (.slice a0 l.length c0) l) (hn : a0 = none → c0 = 0) (hl : l.length ≤ 140737488351232) :
    Calls Try.prog 24 #[v, .slice a0 l.length c0] w fun e w' => e = .returned (.bool true) ∧ Below w.heap.size w w' := by
  have P1 : Hid (Calls Try.prog 18 #[.slice a0 l.length c0] w fun e w' => ∃ g cap, e = .returned (.slice (some ⟨g, 0, none⟩) (l.length + 3) cap) ∧ Ext w.heap.size w (.slice none 0 0) w' (.slice (some ⟨g, 0, none⟩) (l.length + 3) cap) (lentB l)) := lentBytes_any w a0 c0 l h hn hl
  have P2 : Hid (∀ wx u, BytesIn wx u (lentB l) → Below w.heap.size w wx → Calls Try.prog 16 #[v, u] wx fun e w' => e = .returned (.bool true) ∧ Below wx.heap.size wx w') := fun wx u hu hw => by
    have := same_any wx v u _ _ (hv.later hw) hu
    rwa [decide_eq_true rfl] at this
  have hl3 : (lentB l).length ≤ 140737488355328 := by rw [lentB_length]; omega
  have HL3 : Hid ((lentB l).length ≤ 140737488355328) := hl3
  clear hv h hn hl3
  go_enter Try.func24, Try.ntmps24
  go_wp2_with (first
    | (go_at_call 18; refine P1.out.mono ?_; rintro e w1 ⟨g1, cap1, rfl, hx1⟩; have hb1 := hx1.below (Nat.le_refl _) (by simp [Value.ownBlock]); have hv1 := bytes_of_own hx1.own HL3.out; clear P1 hx1)
    | (go_at_call 16; refine (P2.out _ _ hv1 hb1).mono ?_; rintro e w2 ⟨rfl, hb2⟩))
  go_ret
  exact ⟨rfl, hb1.trans (hb2.mono hb1.size)⟩
end Go.Proofs.Ytbcbdaaaglkjhaa
