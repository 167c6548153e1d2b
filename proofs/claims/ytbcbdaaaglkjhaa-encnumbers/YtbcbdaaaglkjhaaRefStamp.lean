/-
  The document's own answers of stamps and spans, as the calls that say them give them: the same, of every stamp, text and span.
-/
import Derived.Test.YtbcbdaaaglkjhaaStampFacts
import Derived.Test.YtbcbdaaaglkjhaaAfter
namespace Go.Proofs.Ytbcbdaaaglkjhaa
open Go.RowKit

set_option maxHeartbeats 400000 in
theorem eight_any (w : World) (x : Nat) :
    Calls Try.prog 57 #[.int .u64 (x : Int)] w fun e w' => ∃ v', e = .returned v' ∧ Ext w.heap.size w (.slice none 0 0) w' v' (high x 8) := by
  obtain ⟨i0, hi, hz0, hz1, hz2⟩ := info_parts Try.info5
  go_enter Try.func57, Try.ntmps57
  go_wp2
  go_loopw [3, 4] (fun b i wr => ∃ (j : Nat) (m : List UInt8), j ≤ 8 ∧ i = .int .i64 j ∧ Ext w.heap.size w (.slice none 0 0) wr b m ∧ m = (high x 8).take j) (fun _ i _ => 8 - (intOf i).toNat)
  case atStart => exact ⟨0, [], Nat.zero_le _, rfl, Ext.nil _ _, by simp⟩
  case round =>
    obtain ⟨j, m, hj, rfl, hext, hm⟩ := hrel
    have hl : m.length ≤ 8 := by have := List.length_take_le j (high x 8); rw [hm]; omega
    have HM : Hid (m = (high x 8).take j) := hm
    clear hm
    by_cases hlt : j < 8
    · have hs := hext.size
      obtain ⟨c, hc⟩ : ∃ c : UInt8, c = UInt8.ofNat (x / 2 ^ (8 * (8 - 1 - j))) := ⟨_, rfl⟩
      have hcv : (c.toNat : Int) = (x : Int) / 2 ^ (56 - 8 * j) % 256 := by rw [hc, ofNat_cell_div, show 8 * (8 - 1 - j) = 56 - 8 * j from by omega]
      have HT : Hid ((high x 8).take (j + 1) = m ++ [c]) := by show _ = _; rw [high_take_succ x 8 j hlt, HM.out, hc]
      have HC : Hid ((c.toNat : Int) = (x : Int) / 2 ^ (56 - 8 * j) % 256) := hcv
      clear hc hcv
      go_wp2_with (at_builtin; refine wpList_append_lies _ rfl (.tmp 9) (.tmp 16) 22 rfl w.heap.size 5 i0 (.int .u8 0) 1 1 Try.underlying22 hi hz0 hz1 hz2 rfl (by decide) _ _ _ rfl (hext.own.alloc _) ⟨wr.heap.size, 0, none⟩ 1 1 [.int .u8 ((x : Int) / 2 ^ (56 - 8 * j) % 256)] rfl rfl (cell_one_new _ _ _) ?c2 (by decide) ?c3 ?c4 ?c5 _ rfl ?_)
      case c2 => intro u hu; simp at hu; subst hu; rfl
      case c3 => unfold maxLen; omega
      case c4 => omega
      case c5 => simp; omega
      · intro g cap w1 hown1 hgrow1 hat1 hlt1
        have R := hext.push (m := [c]) rfl rfl (by simp only [bc, List.map_cons, List.map_nil, HC.out]; exact hown1) hgrow1 (by simpa using hat1)
        clear hown1 hgrow1 hat1 hlt1 hext hs
        go_wp2
        go_roundw
        case rel => exact ⟨j + 1, _, by omega, by go_num, R, HT.out.symm⟩
        case measure => simp [intOf]; omega
    · go_wp2
      go_ret
      have hm := HM.out
      rw [List.take_of_length_le (by rw [high_length]; omega)] at hm
      subst hm
      exact ⟨_, rfl, hext⟩

theorem eight_int (w : World) (X : Int) (hX : 0 ≤ X) :
    Calls Try.prog 57 #[.int .u64 X] w fun e w' => ∃ g cap, e = .returned (.slice (some ⟨g, 0, none⟩) 8 cap) ∧ 8 ≤ cap ∧ Ext w.heap.size w (.slice none 0 0) w' (.slice (some ⟨g, 0, none⟩) 8 cap) (high X.toNat 8) := by
  obtain ⟨x, rfl⟩ := Int.eq_ofNat_of_zero_le hX
  refine (eight_any w x).mono ?_
  rintro e w' ⟨v', rfl, hx⟩
  have ho := hx.own.2
  rw [high_length] at ho
  rcases ho with ⟨_, h0⟩ | ⟨g, cap, cur, rfl, _, _, hc, _⟩
  · omega
  · exact ⟨g, cap, rfl, hc, hx⟩

theorem high_drop4 (x : Nat) : (high x 8).drop 4 = high x 4 := by
  rw [high_succ, high_succ, high_succ, high_succ]; rfl

/-- The last four of eight bytes. -/
theorem tail_cells {w : World} {base g cap : Nat} {x : Nat} (h : w.ownsRow base 5 1 (.slice (some ⟨g, 0, none⟩) 8 cap) (high x 8).length (bc (high x 8))) :
    ∀ j u, (bc (high x 4))[j]? = some u → w.cell? ((⟨g, 4, none⟩ : Addr).add j) = some u := by
  intro j u hu
  rw [high_length] at h
  have hadd : (⟨g, 4, none⟩ : Addr).add j = ⟨g, 4 + j, none⟩ := by unfold Addr.add; split <;> simp_all
  have hj : j < 4 := by
    rcases Nat.lt_or_ge j 4 with h | h
    · exact h
    · rw [List.getElem?_eq_none (by rw [bc_length, high_length]; exact h)] at hu; cases hu
  rw [hadd, h.cellAt (4 + j) (by omega), ← hu, ← high_drop4]
  simp [bc, List.getElem?_drop]

theorem Ext.kept_own {base base2 : Nat} {a b c : World} {u v y : Value} {l m : List UInt8} (h : Ext base a u b v l) (k : Ext base2 b (.slice none 0 0) c y m) : c.ownsRow base 5 1 v l.length (bc l) :=
  h.own.kept k.grown (by cases v.ownBlock with | none => exact .inl rfl | some g => exact .inr (by simp [Value.ownBlock]))

set_option maxHeartbeats 1000000 in
theorem refStamp_no (w : World) (a b c : Int) (h : a < 0 ∨ (0 ≤ a ∧ 1099511627776 < a) ∨ (0 ≤ a ∧ a ≤ 1099511627776 ∧ b < 0) ∨ (0 ≤ a ∧ a ≤ 1099511627776 ∧ 0 ≤ b ∧ 1048576 < b) ∨ (0 ≤ a ∧ a ≤ 1099511627776 ∧ 0 ≤ b ∧ b ≤ 1048576 ∧ c < 0) ∨ (0 ≤ a ∧ a ≤ 1099511627776 ∧ 0 ≤ b ∧ b ≤ 1048576 ∧ 0 ≤ c ∧ 1048576 < c)) :
    Calls Try.prog 36 #[.agg #[.int .i64 a, .int .i32 b, .int .i32 c]] w fun e w' => e = .returned (.tuple #[.string ByteArray.empty, .int .i64 2]) ∧ Below w.heap.size w w' := by
  rcases h with h | ⟨h1, h⟩ | ⟨h1, h2, h⟩ | ⟨h1, h2, h3, h⟩ | ⟨h1, h2, h3, h4, h⟩ | ⟨h1, h2, h3, h4, h5, h⟩
  all_goals
    go_enter Try.func36, Try.ntmps36
    go_wp2
    go_ret2
    exact ⟨rfl, (Below.refl _ _).alloc (Nat.le_refl _) _⟩

set_option maxHeartbeats 1000000 in
theorem refStamp_yes (w : World) (a b c : Int) (h1 : 0 ≤ a) (h2 : a ≤ 1099511627776) (h3 : 0 ≤ b) (h4 : b ≤ 1048576) (h5 : 0 ≤ c) (h6 : c ≤ 1048576) :
    Calls Try.prog 36 #[.agg #[.int .i64 a, .int .i32 b, .int .i32 c]] w fun e w' => e = .returned (.tuple #[.string ⟨(stB a b c).toArray⟩, .int .i64 0]) ∧ Below w.heap.size w w' := by
  obtain ⟨i0, hi, hz0, hz1, hz2⟩ := info_parts Try.info5
  have P1 : Hid (0 ≤ 9223372036854775807 - a) := by show 0 ≤ _; omega
  have P2 : Hid (0 ≤ 2147483647 - b) := by show 0 ≤ _; omega
  have P3 : Hid (0 ≤ 2147483647 - c) := by show 0 ≤ _; omega
  go_enter Try.func36, Try.ntmps36
  go_wp2_with (go_at_call 57; refine (eight_int _ _ P1.out).mono ?_; rintro e w1 ⟨g1, cap1, rfl, hc1, hx1⟩; have q1 : w1.cell? ⟨w.heap.size, 1, none⟩ = some (.int .i32 b) := hx1.keeps (by simp [go_sem]) (by simp [Value.ownBlock]); have q2 : w1.cell? ⟨w.heap.size, 2, none⟩ = some (.int .i32 c) := hx1.keeps (by simp [go_sem]) (by simp [Value.ownBlock]); clear P1)
  refine (eight_int _ _ P2.out).mono ?_
  rintro e w2 ⟨g2, cap2, rfl, hc2, hx2⟩
  have hz2' := hx2.size
  have hz1' : w.heap.size + 1 ≤ w1.heap.size := by have := hx1.size; simp at this; omega
  have r2 : w2.cell? ⟨w.heap.size, 2, none⟩ = some (.int .i32 c) := hx2.keeps q2 (by simp [Value.ownBlock])
  have ho2 := hx1.kept_own hx2
  rw [high_length] at ho2
  have hn2 := tail_cells hx2.own
  have n4 : ¬ cap2 = 4 := by omega
  have n5 : (4 : Int) ≤ (cap2 : Int) := by omega
  have n8 : (8 : Int) ≤ (cap2 : Int) := by omega
  have hbs2 : w.heap.size + 1 ≤ w2.heap.size := by omega
  simp only [World.size_alloc] at ho2
  go_wp2_with (at_builtin; refine wpList_append_lies _ rfl (.tmp 38) (.tmp 44) 22 rfl (w.heap.size + 1) 5 i0 (.int .u8 0) 1 1 Try.underlying22 hi hz0 hz1 hz2 rfl (by decide) _ 8 _ rfl ho2 ⟨g2, 4, none⟩ 4 (cap2 - 4) (bc (high (2147483647 - b).toNat 4)) rfl rfl hn2 (bc_one _) (by decide) (by decide) (by decide) hbs2 _ rfl ?_)
  intro g3 cap3 w3 hown3 hgrow3 hat3 hlt3
  have hg1 : w.heap.size + 1 ≤ g1 := by have := (hx1.own.lt g1 rfl).1; simpa using this
  have hg3 : w.heap.size + 1 ≤ g3 := by
    rcases hat3 with h | h
    · have : g1 = g3 := by simpa [Value.ownBlock] using h
      omega
    · omega
  have r3 : w3.cell? ⟨w.heap.size, 2, none⟩ = some (.int .i32 c) := hgrow3.cell r2 (by simp [Value.ownBlock]; omega)
  have hz3' := hgrow3.size
  have B1 : Below w.heap.size w w1 := ((Below.refl _ _).alloc (Nat.le_refl _) _).trans ((hx1.below (Nat.le_refl _) (by simp [Value.ownBlock])).mono (by simp))
  have B2 : Below w.heap.size w w2 := B1.trans ((hx2.below (Nat.le_refl _) (by simp [Value.ownBlock])).mono (by omega))
  have B3 : Below w.heap.size w w3 := B2.grown hgrow3 (by omega) (fun k hk => by have : g1 = k := by simpa [Value.ownBlock] using hk
                                                                                 omega)
  have e3 : Ext (w.heap.size + 1) w3 (.slice (some ⟨g3, 0, none⟩) 12 cap3) w3 (.slice (some ⟨g3, 0, none⟩) 12 cap3) (high (9223372036854775807 - a).toNat 8 ++ high (2147483647 - b).toNat 4) := by
    refine Ext.start ?_
    rw [List.length_append, high_length, high_length, bc_append]
    exact hown3
  clear hown3 hgrow3 hat3 hlt3 hx1 hx2 ho2 hn2 q1 q2 r2 B1 B2 P2 n4 n5 n8
  go_wp2_with fail
  refine (eight_int _ _ P3.out).mono ?_
  rintro e w4 ⟨g4, cap4, rfl, hc4, hx4⟩
  have hz4' := hx4.size
  have ho4 := e3.kept_own hx4
  rw [List.length_append, high_length, high_length] at ho4
  have hn4 := tail_cells hx4.own
  have n4 : ¬ cap4 = 4 := by omega
  have n5 : (4 : Int) ≤ (cap4 : Int) := by omega
  have n8 : (8 : Int) ≤ (cap4 : Int) := by omega
  have hbs4 : w.heap.size + 1 ≤ w4.heap.size := by omega
  have B4 : Below w.heap.size w w4 := B3.trans ((hx4.below (Nat.le_refl _) (by simp [Value.ownBlock])).mono (by omega))
  go_wp2_with (at_builtin; refine wpList_append_lies _ rfl (.tmp 46) (.tmp 52) 22 rfl (w.heap.size + 1) 5 i0 (.int .u8 0) 1 1 Try.underlying22 hi hz0 hz1 hz2 rfl (by decide) _ 12 _ rfl ho4 ⟨g4, 4, none⟩ 4 (cap4 - 4) (bc (high (2147483647 - c).toNat 4)) rfl rfl hn4 (bc_one _) (by decide) (by decide) (by decide) hbs4 _ rfl ?_)
  intro g5 cap5 w5 hown5 hgrow5 hat5 hlt5
  have B5 : Below w.heap.size w w5 := B4.grown hgrow5 (by omega) (fun k hk => by have : g3 = k := by simpa [Value.ownBlock] using hk
                                                                                 omega)
  have e5 : Ext (w.heap.size + 1) w5 (.slice (some ⟨g5, 0, none⟩) 16 cap5) w5 (.slice (some ⟨g5, 0, none⟩) 16 cap5) (stB a b c) := by
    refine Ext.start ?_
    rw [stB_length]
    unfold stB
    rw [bc_append, ← bc_append] at hown5
    rw [bc_append]
    exact hown5
  have hcv := e5.str
  clear hown5 hgrow5 hat5 hlt5 e3 e5 hx4 ho4 hn4 r3 B3 B4 P3
  go_wp2
  go_ret2
  exact ⟨rfl, B5⟩

theorem refStamp_any (w : World) (a b c : Int) :
    Calls Try.prog 36 #[.agg #[.int .i64 a, .int .i32 b, .int .i32 c]] w fun e w' => e = .returned (.tuple #[.string (stS a b c), .int .i64 (stE a b c)]) ∧ Below w.heap.size w w' := by
  by_cases h : mayS a b c = true
  · obtain ⟨⟨h1, h2⟩, ⟨h3, h4⟩, h5, h6⟩ := (mayS_iff a b c).mp h
    have := refStamp_yes w a b c h1 h2 h3 h4 h5 h6
    unfold stS stE
    rw [if_pos h, if_pos h]
    exact this
  · have h' : ¬ ((0 ≤ a ∧ a ≤ 1099511627776) ∧ (0 ≤ b ∧ b ≤ 1048576) ∧ (0 ≤ c ∧ c ≤ 1048576)) := fun k => h ((mayS_iff a b c).mpr k)
    have := refStamp_no w a b c (by omega)
    unfold stS stE
    rw [if_neg h, if_neg h]
    exact this
end Go.Proofs.Ytbcbdaaaglkjhaa
