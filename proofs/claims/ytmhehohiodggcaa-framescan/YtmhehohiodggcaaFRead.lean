/-
  A frame read: what the program's call answers, and where.
-/
import Derived.Test.YtmhehohiodggcaaCOpened
import Derived.Test.YtmhehohiodggcaaFSize
import Derived.Test.YtmhehohiodggcaaFrm
import Derived.OwnWalk
namespace Go.Proofs.Ytmhehohiodggcaa
open Go.RowKit

theorem opnL_four {l : List UInt8} (h : l.length = 8) (ho : opnB l = true) : (opnL l).length = 4 := by
  unfold opnL
  rw [if_pos ho, h, List.length_take, h]
  rfl

theorem ext_none {w w' : World} (hb : Below w.heap.size w w') : Ext w.heap.size w (.slice none 0 0) w' (.slice none 0 0) [] := ext_nil ⟨hb.os, hb.tape, hb.output, hb.size, fun i hi _ => hb.block i hi⟩
theorem ext_after {a b c : World} {v : Value} {l : List UInt8} (h : Below a.heap.size a b) (k : Ext b.heap.size b (.slice none 0 0) c v l) : Ext a.heap.size a (.slice none 0 0) c v l :=
  ⟨own_base k.own h.size, grownBy_trans (⟨h.os, h.tape, h.output, h.size, fun i hi _ => h.block i hi⟩ : a.grownBy b none) k.grown (.inl rfl), by
    rcases k.lies with e | ⟨g, e, hg⟩
    · exact .inl e
    · exact .inr ⟨g, e, Nat.le_trans h.size hg⟩⟩

theorem fread_short (w : World) (a0 : Option Addr) (c0 n : Nat) (hn : n < 8) :
    Calls Try.prog 10 #[.slice a0 n c0] w fun e w' => e = .returned (.tuple #[.slice none 0 0, .int .i64 0, .int .i64 4]) ∧ w' = w := by
  go_enter Try.func10, Try.ntmps10
  go_wp2_with (fail)
  go_ret3
  exact ⟨rfl, rfl⟩

set_option maxHeartbeats 1600000 in
theorem fread_long (w : World) (b off c0 n : Nat) (l : List UInt8) (hl : n = l.length) (h : BytesIn w (.slice (some ⟨b, off, none⟩) n c0) l) (hc : n ≤ c0) (h8 : 8 ≤ n) :
    Calls Try.prog 10 #[.slice (some ⟨b, off, none⟩) n c0] w fun e w' => ∃ v, e = .returned (.tuple #[v, .int .i64 ((rdN l : Nat) : Int), .int .i64 (rdE l)]) ∧ Ext w.heap.size w (.slice none 0 0) w' v (rdR l) := by
  have hlen := h.len
  have t8 : (l.take 8).length = 8 := by rw [List.length_take]; omega
  have O1 : Hid (Calls Try.prog 29 #[.slice (some ⟨b, off, none⟩) 8 c0] w fun e w' => ∃ v, e = .returned (.tuple #[v, .bool (opnB (l.take 8))]) ∧ Ext w.heap.size w (.slice none 0 0) w' v (opnL (l.take 8))) := by
    have := opened_any w (some ⟨b, off, none⟩) c0 (l.take 8) (by rw [t8]; exact h.part 0 8 (by omega) c0) (by omega)
    rwa [t8] at this
  have N1 : Hid (opnB (l.take 8) = true → ∀ wx v, BytesIn wx v (opnL (l.take 8)) → Calls Try.prog 30 #[v] wx fun e w' => e = .returned (.int .u32 ((rdK l : Nat) : Int)) ∧ w' = wx) := fun ho wx v hv => number_any wx v _ hv (opnL_four t8 ho)
  have hK4 : rdK l < 4294967296 := num4_lt _
  obtain ⟨K, hK⟩ : ∃ K, K = rdK l := ⟨_, rfl⟩
  rw [← hK] at N1 hK4
  have G0 : Hid (∀ x : Int, rdE l = x → ¬ x = 0 → rdR l = [] ∧ rdN l = 0) := fun x e hx => by unfold rdR rdN; rw [if_neg (by rw [e]; exact hx), if_neg (by rw [e]; exact hx)]; exact ⟨rfl, rfl⟩
  have i8 : (8 : Int) ≤ (c0 : Int) := by omega
  have j8 : ¬ ((n : Int) < 8) := by omega
  have Lq : Hid ((opnL (l.take 8)).length ≤ 140737488355328) := by
    show _ ≤ _
    unfold opnL
    split
    · rw [List.length_take]; omega
    · exact Nat.zero_le _
  by_cases ho : opnB (l.take 8) = true
  · rw [ho] at O1
    have N2 : Hid (∀ wx v, BytesIn wx v (opnL (l.take 8)) → Calls Try.prog 30 #[v] wx fun e w' => e = .returned (.int .u32 (K : Int)) ∧ w' = wx) := N1.out ho
    clear N1
    by_cases hbig : 1048576 < K
    · have E0 : Hid (rdE l = 6) := by show _ = _; unfold rdE; rw [if_neg (by omega), if_neg (by simp [ho]), ← hK, if_pos hbig]
      have Z := G0.out 6 E0.out (by decide)
      rw [E0.out, Z.1, Z.2]
      clear Z E0 G0 ho h hK hl
      have k1 : (K : Int) > 1048576 := by omega
      go_enter Try.func10, Try.ntmps10
      go_wp2_with (first
        | (go_at_call 29; refine O1.out.mono ?_; rintro e w1 ⟨v1, rfl, x1⟩; have V1 := bytes_of_own x1.own Lq.out; have B1 := x1.below (Nat.le_refl _) (by simp [Value.ownBlock]); clear O1 x1)
        | (go_at_call 30; refine (N2.out _ _ V1).mono ?_; rintro e w2 ⟨rfl, rfl⟩; clear V1))
      go_ret3
      exact ⟨_, rfl, ext_none B1⟩
    · by_cases hsh : n < K + 12
      · have E0 : Hid (rdE l = 4) := by show _ = _; unfold rdE; rw [if_neg (by omega), if_neg (by simp [ho]), ← hK, if_neg hbig, if_pos (by omega)]
        have Z := G0.out 4 E0.out (by decide)
        rw [E0.out, Z.1, Z.2]
        clear Z E0 G0 ho h hK hl
        have k1 : ¬ (K : Int) > 1048576 := by omega
        have k2 : (n : Int) < (K : Int) + 12 := by omega
        go_enter Try.func10, Try.ntmps10
        go_wp2_with (first
          | (go_at_call 29; refine O1.out.mono ?_; rintro e w1 ⟨v1, rfl, x1⟩; have V1 := bytes_of_own x1.own Lq.out; have B1 := x1.below (Nat.le_refl _) (by simp [Value.ownBlock]); clear O1 x1)
          | (go_at_call 30; refine (N2.out _ _ V1).mono ?_; rintro e w2 ⟨rfl, rfl⟩))
        go_ret3
        exact ⟨_, rfl, ext_none B1⟩
      · have t9 : ((l.drop 8).take (K + 4)).length = K + 4 := by rw [List.length_take, List.length_drop]; omega
        have O2 : Hid (∀ wx c, Below w.heap.size w wx → K + 4 ≤ c → Calls Try.prog 29 #[.slice (some ⟨b, off + 8, none⟩) (K + 4) c] wx fun e w' => ∃ v, e = .returned (.tuple #[v, .bool (opnB ((l.drop 8).take (K + 4)))]) ∧ Ext wx.heap.size wx (.slice none 0 0) w' v (opnL ((l.drop 8).take (K + 4)))) := fun wx c hw hc => by
          have := opened_any wx (some ⟨b, off + 8, none⟩) c ((l.drop 8).take (K + 4)) (by rw [t9]; exact (h.later hw).part 8 (K + 4) (by omega) c) (by omega)
          rwa [t9] at this
        have k1 : ¬ (K : Int) > 1048576 := by omega
        have k2 : ¬ (n : Int) < (K : Int) + 12 := by omega
        have k3 : (K : Int) + 12 ≤ (c0 : Int) := by omega
        have k4 : (8 : Int) ≤ (K : Int) + 12 := by omega
        have k5 : ¬ (c0 = 8) := by omega
        have k6 : K + 4 ≤ c0 - 8 := by omega
        by_cases hop : opnB ((l.drop 8).take (K + 4)) = true
        · have E0 : Hid (rdE l = 0) := by show _ = _; unfold rdE; rw [if_neg (by omega), if_neg (by simp [ho]), ← hK, if_neg hbig, if_neg (by omega), hop, if_neg (by simp)]
          have Z : Hid (rdR l = opnL ((l.drop 8).take (K + 4)) ∧ rdN l = K + 12) := by refine ⟨?_, ?_⟩; · unfold rdR; rw [if_pos E0.out, ← hK]
                                                                                       · unfold rdN; rw [if_pos E0.out, ← hK]
          rw [hop] at O2
          rw [E0.out, Z.out.1, Z.out.2]
          clear Z E0 G0 ho h hK hl hop t9
          go_enter Try.func10, Try.ntmps10
          go_wp2_with (first
            | (go_at_call 29; refine O1.out.mono ?_; rintro e w1 ⟨v1, rfl, x1⟩; have V1 := bytes_of_own x1.own Lq.out; have B1 := x1.below (Nat.le_refl _) (by simp [Value.ownBlock]); clear O1 x1)
            | (go_at_call 30; refine (N2.out _ _ V1).mono ?_; rintro e w2 ⟨rfl, rfl⟩)
            | (go_at_call 29; refine (O2.out _ _ B1 k6).mono ?_; rintro e w3 ⟨v3, rfl, x3⟩; clear O2))
          go_ret3
          exact ⟨_, rfl, ext_after B1 x3⟩
        · have E0 : Hid (rdE l = 6) := by show _ = _; unfold rdE; rw [if_neg (by omega), if_neg (by simp [ho]), ← hK, if_neg hbig, if_neg (by omega), if_pos (by simpa using hop)]
          have Z := G0.out 6 E0.out (by decide)
          have hop' : opnB ((l.drop 8).take (K + 4)) = false := by simpa using hop
          rw [hop'] at O2
          rw [E0.out, Z.1, Z.2]
          clear Z E0 G0 ho h hK hl hop hop' t9
          go_enter Try.func10, Try.ntmps10
          go_wp2_with (first
            | (go_at_call 29; refine O1.out.mono ?_; rintro e w1 ⟨v1, rfl, x1⟩; have V1 := bytes_of_own x1.own Lq.out; have B1 := x1.below (Nat.le_refl _) (by simp [Value.ownBlock]); clear O1 x1)
            | (go_at_call 30; refine (N2.out _ _ V1).mono ?_; rintro e w2 ⟨rfl, rfl⟩)
            | (go_at_call 29; refine (O2.out _ _ B1 k6).mono ?_; rintro e w3 ⟨v3, rfl, x3⟩; have B3 := B1.trans ((x3.below (Nat.le_refl _) (by simp [Value.ownBlock])).mono B1.size); clear O2 x3))
          go_ret3
          exact ⟨_, rfl, ext_none B3⟩
  · have ho' : opnB (l.take 8) = false := by simpa using ho
    rw [ho'] at O1
    have E0 : Hid (rdE l = 6) := by show _ = _; unfold rdE; rw [if_neg (by omega), if_pos ho']
    have Z := G0.out 6 E0.out (by decide)
    rw [E0.out, Z.1, Z.2]
    clear Z E0 G0 ho ho' h hK hl N1
    go_enter Try.func10, Try.ntmps10
    go_wp2_with (first
      | (go_at_call 29; refine O1.out.mono ?_; rintro e w1 ⟨v1, rfl, x1⟩; have B1 := x1.below (Nat.le_refl _) (by simp [Value.ownBlock]); clear O1 x1))
    go_ret3
    exact ⟨_, rfl, ext_none B1⟩

/-- READING BYTES: the record, its frame's length, the error, as the definition has them. -/
theorem fread_any (w : World) (a0 : Option Addr) (c0 : Nat) (l : List UInt8) (h : BytesIn w (.slice a0 l.length c0) l) (hc : l.length ≤ c0) :
    Calls Try.prog 10 #[.slice a0 l.length c0] w fun e w' => ∃ v, e = .returned (.tuple #[v, .int .i64 ((rdN l : Nat) : Int), .int .i64 (rdE l)]) ∧ Ext w.heap.size w (.slice none 0 0) w' v (rdR l) := by
  by_cases h8 : 8 ≤ l.length
  · have hne : l ≠ [] := by intro e; rw [e] at h8; simp at h8
    have h' := h
    obtain ⟨⟨a, cap, e, hf⟩, hlen⟩ := h
    simp only [Value.slice.injEq, true_and] at e
    obtain ⟨rfl, rfl⟩ := e
    obtain ⟨b, off, rfl, _⟩ := hf hne
    exact fread_long w b off c0 l.length l rfl h' hc h8
  · refine (fread_short w a0 c0 l.length (by omega)).mono ?_
    rintro e w' ⟨rfl, rfl⟩
    have e0 : rdE l = 4 := by unfold rdE; rw [if_pos (by omega)]
    have e1 : rdR l = [] := by unfold rdR; rw [if_neg (by rw [e0]; decide)]
    have e2 : rdN l = 0 := by unfold rdN; rw [if_neg (by rw [e0]; decide)]
    rw [e0, e1, e2]
    exact ⟨_, rfl, ext_none (Below.refl _ _)⟩
end Go.Proofs.Ytmhehohiodggcaa
