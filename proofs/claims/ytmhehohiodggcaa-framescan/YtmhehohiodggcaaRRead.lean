/-
  A frame read by its definition: what the document's answer says, and where.
-/
import Derived.Test.YtmhehohiodggcaaROpened
import Derived.Test.YtmhehohiodggcaaFRead
namespace Go.Proofs.Ytmhehohiodggcaa
open Go.RowKit

theorem refRead_short (w : World) (a0 : Option Addr) (c0 n : Nat) (hn : n < 8) :
    Calls Try.prog 16 #[.slice a0 n c0] w fun e w' => e = .returned (.tuple #[.slice none 0 0, .int .i64 0, .int .i64 4]) ∧ w' = w := by
  go_enter Try.func16, Try.ntmps16
  go_wp2_with (fail)
  go_ret3
  exact ⟨rfl, rfl⟩

theorem four_bytes {q : List UInt8} (h : q.length = 4) : ∃ n0 n1 n2 n3 : Nat, n0 < 256 ∧ n1 < 256 ∧ n2 < 256 ∧ n3 < 256 ∧ num4 q = n0 + 256 * n1 + 65536 * n2 + 16777216 * n3 ∧ ∀ (w : World) (g c : Nat), BytesIn w (.slice (some ⟨g, 0, none⟩) 4 c) q →
    w.cell? ⟨g, 0, none⟩ = some (.int .u8 (n0 : Int)) ∧ w.cell? ⟨g, 1, none⟩ = some (.int .u8 (n1 : Int)) ∧ w.cell? ⟨g, 2, none⟩ = some (.int .u8 (n2 : Int)) ∧ w.cell? ⟨g, 3, none⟩ = some (.int .u8 (n3 : Int)) := by
  match q, h with
  | [c0, c1, c2, c3], _ =>
    refine ⟨c0.toNat, c1.toNat, c2.toNat, c3.toNat, UInt8.toNat_lt _, UInt8.toNat_lt _, UInt8.toNat_lt _, UInt8.toNat_lt _, rfl, ?_⟩
    rintro w g c ⟨⟨a, cap, e, hf⟩, _⟩
    simp only [Value.slice.injEq] at e
    obtain ⟨rfl, _, rfl⟩ := e
    obtain ⟨b, off, e, hat⟩ := hf (by simp)
    simp only [Option.some.injEq, Addr.mk.injEq, and_true] at e
    obtain ⟨rfl, rfl⟩ := e
    exact ⟨hat 0 (by simp), hat 1 (by simp), hat 2 (by simp), hat 3 (by simp)⟩

set_option maxHeartbeats 1600000 in
theorem refRead_long (w : World) (b off c0 n : Nat) (l : List UInt8) (hl : n = l.length) (h : BytesIn w (.slice (some ⟨b, off, none⟩) n c0) l) (hc : n ≤ c0) (h8 : 8 ≤ n) :
    Calls Try.prog 16 #[.slice (some ⟨b, off, none⟩) n c0] w fun e w' => ∃ v, e = .returned (.tuple #[v, .int .i64 ((rdN l : Nat) : Int), .int .i64 (rdE l)]) ∧ Ext w.heap.size w (.slice none 0 0) w' v (rdR l) := by
  have hlen := h.len
  have t8 : (l.take 8).length = 8 := by rw [List.length_take]; omega
  have O1 : Hid (Calls Try.prog 36 #[.slice (some ⟨b, off, none⟩) 8 c0] w fun e w' => ∃ v, e = .returned (.tuple #[v, .bool (opnB (l.take 8))]) ∧ Ext w.heap.size w (.slice none 0 0) w' v (opnL (l.take 8))) := by
    have := refOpened_any w (some ⟨b, off, none⟩) c0 (l.take 8) (by rw [t8]; exact h.part 0 8 (by omega) c0) (by omega) (by omega)
    rwa [t8] at this
  have G0 : Hid (∀ x : Int, rdE l = x → ¬ x = 0 → rdR l = [] ∧ rdN l = 0) := fun x e hx => by unfold rdR rdN; rw [if_neg (by rw [e]; exact hx), if_neg (by rw [e]; exact hx)]; exact ⟨rfl, rfl⟩
  have i8 : (8 : Int) ≤ (c0 : Int) := by omega
  have j8 : ¬ ((n : Int) < 8) := by omega
  by_cases ho : opnB (l.take 8) = true
  · have l4 := opnL_four t8 ho
    obtain ⟨n0, n1, n2, n3, b0, b1, b2, b3, hK, hcells⟩ := four_bytes l4
    have O3 : Hid (Calls Try.prog 36 #[.slice (some ⟨b, off, none⟩) 8 c0] w fun e w' => ∃ g c, e = .returned (.tuple #[.slice (some ⟨g, 0, none⟩) 4 c, .bool true]) ∧ Below w.heap.size w w' ∧ w'.cell? ⟨g, 0, none⟩ = some (.int .u8 (n0 : Int)) ∧ w'.cell? ⟨g, 1, none⟩ = some (.int .u8 (n1 : Int)) ∧ w'.cell? ⟨g, 2, none⟩ = some (.int .u8 (n2 : Int)) ∧ w'.cell? ⟨g, 3, none⟩ = some (.int .u8 (n3 : Int))) := by
      refine O1.out.mono ?_
      rintro e w' ⟨v, rfl, hx⟩
      obtain ⟨g, c, rfl⟩ := hx.some (by intro e; rw [e] at l4; simp at l4)
      have hin := bytes_of_own hx.own (by omega)
      rw [l4] at hin ⊢
      rw [ho]
      exact ⟨g, c, rfl, hx.below (Nat.le_refl _) (by simp [Value.ownBlock]), hcells _ _ _ hin⟩
    have hK' : rdK l = n0 + 256 * n1 + 65536 * n2 + 16777216 * n3 := hK
    clear O1 hK hcells
    by_cases hbig : 1048576 < rdK l
    · have E0 : Hid (rdE l = 6) := by show _ = _; unfold rdE; rw [if_neg (by omega), if_neg (by simp [ho]), if_pos hbig]
      have Z := G0.out 6 E0.out (by decide)
      rw [E0.out, Z.1, Z.2]
      rw [hK'] at hbig
      clear Z E0 G0 ho h hK' hl
      go_enter Try.func16, Try.ntmps16
      go_wp2_with (first
        | (go_at_call 36; refine O3.out.mono ?_; rintro e w1 ⟨g1, cap1, rfl, B1, d0, d1, d2, d3⟩; clear O3))
      go_quiet (fail)
      go_wp2_with (fail)
      go_ret3
      exact ⟨_, rfl, ext_none (below_drewN B1 _)⟩
    · by_cases hsh : n < rdK l + 12
      · have E0 : Hid (rdE l = 4) := by show _ = _; unfold rdE; rw [if_neg (by omega), if_neg (by simp [ho]), if_neg hbig, if_pos (by omega)]
        have Z := G0.out 4 E0.out (by decide)
        rw [E0.out, Z.1, Z.2]
        rw [hK'] at hbig hsh
        clear Z E0 G0 ho h hK' hl
        go_enter Try.func16, Try.ntmps16
        go_wp2_with (first
          | (go_at_call 36; refine O3.out.mono ?_; rintro e w1 ⟨g1, cap1, rfl, B1, d0, d1, d2, d3⟩; clear O3))
        go_quiet (fail)
        go_wp2_with (fail)
        go_ret3
        exact ⟨_, rfl, ext_none (below_drewN B1 _)⟩
      · obtain ⟨K, hKK⟩ : ∃ K, K = rdK l := ⟨_, rfl⟩
        rw [← hKK] at hK' hbig hsh
        have t9 : ((l.drop 8).take (K + 4)).length = K + 4 := by rw [List.length_take, List.length_drop]; omega
        have O2 : Hid (∀ wx m c, m = K + 4 → Below w.heap.size w wx → K + 4 ≤ c → Calls Try.prog 36 #[.slice (some ⟨b, off + 8, none⟩) m c] wx fun e w' => ∃ v, e = .returned (.tuple #[v, .bool (opnB ((l.drop 8).take (K + 4)))]) ∧ Ext wx.heap.size wx (.slice none 0 0) w' v (opnL ((l.drop 8).take (K + 4)))) := fun wx m c hm hw hc => by
          subst hm
          have := refOpened_any wx (some ⟨b, off + 8, none⟩) c ((l.drop 8).take (K + 4)) (by rw [t9]; exact (h.later hw).part 8 (K + 4) (by omega) c) (by omega) (by omega)
          rwa [t9] at this
        have HK : Hid (K = n0 + 256 * n1 + 65536 * n2 + 16777216 * n3) := hK'
        have SU : Hid ((n0 : Int) + n1 * 256 + n2 * 65536 + n3 * 16777216 = (K : Int)) := by show _ = _; omega
        have k1 : ¬ (n0 : Int) + n1 * 256 + n2 * 65536 + n3 * 16777216 > 1048576 := by omega
        have k2 : (n0 : Int) + n1 * 256 + n2 * 65536 + n3 * 16777216 + 12 ≤ n := by omega
        have k5 : ¬ (c0 = 8) := by omega
        have k6 : K + 4 ≤ c0 - 8 := by omega
        have k7 : (n0 : Int) + n1 * 256 + n2 * 65536 + n3 * 16777216 + 12 ≤ c0 := by omega
        by_cases hop : opnB ((l.drop 8).take (K + 4)) = true
        · have E0 : Hid (rdE l = 0) := by show _ = _; unfold rdE; rw [if_neg (by omega), if_neg (by simp [ho]), ← hKK, if_neg hbig, if_neg (by omega), hop, if_neg (by simp)]
          have Z : Hid (rdR l = opnL ((l.drop 8).take (K + 4)) ∧ rdN l = K + 12) := by
            refine ⟨?_, ?_⟩
            · unfold rdR; rw [if_pos E0.out, ← hKK]
            · unfold rdN; rw [if_pos E0.out, ← hKK]
          rw [hop] at O2
          rw [E0.out, Z.out.1, Z.out.2]
          clear Z E0 G0 ho h hKK hK' hl hop t9 hbig hsh
          go_enter Try.func16, Try.ntmps16
          go_wp2_with (first
            | (go_at_call 36; refine O3.out.mono ?_; rintro e w1 ⟨g1, cap1, rfl, B1, d0, d1, d2, d3⟩; clear O3))
          go_quiet (fail)
          rw [SU.out] at k1 k2 k7 ⊢
          clear SU HK d0 d1 d2 d3 b0 b1 b2 b3
          go_wp2_with (go_at_call 36; refine (O2.out _ _ _ (by omega) (below_drewN B1 _) k6).mono ?_; rintro e w3 ⟨v3, rfl, x3⟩; clear O2)
          go_ret3
          exact ⟨_, rfl, ext_after (below_drewN B1 _) x3⟩
        · have E0 : Hid (rdE l = 6) := by show _ = _; unfold rdE; rw [if_neg (by omega), if_neg (by simp [ho]), ← hKK, if_neg hbig, if_neg (by omega), if_pos (by simpa using hop)]
          have Z := G0.out 6 E0.out (by decide)
          have hop' : opnB ((l.drop 8).take (K + 4)) = false := by simpa using hop
          rw [hop'] at O2
          rw [E0.out, Z.1, Z.2]
          clear Z E0 G0 ho h hKK hK' hl hop hop' t9 hbig hsh
          go_enter Try.func16, Try.ntmps16
          go_wp2_with (first
            | (go_at_call 36; refine O3.out.mono ?_; rintro e w1 ⟨g1, cap1, rfl, B1, d0, d1, d2, d3⟩; clear O3))
          go_quiet (fail)
          rw [SU.out] at k1 k2 k7 ⊢
          clear SU HK d0 d1 d2 d3 b0 b1 b2 b3
          go_wp2_with (go_at_call 36; refine (O2.out _ _ _ (by omega) (below_drewN B1 _) k6).mono ?_; rintro e w3 ⟨v3, rfl, x3⟩; clear O2)
          go_ret3
          exact ⟨_, rfl, ext_none (by have x4 := ext_after (below_drewN B1 _) x3; exact x4.below (Nat.le_refl _) (by simp [Value.ownBlock]))⟩
  · have ho' : opnB (l.take 8) = false := by simpa using ho
    rw [ho'] at O1
    have E0 : Hid (rdE l = 6) := by show _ = _; unfold rdE; rw [if_neg (by omega), if_pos ho']
    have Z := G0.out 6 E0.out (by decide)
    rw [E0.out, Z.1, Z.2]
    clear Z E0 G0 ho ho' h hl
    go_enter Try.func16, Try.ntmps16
    go_wp2_with (first
      | (go_at_call 36; refine O1.out.mono ?_; rintro e w1 ⟨v1, rfl, x1⟩; have B1 := x1.below (Nat.le_refl _) (by simp [Value.ownBlock]); clear O1 x1))
    go_ret3
    exact ⟨_, rfl, ext_none B1⟩

/-- READING BYTES: the record, its frame's length, the error, as the definition has them. -/
theorem refRead_any (w : World) (a0 : Option Addr) (c0 : Nat) (l : List UInt8) (h : BytesIn w (.slice a0 l.length c0) l) (hc : l.length ≤ c0) :
    Calls Try.prog 16 #[.slice a0 l.length c0] w fun e w' => ∃ v, e = .returned (.tuple #[v, .int .i64 ((rdN l : Nat) : Int), .int .i64 (rdE l)]) ∧ Ext w.heap.size w (.slice none 0 0) w' v (rdR l) := by
  by_cases h8 : 8 ≤ l.length
  · have hne : l ≠ [] := by intro e; rw [e] at h8; simp at h8
    have h' := h
    obtain ⟨⟨a, cap, e, hf⟩, hlen⟩ := h
    simp only [Value.slice.injEq, true_and] at e
    obtain ⟨rfl, rfl⟩ := e
    obtain ⟨b, off, rfl, _⟩ := hf hne
    exact refRead_long w b off c0 l.length l rfl h' hc h8
  · refine (refRead_short w a0 c0 l.length (by omega)).mono ?_
    rintro e w' ⟨rfl, rfl⟩
    have e0 : rdE l = 4 := by unfold rdE; rw [if_pos (by omega)]
    have e1 : rdR l = [] := by unfold rdR; rw [if_neg (by rw [e0]; decide)]
    have e2 : rdN l = 0 := by unfold rdN; rw [if_neg (by rw [e0]; decide)]
    rw [e0, e1, e2]
    exact ⟨_, rfl, ext_none (Below.refl _ _)⟩
end Go.Proofs.Ytmhehohiodggcaa
