/-
  Package lexer: whether a text is valid UTF-8; a word in small letters.
-/
import Derived.Test.YtedamaccflhmfaaGreatDoorXB
import Derived.Test.YtedamaccflhmfaaGreatDoorLxShelf
import Derived.Test.YtedamaccflhmfaaGreatDoorXUf
namespace Go.Proofs.YtedamaccflhmfaaGreatDoor
open Go.RowKit
attribute [local go_sem ↓] Go.wp_at_zero Go.wp_at_succ

/-- What reading a text asks of the library's tables. -/
structure Tab2 (w : World) : Prop where
  utf : Lib.Utf8Tabs 2 3 w
  max : ∃ m, w.cell? ⟨1, 0, none⟩ = some (.int .i64 m)
theorem Tab2.later {w w' : World} (h : Tab2 w) (hb : Below w.heap.size w w') : Tab2 w' :=
  ⟨utf_later h.utf hb, by obtain ⟨m, hm⟩ := h.max; exact ⟨m, (hb.cell (World.block_lt_of_cell? w _ hm)).trans hm⟩⟩
theorem Tabs.two {w : World} (h : Tabs w) : Tab2 w := ⟨h.utf, h.max⟩

theorem extract_mk (s : ByteArray) (pos : Nat) : s.extract pos s.size = ⟨(s.data.toList.drop pos).toArray⟩ := by
  apply ByteArray.ext
  apply Array.toList_inj.1
  have e2 : s.data.toList.length = s.size := l_size s
  simp [ByteArray.data_extract]
  exact List.take_of_length_le (by rw [List.length_drop, e2]; exact Nat.le_refl _)
theorem decodeGo_at (s : ByteArray) (pos : Nat) (h : pos < s.size) : Lib.decodeGo (s.extract pos s.size) = Utf8.decode s pos := by
  have e : Lib.decodeGo (s.extract pos s.size) = if (s.extract pos s.size).size = 0 then (65533, 0) else Utf8.decode (s.extract pos s.size) 0 := rfl
  rw [e, if_neg (by rw [ByteArray.size_extract]; omega), extract_mk]
  exact Lib.decodeL_drop s pos

set_option maxHeartbeats 3200000 in
theorem isUTF8_any (w : World) (s : ByteArray) (_hs : s.size ≤ maxLen) (hT : Lib.Utf8Tabs 2 3 w) : Calls Tryz.prog 104 #[.string s] w fun e w' => e = .returned (.bool (Lib.validD s.data.toList)) ∧ Below w.heap.size w w' := by
  unfold maxLen at _hs
  obtain ⟨N, hN⟩ : ∃ N, N = Lib.validD s.data.toList := ⟨_, rfl⟩
  rw [← hN]
  have HN : Hid (N = Lib.validD s.data.toList) := hN
  clear hN
  have TT := hide hT
  have DR := hide (fun (t : ByteArray) wx h => Tryz.utf8_DecodeRuneInString t wx h)
  clear hT
  go_enter Tryz.func104, Tryz.ntmps104
  go_wp2
  go_loopw [] (fun wr => ∃ (pos : Nat), pos ≤ s.size ∧ wr.heap[w.heap.size]? = some (.stringIter s pos) ∧ Below w.heap.size w wr ∧ Hid (N = Lib.validD (s.data.toList.drop pos))) (fun wr => s.size - wr.iterPos w.heap.size)
  case atStart => exact ⟨0, Nat.zero_le _, World.iter_heap w s 0, (Below.refl _ _).alloc (Nat.le_refl _) _, HN⟩
  case round =>
    obtain ⟨pos, hp, hit, hb, HW⟩ := hrel
    clear HN
    have hpos0 := iterPos_at hit
    by_cases hlt : pos < s.size
    · have hnx : ∀ ty, (Instr.next (.pointer (some ⟨w.heap.size, 0, none⟩)) true ty).run Tryz.prog wr = _ := fun ty => Lib.run_next_any_at wr w.heap.size s pos ty hit hlt
      have hit2 := Lib.iterAt_heap wr w.heap.size s pos (pos + (Utf8.decode s pos).2) hit
      have hb2 := Lib.below_iterAt hb (k := w.heap.size) (Nat.le_refl _) s (pos + (Utf8.decode s pos).2)
      have hin := Lx.decode_in s pos hlt
      have hps := Lx.decode_pos s pos hlt
      obtain ⟨W1, hW1⟩ : ∃ W1, W1 = wr.iterAt w.heap.size s (pos + (Utf8.decode s pos).2) := ⟨_, rfl⟩
      rw [← hW1] at hnx hit2 hb2
      clear hW1 hb hit
      have HV := hide (HW.out.trans (Lx.valid_at s pos hlt))
      have DP : Hid (∀ wx, Lib.Utf8Tabs 2 3 wx → Calls Tryz.prog 64 #[.string (s.extract pos s.size)] wx fun e w' => e = .returned (.tuple #[.int .i32 ((Utf8.decode s pos).1 : Nat), .int .i64 ((Utf8.decode s pos).2 : Nat)]) ∧ Below wx.heap.size wx w') := fun wx h => by
        have := DR.out (s.extract pos s.size) wx h
        rw [decodeGo_at s pos hlt] at this
        exact this
      clear HW DR
      by_cases hf : (Utf8.decode s pos).1 = 65533
      · by_cases h1 : (Utf8.decode s pos).2 = 1
        · have HE := hide (HV.out.trans (if_pos ⟨hf, h1⟩))
          have hr1 : ((Utf8.decode s pos).1 : Int) = 65533 := by rw [hf]; rfl
          rw [hr1] at hnx DP
          have hd1 : ((Utf8.decode s pos).2 : Int) = 1 := by rw [h1]; rfl
          rw [hd1] at DP
          clear HV hf hr1 hit2 h1 hin hps hd1
          go_wp2_with (go_at_call 64; refine (DP.out _ (utf_later TT.out hb2)).mono ?_; rintro e w' ⟨rfl, hz⟩; have B3 := hb2.trans (hz.mono hb2.size))
          go_ret
          exact ⟨by rw [HE.out]; rfl, B3⟩
        · have HE := hide (HV.out.trans (if_neg (fun h => h1 h.2)))
          have hr1 : ((Utf8.decode s pos).1 : Int) = 65533 := by rw [hf]; rfl
          rw [hr1] at hnx DP
          obtain ⟨d, hd⟩ : ∃ d, d = (Utf8.decode s pos).2 := ⟨_, rfl⟩
          rw [← hd] at h1 hit2 hin hps HE DP
          have h1i : ¬ (d : Int) = 1 := by omega
          have hk : w.heap.size < W1.heap.size := (Array.getElem?_eq_some_iff.1 hit2).1
          clear HV hf hr1 hd h1
          go_wp2_with (go_at_call 64; refine (DP.out _ (utf_later TT.out hb2)).mono ?_; rintro e w3 ⟨rfl, hz⟩; have B3 := hb2.trans (hz.mono hb2.size); have hit3 : w3.heap[w.heap.size]? = some (.stringIter s (pos + d)) := (hz.block _ hk).trans hit2)
          go_roundw
          case rel => exact ⟨pos + d, hin, hit3, B3, HE⟩
          case measure => rw [iterPos_at hit3, hpos0]; omega
      · have HE := hide (HV.out.trans (if_neg (fun h => hf h.1)))
        have hr1 : ¬ ((Utf8.decode s pos).1 : Int) = 65533 := by omega
        obtain ⟨r, hr⟩ : ∃ r : Int, r = ((Utf8.decode s pos).1 : Nat) := ⟨_, rfl⟩
        rw [← hr] at hnx hr1
        obtain ⟨d, hd⟩ : ∃ d, d = (Utf8.decode s pos).2 := ⟨_, rfl⟩
        rw [← hd] at hit2 hin hps HE
        clear HV DP hf hr hd
        go_wp2
        go_roundw
        case rel => exact ⟨pos + d, hin, hit2, hb2, HE⟩
        case measure => rw [iterPos_at hit2, hpos0]; omega
    · have hnx : ∀ ty, (Instr.next (.pointer (some ⟨w.heap.size, 0, none⟩)) true ty).run Tryz.prog wr = _ := fun ty => Lib.run_next_end_at wr w.heap.size s pos ty hit hlt
      have HE := hide (HW.out.trans (Lx.valid_end s pos hlt))
      clear HW
      go_wp2
      go_ret
      exact ⟨by rw [HE.out]; rfl, hb⟩

theorem enc_ascii : ∀ i : Fin 128, Lib.encodeRune (i.val : Int) = [UInt8.ofNat i.val] := by decide
theorem enc_low (c : UInt8) (h : c.toNat < 128) : Lib.runeCells (if Lx.cap c then (c.toNat : Int) + 32 else c.toNat) = Lib.byteCells [Lx.low c] := by
  rw [← Lib.byteCells_encodeRune]
  congr 1
  unfold Lx.low
  split
  · rename_i hc
    have h32 := Lx.add32 hc
    rw [Lx.cap_iff] at hc
    have := enc_ascii ⟨c.toNat + 32, by omega⟩
    rw [show ((c.toNat : Int) + 32) = ((c.toNat + 32 : Nat) : Int) from by omega]
    rw [this]
    exact congrArg (fun x => [x]) (UInt8.toNat_inj.1 (by rw [h32]; simp; omega))
  · have := enc_ascii ⟨c.toNat, h⟩
    rw [this]
    congr 1
    simp
theorem map_go (s : ByteArray) (pos : Nat) (h : pos < s.size) : (s.data.toList.take pos).map Lx.low ++ [Lx.low (s[pos]'h)] = (s.data.toList.take (pos + 1)).map Lx.low := by
  have hl : pos < s.data.toList.length := by rw [l_size]; exact h
  rw [List.take_succ_eq_append_getElem hl, List.map_append]
  rfl

set_option maxRecDepth 100000 in
set_option maxHeartbeats 3200000 in
theorem small_any (w : World) (s : ByteArray) (hs : s.size ≤ 1099511627776) (hw : ∀ c ∈ s.data.toList, Lx.inw c = true) : Calls Tryz.prog 100 #[.string s] w fun e w' => e = .returned (.string ⟨(s.data.toList.map Lx.low).toArray⟩) ∧ Below w.heap.size w w' := by
  have HWD := hide hw
  have CP := hide (fun wx r => isCapital_any wx r)
  clear hw
  go_enter Tryz.func100, Tryz.ntmps100
  go_wp2
  go_loopw [] (fun wr => ∃ (pos : Nat), pos ≤ s.size ∧ Lib.IsBuilderF 85 5 w.heap.size w.heap.size (Lib.byteCells ((s.data.toList.take pos).map Lx.low)) wr ∧ wr.heap[w.heap.size + 1]? = some (.stringIter s pos) ∧ Below w.heap.size w wr) (fun wr => s.size - wr.iterPos (w.heap.size + 1))
  case atStart =>
    refine ⟨0, Nat.zero_le _, (Lib.IsBuilderF.of (Lib.fresh_isBuilder 85 5 w)).alloc _, ?_, ((Below.refl _ w).alloc (Nat.le_refl _) _).alloc (by simp) _⟩
    have := World.iter_heap (w.alloc (.cells #[.pointer none, .slice none 0 0] 85)) s 0
    simpa using this
  case round =>
    obtain ⟨pos, hp, hI, hit, hb⟩ := hrel
    have hsz : w.heap.size + 1 < wr.heap.size := (Array.getElem?_eq_some_iff.1 hit).1
    have hpos0 := iterPos_at hit
    by_cases hlt : pos < s.size
    · have hnx : ∀ ty, (Instr.next (.pointer (some ⟨w.heap.size + 1, 0, none⟩)) true ty).run Tryz.prog wr = _ := fun ty => Lib.run_next_any_at wr (w.heap.size + 1) s pos ty hit hlt
      have hc : Lx.inw (s[pos]'hlt) = true := HWD.out _ (by rw [show s[pos]'hlt = s.data.toList[pos]'(by rw [l_size]; exact hlt) from rfl]; exact List.getElem_mem _)
      have hlo := Lx.inw_lo _ hc
      have hI2 := hI.iterAt hit (pos + (Utf8.decode s pos).2)
      have hit2 := Lib.iterAt_heap wr (w.heap.size + 1) s pos (pos + (Utf8.decode s pos).2) hit
      have hb2 := Lib.below_iterAt hb (k := w.heap.size + 1) (by omega) s (pos + (Utf8.decode s pos).2)
      have hsz2 : w.heap.size + 1 < (wr.iterAt (w.heap.size + 1) s (pos + (Utf8.decode s pos).2)).heap.size := by rw [Lib.iterAt_size]; omega
      have hcp := hide (Lx.capR_c (s[pos]'hlt))
      have HE := hide (enc_low (s[pos]'hlt) hlo)
      have HM := hide (map_go s pos hlt)
      have hlen : (Lib.byteCells ((s.data.toList.take pos).map Lx.low)).length ≤ s.size := by rw [Lib.byteCells_length, List.length_map]; have := List.length_take_le pos s.data.toList; omega
      rw [decode_ascii s pos hlt hlo] at hnx hI2 hit2 hb2 hsz2
      simp only at hnx hI2 hit2 hb2 hsz2
      obtain ⟨W1, hW1⟩ : ∃ W1, W1 = wr.iterAt (w.heap.size + 1) s (pos + 1) := ⟨_, rfl⟩
      rw [← hW1] at hnx hI2 hit2 hb2 hsz2
      obtain ⟨acc, hacc⟩ : ∃ acc, acc = (s.data.toList.take pos).map Lx.low := ⟨_, rfl⟩
      rw [← hacc] at hI2 hlen HM
      obtain ⟨c, hcc⟩ : ∃ c, c = s[pos]'hlt := ⟨_, rfl⟩
      rw [← hcc] at hnx hcp HE HM hlo
      clear hW1 hb hit hI hacc hcc hc HWD
      cases hca : Lx.cap c
      · have P1 : Hid (Lx.capR (c.toNat : Int) = false) := hcp.out.trans hca
        have HE1 : Hid (Lib.runeCells (c.toNat : Int) = Lib.byteCells [Lx.low c]) := by show _ = _; rw [← HE.out, hca]; rfl
        clear hcp HE hca
        go_wp2_with (first
          | (go_at_call 97; refine (CP.out _ _).mono ?_; rintro e w' ⟨rfl, rfl⟩; rw [P1.out])
          | (go_at_call 66; refine (Tryz.Builder_WriteRune_k w.heap.size w.heap.size _ _ (by omega) (by omega) _ hI2 (by omega) (by omega)).mono ?_; rintro e W2 ⟨rfl, h1, b1, k1⟩; have b2 := hb2.trans b1; have i2 := k1.iter hit2 (by omega); rw [HE1.out, ← Lib.byteCells_append, HM.out] at h1))
        go_roundw
        case rel => exact ⟨pos + 1, by omega, Or.inr h1, i2, b2⟩
        case measure => rw [iterPos_at i2, hpos0]; omega
      · have P1 : Hid (Lx.capR (c.toNat : Int) = true) := hcp.out.trans hca
        have HE1 : Hid (Lib.runeCells ((c.toNat : Int) + 32) = Lib.byteCells [Lx.low c]) := by show _ = _; rw [← HE.out, hca]; rfl
        clear hcp HE hca
        go_wp2_with (first
          | (go_at_call 97; refine (CP.out _ _).mono ?_; rintro e w' ⟨rfl, rfl⟩; rw [P1.out])
          | (go_at_call 66; refine (Tryz.Builder_WriteRune_k w.heap.size w.heap.size _ _ (by omega) (by omega) _ hI2 (by omega) (by omega)).mono ?_; rintro e W2 ⟨rfl, h1, b1, k1⟩; have b2 := hb2.trans b1; have i2 := k1.iter hit2 (by omega); rw [HE1.out, ← Lib.byteCells_append, HM.out] at h1))
        go_roundw
        case rel => exact ⟨pos + 1, by omega, Or.inr h1, i2, b2⟩
        case measure => rw [iterPos_at i2, hpos0]; omega
    · have hnx : ∀ ty, (Instr.next (.pointer (some ⟨w.heap.size + 1, 0, none⟩)) true ty).run Tryz.prog wr = _ := fun ty => Lib.run_next_end_at wr (w.heap.size + 1) s pos ty hit hlt
      rw [List.take_of_length_le (by rw [l_size]; omega)] at hI
      go_wp2_with (go_at_call 32; refine (Tryz.Builder_String_any_k w.heap.size w.heap.size _ _ hI (by omega)).mono ?_; rintro e W1 ⟨rfl, _, b1, _⟩; have b2 := hb.trans b1)
      go_ret
      exact ⟨rfl, b2⟩
end Go.Proofs.YtedamaccflhmfaaGreatDoor
