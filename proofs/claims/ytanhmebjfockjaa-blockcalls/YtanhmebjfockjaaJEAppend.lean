/-
  Writing a number behind a list of bytes: the call answers, in new memory, the list's bytes and the number's behind them, and leaves all that was there as it was.
-/
import Derived.Test.YtanhmebjfockjaaJELeb
import Derived.Test.YtanhmebjfockjaaJKMake
namespace Go.Proofs.Ytanhmebjfockjaa.Enc
open Go.RowKit

/-- A nil slice has no room. -/
def NilBare (v : Value) : Prop := ∀ len cap, v = .slice none len cap → cap = 0

theorem or128 (c : Nat) (h : c < 256) : bits .or .u8 (c : Int) 128 = ((c % 128 + 128 : Nat) : Int) := by
  have : ∀ c : Fin 256, bits .or .u8 (c.val : Int) 128 = ((c.val % 128 + 128 : Nat) : Int) := by decide +kernel
  exact this ⟨c, h⟩
theorem or_more (X : Nat) : bits .or .u8 ((X : Int) % 256) 128 = ((UInt8.ofNat (X % 128 + 128)).toNat : Int) := by
  have e : (X : Int) % 256 = ((X % 256 : Nat) : Int) := by omega
  rw [e, or128 _ (by omega), more_toNat]
  have : X % 256 % 128 = X % 128 := by omega
  rw [this]

set_option maxHeartbeats 800000 in
theorem append_any (w : World) (v : Value) (l : List UInt8) (x : Nat) (h : BytesIn w v l) (hnil : NilBare v) (hx : x < 18446744073709551616) (hlen : l.length ≤ 140737488351232) :
    Calls Try.prog 98 #[v, .int .u64 (x : Int)] w fun e w' => ∃ v', e = .returned v' ∧ Ext w.heap.size w (.slice none 0 0) w' v' (l ++ leb x) := by
  obtain ⟨i0, hi, hz0, hz1, hz2⟩ := info_parts Try.info5
  obtain ⟨⟨a, cap, rfl, hf⟩, _⟩ := h
  have hno : a = none → l.length = 0 ∧ cap = 0 := fun e => by
    subst e
    refine ⟨?_, hnil _ _ rfl⟩
    by_cases h0 : l = []
    · rw [h0]; rfl
    · obtain ⟨b, off, hb, _⟩ := hf h0; cases hb
  have hl10 : Hid ((leb x).length ≤ 10) := leb_len64 x hx
  have HX : Hid (x < 18446744073709551616) := hx
  clear hx hnil
  go_enter Try.func98, Try.ntmps98
  go_wp2_with (at_make; refine wpList_make_own _ rfl _ _ 53 rfl w.heap.size 5 i0 (.int .u8 0) 1 Try.underlying53 hi hz0 hz1 _ _ _ (l.length + 10) rfl rfl ?m1 ?m2 ?m3 (Nat.le_refl _) ?_)
  case m1 => simp
  case m2 => rw [hz2]; omega
  case m3 => unfold maxLen; omega
  · intro w1 hown1 hgrow1
    have hcells : ∀ ad, a = some ad → ∀ j u, (bc l)[j]? = some u → w1.cell? (ad.add j) = some u := fun ad ha j u hu =>
      hgrow1.cell (BytesIn.cells hf ad ha j u hu) (by simp)
    clear hf
    go_wp2_with (at_builtin; refine wpList_append_fits_any _ rfl (.tmp 9) (.tmp 10) 53 rfl w.heap.size 5 i0 1 Try.underlying53 hi hz1 w.heap.size 0 (l.length + 10) [] rfl hown1 a l.length cap (bc l) rfl ?k1 hno hcells (bc_one _) ?k2 ?_)
    case k1 => rw [bc_length]; omega
    case k2 => omega
    · intro w2 hown2 hgrow2
      have hst : Ext w.heap.size w (.slice none 0 0) w2 (.slice (some ⟨w.heap.size, 0, none⟩) l.length (l.length + 10)) l :=
        ⟨by simpa using hown2, grownBy_trans hgrow1 hgrow2 (.inr ⟨_, rfl, Nat.le_refl _⟩), .inr ⟨_, rfl, Nat.le_refl _⟩⟩
      clear hown1 hgrow1 hown2 hgrow2 hcells hno
      go_wp2
      go_loopw [1, 5] (fun y out wr => ∃ (X : Nat) (m : List UInt8), y = .int .u64 X ∧ X < 18446744073709551616 ∧ Ext w.heap.size w (.slice none 0 0) wr out m ∧ m ++ leb X = l ++ leb x) (fun y _ _ => (intOf y).toNat)
      case atStart => exact ⟨x, l, rfl, HX.out, hst, rfl⟩
      case round =>
        obtain ⟨X, m, rfl, hX, hext, hm⟩ := hrel
        have HM : Hid (m ++ leb X = l ++ leb x) := hm
        have hl : m.length ≤ 140737488351242 := by
          have h1 := congrArg List.length hm
          have h2 := hl10.out
          rw [List.length_append, List.length_append] at h1
          omega
        have HXX : Hid (X < 18446744073709551616) := hX
        clear hm hX
        have hs := hext.size
        by_cases hge : (128 : Int) ≤ (X : Int)
        · obtain ⟨c, hc⟩ : ∃ c : UInt8, c = UInt8.ofNat (X % 128 + 128) := ⟨_, rfl⟩
          have HL : Hid (leb X = c :: leb (X / 128)) := by show _ = _; rw [hc]; exact leb_great X (by omega)
          have hb := or_more X
          rw [← hc] at hb
          clear hc
          go_wp2_with (at_builtin; refine wpList_append_lies _ rfl (.tmp 16) (.tmp 20) 53 rfl w.heap.size 5 i0 (.int .u8 0) 1 1 Try.underlying53 hi hz0 hz1 hz2 rfl (by decide) _ _ _ rfl (hext.own.alloc _) ⟨wr.heap.size, 0, none⟩ 1 1 (bc [c]) rfl rfl (cell_one_new _ _ _) (bc_one _) (by decide) ?c3 ?c4 ?c5 _ rfl ?_)
          case c3 => unfold maxLen; omega
          case c4 => omega
          case c5 => simp; omega
          · intro g cap1 w3 hown3 hgrow3 hat3 hlt3
            have R := hext.push (m := [c]) rfl rfl hown3 hgrow3 (by simpa using hat3)
            have HR : Hid (m ++ [c] ++ leb (X / 128) = l ++ leb x) := by
              show _ = _
              rw [← HM.out, HL.out]; simp
            clear hown3 hgrow3 hat3 hlt3 hext hst hs
            go_wp2
            go_roundw
            case rel => exact ⟨X / 128, _, by go_num, by have := HXX.out; omega, R, HR.out⟩
            case measure => simp [intOf]; omega
        · have HL : Hid (leb X = [UInt8.ofNat X]) := leb_small X (by omega)
          have hb : ((UInt8.ofNat X).toNat : Int) = (X : Int) := by rw [low_toNat X (by omega)]
          go_wp2_with (at_builtin; refine wpList_append_lies _ rfl (.tmp 22) (.tmp 25) 53 rfl w.heap.size 5 i0 (.int .u8 0) 1 1 Try.underlying53 hi hz0 hz1 hz2 rfl (by decide) _ _ _ rfl (hext.own.alloc _) ⟨wr.heap.size, 0, none⟩ 1 1 [.int .u8 (X : Int)] rfl rfl (cell_one_new _ _ _) ?e2 (by decide) ?e3 ?e4 ?e5 _ rfl ?_)
          case e2 => rfl
          case e3 => unfold maxLen; omega
          case e4 => omega
          case e5 => omega
          · intro g cap1 w3 hown3 hgrow3 hat3 hlt3
            have R := hext.push (m := [UInt8.ofNat X]) rfl rfl (by simp only [bc, List.map_cons, List.map_nil, hb]; exact hown3) hgrow3 (by simpa using hat3)
            have HR : Hid (m ++ [UInt8.ofNat X] = l ++ leb x) := by
              show _ = _
              rw [← HM.out, HL.out]
            rw [HR.out] at R
            clear hown3 hgrow3 hat3 hlt3 hext hst hs
            go_wp2
            go_ret
            exact ⟨_, rfl, R⟩
end Go.Proofs.Ytanhmebjfockjaa.Enc
