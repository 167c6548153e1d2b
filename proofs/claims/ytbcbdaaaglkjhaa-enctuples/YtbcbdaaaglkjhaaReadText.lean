/-
  Reading a text's bytes up to their end: what the inner call answers, at every text; it leaves all that was there as it was.
-/
import Derived.Test.YtbcbdaaaglkjhaaTuple
namespace Go.Proofs.Ytbcbdaaaglkjhaa
open Go.RowKit

/-- The text with which these bytes begin, behind 'acc', and how many bytes it has; z: the byte ahead was a 0. -/
def rt : List UInt8 → Nat → List UInt8 → Bool → Option (List UInt8 × Nat)
  | [], _, _, _ => none
  | c :: r, i, acc, true => if c = 1 then some (acc, i + 1) else if c = 255 then (if acc.length = 64 then none else rt r (i + 1) (acc ++ [0]) false) else none
  | c :: r, i, acc, false => if c = 0 then rt r (i + 1) acc true else if acc.length = 64 then none else rt r (i + 1) (acc ++ [c]) false

def rtT (S : List UInt8) : ByteArray := match rt S 0 [] false with | none => ByteArray.empty | some p => ⟨p.1.toArray⟩
def rtN (S : List UInt8) : Nat := match rt S 0 [] false with | none => 0 | some p => p.2

theorem rt_none {S : List UInt8} (h : rt S 0 [] false = none) : Hid (rtT S = ByteArray.empty) ∧ Hid (rtN S = 0) := ⟨by show _ = _; unfold rtT; rw [h], by show _ = _; unfold rtN; rw [h]⟩
theorem rt_some {S : List UInt8} {p : List UInt8 × Nat} (h : rt S 0 [] false = some p) : Hid (rtT S = ⟨p.1.toArray⟩) ∧ Hid (rtN S = p.2) := ⟨by show _ = _; unfold rtT; rw [h], by show _ = _; unfold rtN; rw [h]⟩

theorem drop_at (s : ByteArray) (j : Nat) (h : j < s.size) : s.data.toList.drop j = s[j] :: s.data.toList.drop (j + 1) := by
  rw [List.drop_eq_getElem_cons (by rw [Array.length_toList]; exact h)]; rfl

theorem Ext.shape {base : Nat} {a b : World} {u v : Value} {l : List UInt8} (h : Ext base a u b v l) : ∃ ad cap, v = .slice ad l.length cap := by
  rcases h.own.2 with ⟨rfl, h0⟩ | ⟨g, cap, cur, rfl, _⟩
  · exact ⟨none, 0, by rw [h0]⟩
  · exact ⟨_, cap, rfl⟩

theorem u8_beq (c : UInt8) (n : Nat) (h : n < 256) : ((c.toNat : Int) == (n : Int)) = decide (c = UInt8.ofNat n) := by
  rw [Bool.eq_iff_iff]
  simp only [beq_iff_eq, decide_eq_true_eq]
  constructor
  · intro e; apply UInt8.toNat_inj.mp; rw [UInt8.toNat_ofNat']; omega
  · intro e; rw [e, UInt8.toNat_ofNat']; omega

theorem is0 (c : UInt8) : ((c.toNat : Int) == 0) = decide (c = 0) := u8_beq c 0 (by decide)
theorem is1 (c : UInt8) : ((c.toNat : Int) == 1) = decide (c = 1) := u8_beq c 1 (by decide)
theorem is255 (c : UInt8) : ((c.toNat : Int) == 255) = decide (c = 255) := u8_beq c 255 (by decide)
theorem isnt255 (c : UInt8) : ((c.toNat : Int) != 255) = !decide (c = 255) := by unfold bne; rw [is255]

set_option maxHeartbeats 4000000 in
theorem readText_any (w : World) (s : ByteArray) (hs : s.size ≤ 9223372036854775806) :
    Calls Try.prog 62 #[.string s] w fun e w' => e = .returned (.tuple #[.string (rtT s.data.toList), .int .i64 (rtN s.data.toList : Int)]) ∧ Below w.heap.size w w' := by
  obtain ⟨i0, hi, hz0, hz1, hz2⟩ := info_parts Try.info5
  go_enter Try.func62, Try.ntmps62
  go_wp2
  go_loopw [4, 5, 9] (fun x y i wr => ∃ (j : Nat) (acc : List UInt8) (z : Bool) (ad : Option Addr) (cap : Nat), j ≤ s.size ∧ i = .int .i64 j ∧ y = .bool z ∧ x = .slice ad acc.length cap ∧ acc.length ≤ 64 ∧ Ext w.heap.size w (.slice none 0 0) wr (.slice ad acc.length cap) acc ∧ rt s.data.toList 0 [] false = rt (s.data.toList.drop j) j acc z) (fun _ _ i _ => s.size - (intOf i).toNat)
  case atStart => exact ⟨0, [], false, none, 0, Nat.zero_le _, rfl, rfl, rfl, by simp, Ext.nil _ _, by simp⟩
  case round =>
    obtain ⟨j, acc, z, ad, cap, hj, rfl, rfl, rfl, hacc, hext, hr⟩ := hrel
    have HR : Hid (rt s.data.toList 0 [] false = rt (s.data.toList.drop j) j acc z) := hr
    clear hr
    have hsz := hext.size
    have hbel := hext.below (Nat.le_refl _) (by simp [Value.ownBlock])
    by_cases hlt : j < s.size
    · have HD : Hid (s.data.toList.drop j = s[j] :: s.data.toList.drop (j + 1)) := drop_at s j hlt
      obtain ⟨c, hc⟩ : ∃ c, c = s[j] := ⟨_, rfl⟩
      have i1 := is1 s[j]
      have i0' := is0 s[j]
      have i255 := isnt255 s[j]
      have HD2 : Hid (s.data.toList.drop j = c :: s.data.toList.drop (j + 1)) := by show _ = _; rw [hc]; exact HD.out
      rw [← hc] at i1 i0' i255
      cases z with
      | true =>
        by_cases h1 : c = 1
        · have HS := rt_some (S := s.data.toList) (p := (acc, j + 1)) (by rw [HR.out, HD2.out, rt, if_pos h1])
          have b1 : ((s[j].toNat : Int) == 1) = true := by rw [← hc, h1]; rfl
          have hcv := hext.str
          clear i1 i0' i255 HD HD2 HR h1 hc
          go_wp2
          go_ret2
          exact ⟨by rw [HS.1.out, HS.2.out]; go_num, hbel⟩
        · by_cases h2 : c = 255
          · have b1 : ((s[j].toNat : Int) == 1) = false := by rw [← hc, h2]; rfl
            have b2 : ((s[j].toNat : Int) != 255) = false := by rw [← hc, h2]; rfl
            have b3 : ((s[j].toNat : Int) == 0) = false := by rw [← hc, h2]; rfl
            by_cases h64 : acc.length = 64
            · have HN := rt_none (S := s.data.toList) (by rw [HR.out, HD2.out, rt, if_neg h1, if_pos h2, if_pos h64])
              have b4 : ((acc.length : Int) == 64) = true := by rw [h64]; rfl
              clear i1 i0' i255 HD HD2 HR h1 h2 hc h64
              go_wp2
              go_ret2
              exact ⟨by rw [HN.1.out, HN.2.out]; rfl, hbel⟩
            · have HR2 : Hid (rt s.data.toList 0 [] false = rt (s.data.toList.drop (j + 1)) (j + 1) (acc ++ [0]) false) := by show _ = _; rw [HR.out, HD2.out, rt, if_neg h1, if_pos h2, if_neg h64]
              have b4 : ((acc.length : Int) == 64) = false := by rw [beq_eq_false_iff_ne]; omega
              have hacc2 : acc.length < 64 := by omega
              clear i1 i0' i255 HD HD2 HR h1 h2 hc h64
              go_wp2_with (at_builtin; refine wpList_append_lies _ rfl (.tmp 49) (.tmp 50) 22 rfl w.heap.size 5 i0 (.int .u8 0) 1 1 Try.underlying22 hi hz0 hz1 hz2 rfl (by decide) _ _ _ rfl (hext.own.alloc _) ⟨wr.heap.size, 0, none⟩ 1 1 (bc [0]) rfl rfl (cell_one_new _ _ _) (bc_one _) (by decide) ?a3 ?a4 ?a5 _ rfl ?_)
              case a3 => unfold maxLen; omega
              case a4 => omega
              case a5 => simp; omega
              · intro g cap1 w1 hown1 hgrow1 hat1 hlt1
                have R := hext.push (m := [0]) (n := acc.length + 1) rfl rfl hown1 hgrow1 (by simpa using hat1)
                have R2 : Ext w.heap.size w (.slice none 0 0) w1 (.slice (some ⟨g, 0, none⟩) (acc ++ [0]).length cap1) (acc ++ [0]) := by rw [List.length_append]; exact R
                have HL : Hid ((acc ++ [0]).length = acc.length + 1) := by show _ = _; simp
                clear hown1 hgrow1 hat1 hlt1 hext hsz hbel R
                go_wp2
                go_roundw
                case rel => exact ⟨j + 1, acc ++ [0], false, some ⟨g, 0, none⟩, cap1, by omega, by go_num, rfl, by rw [HL.out], by rw [HL.out]; omega, R2, HR2.out⟩
                case measure => simp [intOf]; omega
          · have HN := rt_none (S := s.data.toList) (by rw [HR.out, HD2.out, rt, if_neg h1, if_neg h2])
            have b1 : ((s[j].toNat : Int) == 1) = false := by rw [← hc, i1]; simp [h1]
            have b2 : ((s[j].toNat : Int) != 255) = true := by rw [← hc, i255]; simp [h2]
            clear i1 i0' i255 HD HD2 HR h1 h2 hc
            go_wp2
            go_ret2
            exact ⟨by rw [HN.1.out, HN.2.out]; rfl, hbel⟩
      | false =>
        by_cases h0 : c = 0
        · have HR2 : Hid (rt s.data.toList 0 [] false = rt (s.data.toList.drop (j + 1)) (j + 1) acc true) := by show _ = _; rw [HR.out, HD2.out, rt, if_pos h0]
          have b3 : ((s[j].toNat : Int) == 0) = true := by rw [← hc, h0]; rfl
          clear i1 i0' i255 HD HD2 HR h0 hc hsz hbel
          go_wp2
          go_roundw
          case rel => exact ⟨j + 1, acc, true, ad, cap, by omega, by go_num, rfl, rfl, hacc, hext, HR2.out⟩
          case measure => simp [intOf]; omega
        · have b3 : ((s[j].toNat : Int) == 0) = false := by rw [← hc, i0']; simp [h0]
          by_cases h64 : acc.length = 64
          · have HN := rt_none (S := s.data.toList) (by rw [HR.out, HD2.out, rt, if_neg h0, if_pos h64])
            have b4 : ((acc.length : Int) == 64) = true := by rw [h64]; rfl
            clear i1 i0' i255 HD HD2 HR h0 hc h64
            go_wp2
            go_ret2
            exact ⟨by rw [HN.1.out, HN.2.out]; rfl, hbel⟩
          · have HR2 : Hid (rt s.data.toList 0 [] false = rt (s.data.toList.drop (j + 1)) (j + 1) (acc ++ [s[j]]) false) := by show _ = _; rw [HR.out, HD2.out, rt, if_neg h0, if_neg h64, hc]
            have b4 : ((acc.length : Int) == 64) = false := by rw [beq_eq_false_iff_ne]; omega
            have hacc2 : acc.length < 64 := by omega
            clear i1 i0' i255 HD HD2 HR h0 hc h64
            go_wp2_with (at_builtin; refine wpList_append_lies _ rfl (.tmp 12) (.tmp 16) 22 rfl w.heap.size 5 i0 (.int .u8 0) 1 1 Try.underlying22 hi hz0 hz1 hz2 rfl (by decide) _ _ _ rfl (hext.own.alloc _) ⟨wr.heap.size, 0, none⟩ 1 1 (bc [s[j]]) rfl rfl (cell_one_new _ _ _) (bc_one _) (by decide) ?d3 ?d4 ?d5 _ rfl ?_)
            case d3 => unfold maxLen; omega
            case d4 => omega
            case d5 => simp; omega
            · intro g cap1 w1 hown1 hgrow1 hat1 hlt1
              have R := hext.push (m := [s[j]]) (n := acc.length + 1) rfl rfl hown1 hgrow1 (by simpa using hat1)
              have R2 : Ext w.heap.size w (.slice none 0 0) w1 (.slice (some ⟨g, 0, none⟩) (acc ++ [s[j]]).length cap1) (acc ++ [s[j]]) := by rw [List.length_append]; exact R
              have HL : Hid ((acc ++ [s[j]]).length = acc.length + 1) := by show _ = _; simp
              clear hown1 hgrow1 hat1 hlt1 hext hsz hbel R
              go_wp2
              go_roundw
              case rel => exact ⟨j + 1, acc ++ [s[j]], false, some ⟨g, 0, none⟩, cap1, by omega, by go_num, rfl, by rw [HL.out], by rw [HL.out]; omega, R2, HR2.out⟩
              case measure => simp [intOf]; omega
    · have HN := rt_none (S := s.data.toList) (by rw [HR.out, List.drop_eq_nil_of_le (by rw [Array.length_toList]; show s.size ≤ _; omega)]; cases z <;> rfl)
      clear HR
      go_wp2
      go_ret2
      exact ⟨by rw [HN.1.out, HN.2.out]; rfl, hbel⟩

theorem rt_le : ∀ (S : List UInt8) (i : Nat) (acc : List UInt8) (z : Bool) (p : List UInt8 × Nat), acc.length ≤ 64 → rt S i acc z = some p → p.2 ≤ i + S.length ∧ p.1.length ≤ 64 := by
  intro S
  induction S with
  | nil => intro i acc z p _ h; cases z <;> simp [rt] at h
  | cons c r ih =>
    intro i acc z p ha h
    cases z with
    | true =>
      rw [rt] at h
      split at h
      · simp only [Option.some.injEq] at h; subst h; exact ⟨by simp, ha⟩
      · split at h
        · split at h
          · cases h
          · have := ih (i + 1) (acc ++ [0]) false p (by simp; omega) h
            simp only [List.length_cons]; omega
        · cases h
    | false =>
      rw [rt] at h
      split at h
      · have := ih (i + 1) acc true p ha h
        simp only [List.length_cons]; omega
      · split at h
        · cases h
        · have := ih (i + 1) (acc ++ [c]) false p (by simp; omega) h
          simp only [List.length_cons]; omega
theorem rtN_le (S : List UInt8) : rtN S ≤ S.length := by
  unfold rtN
  cases h : rt S 0 [] false with
  | none => simp
  | some p => have := (rt_le S 0 [] false p (by simp) h).1; simpa using this
theorem rtT_le (S : List UInt8) : (rtT S).size ≤ 64 := by
  unfold rtT
  cases h : rt S 0 [] false with
  | none => decide
  | some p => have := (rt_le S 0 [] false p (by simp) h).2; show p.1.toArray.size ≤ 64; simpa using this
end Go.Proofs.Ytbcbdaaaglkjhaa
