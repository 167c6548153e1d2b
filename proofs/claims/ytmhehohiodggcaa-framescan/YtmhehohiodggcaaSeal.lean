/-
  Sealed bytes, and when bytes are sealed ones. No program is spoken of here.
-/
import Derived.Test.YtmhehohiodggcaaCrc
namespace Go.Proofs.Ytmhehohiodggcaa

def sealB (l : List UInt8) : List UInt8 := l ++ Crc.le4 (Crc.sum l)
theorem sealB_length (l : List UInt8) : (sealB l).length = l.length + 4 := by unfold sealB; rw [List.length_append]; rfl
/-- The number of four bytes. -/
def num4 (l : List UInt8) : Nat := (l.getD 0 0).toNat + 256 * (l.getD 1 0).toNat + 65536 * (l.getD 2 0).toNat + 16777216 * (l.getD 3 0).toNat

def opnB (l : List UInt8) : Bool := decide (4 ≤ l.length) && decide (num4 (l.drop (l.length - 4)) = Crc.sum (l.take (l.length - 4)))
def opnL (l : List UInt8) : List UInt8 := if opnB l = true then l.take (l.length - 4) else []

/-- Four bytes are those of one number alone. -/
theorem le4_num4 (l : List UInt8) (h : l.length = 4) : Crc.le4 (num4 l) = l := by
  match l, h with
  | [c0, c1, c2, c3], _ =>
    have l0 := UInt8.toNat_lt c0
    have l1 := UInt8.toNat_lt c1
    have l2 := UInt8.toNat_lt c2
    have l3 := UInt8.toNat_lt c3
    have e : num4 [c0, c1, c2, c3] = c0.toNat + 256 * c1.toNat + 65536 * c2.toNat + 16777216 * c3.toNat := rfl
    have g : ∀ (n : Nat) (c : UInt8), n % 256 = c.toNat → UInt8.ofNat n = c := fun n c hn => by
      apply UInt8.toNat_inj.mp
      rw [UInt8.toNat_ofNat', hn]
    unfold Crc.le4
    rw [e, g _ c0 (by omega), g _ c1 (by omega), g _ c2 (by omega), g _ c3 (by omega)]
theorem num4_le4 (s : Nat) (h : s < 4294967296) : num4 (Crc.le4 s) = s := by
  have e : num4 (Crc.le4 s) = (UInt8.ofNat s).toNat + 256 * (UInt8.ofNat (s / 256)).toNat + 65536 * (UInt8.ofNat (s / 65536)).toNat + 16777216 * (UInt8.ofNat (s / 16777216)).toNat := rfl
  rw [e, UInt8.toNat_ofNat', UInt8.toNat_ofNat', UInt8.toNat_ofNat', UInt8.toNat_ofNat']
  omega
theorem num4_lt (l : List UInt8) : num4 l < 4294967296 := by
  have l0 := UInt8.toNat_lt (l.getD 0 0)
  have l1 := UInt8.toNat_lt (l.getD 1 0)
  have l2 := UInt8.toNat_lt (l.getD 2 0)
  have l3 := UInt8.toNat_lt (l.getD 3 0)
  unfold num4
  omega
/-- Bytes open just if they are the bytes in front, sealed. -/
theorem opnB_iff (l : List UInt8) (h : 4 ≤ l.length) : opnB l = true ↔ sealB (l.take (l.length - 4)) = l := by
  have hd : (l.drop (l.length - 4)).length = 4 := by rw [List.length_drop]; omega
  unfold opnB sealB
  rw [decide_eq_true h, Bool.true_and, decide_eq_true_eq]
  constructor
  · intro e
    rw [← e, le4_num4 _ hd]
    exact List.take_append_drop _ _
  · intro e
    have e2 : l.take (l.length - 4) ++ Crc.le4 (Crc.sum (l.take (l.length - 4))) = l.take (l.length - 4) ++ l.drop (l.length - 4) := by rw [e, List.take_append_drop]
    rw [← List.append_cancel_left e2, num4_le4 _ (Crc.sum_lt _)]
theorem opnB_seal (l : List UInt8) : opnB (sealB l) = true := by
  have h4 : 4 ≤ (sealB l).length := by rw [sealB_length]; omega
  rw [opnB_iff _ h4, sealB_length, Nat.add_sub_cancel]
  congr 1
  unfold sealB
  exact List.take_left' rfl
theorem opnL_seal (l : List UInt8) : opnL (sealB l) = l := by
  unfold opnL
  rw [opnB_seal, if_pos rfl, sealB_length, Nat.add_sub_cancel]
  unfold sealB
  exact List.take_left' rfl
end Go.Proofs.Ytmhehohiodggcaa
