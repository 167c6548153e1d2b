/-
  Package unicode/utf8: the number that the first eight bytes of a list spell.
-/
import Derived.Test.YtjddhakaebkkeaaDoorUBase
import Derived.Shelf.Unicode.ValidAny
import Derived.Lib.ValidAsc
import Derived.Lib.SmallJoins
namespace Go.Proofs.YtjddhakaebkkeaaDoor
open Go.RowKit Go.Shelf Go.Lib
attribute [local go_sem ↓] Go.wp_at_zero Go.wp_at_succ

/-- The bytes of a text lie there, one behind the other. -/
def TxAt (w : World) (b off : Nat) (t : ByteArray) : Prop := ∀ j, j < t.size → w.cell? ⟨b, off + j, none⟩ = some (.int .u8 ((t.get! j).toNat : Int))
theorem TxAt.later {w w' : World} {b off : Nat} {t : ByteArray} (h : TxAt w b off t) (hb : Below w.heap.size w w') : TxAt w' b off t := fun j hj =>
  (hb.cell (World.block_lt_of_cell? w _ (h j hj))).trans (h j hj)
theorem ext_get! (t : ByteArray) (k j : Nat) : (t.extract k t.size).get! j = t.get! (k + j) := by
  rw [← Lib.getD_get!', ← Lib.getD_get!', Lib.ext_list]
  simp [List.getD_eq_getElem?_getD, List.getElem?_drop]
theorem TxAt.skip {w : World} {b off : Nat} {t : ByteArray} (h : TxAt w b off t) (k : Nat) : TxAt w b (off + k) (t.extract k t.size) := fun j hj => by
  rw [ext_get!, Nat.add_assoc]
  exact h (k + j) (by rw [Lib.ext_size] at hj; omega)

set_option maxHeartbeats 8000000 in
set_option maxRecDepth 100000 in
theorem wordB_any (w : World) (b off cap n : Nat) (s : ByteArray) (hs : 8 ≤ s.size) (hn : n = s.size) (hc : TxAt w b off s) :
    Calls Tryd.prog 65 #[.slice (some ⟨b, off, none⟩) n cap] w fun e w' => e = .returned (.int .u64 (Lib.leNat [s.get! 0, s.get! 1, s.get! 2, s.get! 3, s.get! 4, s.get! 5, s.get! 6, s.get! 7])) ∧ ∃ q, w' = w.drewN q := by
  have hc0 := hc 0 (by omega)
  have hc1 := hc 1 (by omega)
  have hc2 := hc 2 (by omega)
  have hc3 := hc 3 (by omega)
  have hc4 := hc 4 (by omega)
  have hc5 := hc 5 (by omega)
  have hc6 := hc 6 (by omega)
  have hc7 := hc 7 (by omega)
  rw [Nat.add_zero] at hc0
  clear hc
  obtain ⟨x0, hx0⟩ : ∃ x0, s.get! 0 = x0 := ⟨_, rfl⟩
  have h0 : x0.toNat < 256 := x0.toNat_lt
  obtain ⟨x1, hx1⟩ : ∃ x1, s.get! 1 = x1 := ⟨_, rfl⟩
  have h1 : x1.toNat < 256 := x1.toNat_lt
  obtain ⟨x2, hx2⟩ : ∃ x2, s.get! 2 = x2 := ⟨_, rfl⟩
  have h2 : x2.toNat < 256 := x2.toNat_lt
  obtain ⟨x3, hx3⟩ : ∃ x3, s.get! 3 = x3 := ⟨_, rfl⟩
  have h3 : x3.toNat < 256 := x3.toNat_lt
  obtain ⟨x4, hx4⟩ : ∃ x4, s.get! 4 = x4 := ⟨_, rfl⟩
  have h4 : x4.toNat < 256 := x4.toNat_lt
  obtain ⟨x5, hx5⟩ : ∃ x5, s.get! 5 = x5 := ⟨_, rfl⟩
  have h5 : x5.toNat < 256 := x5.toNat_lt
  obtain ⟨x6, hx6⟩ : ∃ x6, s.get! 6 = x6 := ⟨_, rfl⟩
  have h6 : x6.toNat < 256 := x6.toNat_lt
  obtain ⟨x7, hx7⟩ : ∃ x7, s.get! 7 = x7 := ⟨_, rfl⟩
  have h7 : x7.toNat < 256 := x7.toNat_lt
  rw [hx0, hx1, hx2, hx3, hx4, hx5, hx6, hx7]
  rw [hx0] at hc0
  rw [hx1] at hc1
  rw [hx2] at hc2
  rw [hx3] at hc3
  rw [hx4] at hc4
  rw [hx5] at hc5
  rw [hx6] at hc6
  rw [hx7] at hc7
  have hv : ((Lib.leNat [x0, x1, x2, x3, x4, x5, x6, x7] : Nat) : Int) = (x0.toNat : Int) + (x1.toNat : Int) * 256 + (x2.toNat : Int) * 65536 + (x3.toNat : Int) * 16777216 + (x4.toNat : Int) * 4294967296 + (x5.toNat : Int) * 1099511627776 + (x6.toNat : Int) * 281474976710656 + (x7.toNat : Int) * 72057594037927936 := by
    simp only [Lib.leNat]
    push_cast
    omega
  have q0 : (0 : Int) < (n : Int) := by omega
  have q1 : (1 : Int) < (n : Int) := by omega
  have q2 : (2 : Int) < (n : Int) := by omega
  have q3 : (3 : Int) < (n : Int) := by omega
  have q4 : (4 : Int) < (n : Int) := by omega
  have q5 : (5 : Int) < (n : Int) := by omega
  have q6 : (6 : Int) < (n : Int) := by omega
  have q7 : (7 : Int) < (n : Int) := by omega
  clear hx0 hx1 hx2 hx3 hx4 hx5 hx6 hx7 hn
  go_enter Tryd.func65, Tryd.ntmps65
  go_wp2
  go_quiet (fail)
  go_wp2
  go_ret
  refine ⟨?_, _, rfl⟩
  simp (disch := omega) only [u64_or8, u64_or16, u64_or24, u64_or32, u64_or40, u64_or48, u64_or56]
  rw [hv]
  rfl
end Go.Proofs.YtjddhakaebkkeaaDoor
