/-
  Sealed bytes by their definition: the bytes, and the four of their checksum behind them.
-/
import Derived.Test.YtolalicliojkfaaGreatJRMore
import Derived.Test.YtolalicliojkfaaGreatSE
namespace Go.Proofs.YtolalicliojkfaaGreat
open Go.RowKit

theorem bc_le4 (s : Nat) (hs : s < 4294967296) : bc (Crc.le4 s) = [.int .u8 ((s : Int) % 256), .int .u8 ((s : Int) / 256 % 256), .int .u8 ((s : Int) / 65536 % 256), .int .u8 ((s : Int) / 16777216)] := by
  have e0 : ((UInt8.ofNat s).toNat : Int) = (s : Int) % 256 := ofNat_cell s
  have e1 : ((UInt8.ofNat (s / 256)).toNat : Int) = (s : Int) / 256 % 256 := by rw [ofNat_cell]; omega
  have e2 : ((UInt8.ofNat (s / 65536)).toNat : Int) = (s : Int) / 65536 % 256 := by rw [ofNat_cell]; omega
  have e3 : ((UInt8.ofNat (s / 16777216)).toNat : Int) = (s : Int) / 16777216 := by rw [ofNat_cell]; omega
  unfold bc Crc.le4
  simp only [List.map_cons, List.map_nil]
  rw [e0, e1, e2, e3]
theorem cell_four (w : World) (s : Nat) (hs : s < 4294967296) : ∀ j u, (bc (Crc.le4 s))[j]? = some u →
    (w.alloc (.cells #[.int .u8 ((s : Int) % 256), .int .u8 ((s : Int) / 256 % 256), .int .u8 ((s : Int) / 65536 % 256), .int .u8 ((s : Int) / 16777216)] 5)).cell? ((⟨w.heap.size, 0, none⟩ : Addr).add j) = some u := by
  intro j u hu
  rw [bc_le4 s hs] at hu
  exact World.news_of_block (heap_alloc_new w _) j u hu

set_option maxHeartbeats 1600000 in
theorem refSealed_any (w : World) (a0 : Option Addr) (c0 : Nat) (l : List UInt8) (h : BytesIn w (.slice a0 l.length c0) l) (hn : a0 = none → c0 = 0) (hl : l.length ≤ 140737488351232) :
    Calls Tryz.prog 68 #[.slice a0 l.length c0] w fun e w' => ∃ g cap, e = .returned (.slice (some ⟨g, 0, none⟩) (l.length + 4) cap) ∧ Ext w.heap.size w (.slice none 0 0) w' (.slice (some ⟨g, 0, none⟩) (l.length + 4) cap) (sealB l) := by
  obtain ⟨s, hs⟩ : ∃ s, s = Crc.sum l := ⟨_, rfl⟩
  have hsl : s < 4294967296 := by rw [hs]; exact Crc.sum_lt l
  have SM : Hid (Calls Tryz.prog 85 #[.slice a0 l.length c0] w fun e w' => e = .returned (.int .u32 (s : Int)) ∧ Below w.heap.size w w') := by rw [hs]; exact refSum_any w _ l h
  have SE : Hid (l ++ Crc.le4 s = sealB l) := by show _ = _; rw [hs]; rfl
  have LN : Hid (∀ wx, Below w.heap.size w wx → BytesIn wx (.slice a0 l.length c0) l) := fun wx hw => h.later hw
  have LL : Hid (l.length + (Crc.le4 s).length ≤ 140737488355328) := by show _ + 4 ≤ _; omega
  clear hs h
  go_enter Tryz.func68, Tryz.ntmps68
  go_wp2_with (first
    | (go_at_call 85; refine SM.out.mono ?_; rintro e w1 ⟨rfl, hb1⟩; have L0 := Ext.lit0 w.heap.size w1 #[] [] 0 hb1.size rfl rfl (by decide); have K1 := hb1.alloc hb1.size (.cells #[] 5); have V1 := LN.out _ K1; clear SM LN)
    | (at_builtin; refine wpList_copy_bytes _ rfl _ _ rfl w.heap.size w1.heap.size l l.length c0 rfl rfl L0.own a0 rfl V1 hn (by omega) K1.size ?_; intro g2 cap2 L2 w2 HL2 hx2; have R2 := L0.trans hx2; have O2 : w2.ownsRow w.heap.size 5 1 (.slice (some ⟨g2, 0, none⟩) L2 cap2) l.length (bc l) := R2.own; have z2 := R2.size; have zz : ∀ o, w.heap.size ≤ (w2.alloc o).heap.size := (fun o => by have := hb1.size; simp; omega); clear L0 hx2 V1 K1)
    | (at_builtin; refine wpList_append_bytes _ rfl _ _ rfl w.heap.size _ l (Crc.le4 s) rfl (O2.alloc _) ⟨w2.heap.size, 0, none⟩ 4 4 rfl rfl (cell_four w2 s hsl) (Nat.succ_pos _) LL.out (zz _) ?_; intro g3 cap3 L3 w3 HL3 hx3 _; have R3 := (R2.alloc _).trans hx3; clear R2 O2 hx3))
  go_ret
  rw [SE.out] at R3 HL3
  have e := HL3.out
  rw [sealB_length] at e
  subst e
  exact ⟨g3, cap3, rfl, ⟨R3.own, grownBy_trans (⟨hb1.os, hb1.tape, hb1.output, hb1.size, fun i hi _ => hb1.block i hi⟩ : w.grownBy w1 none) R3.grown (.inl rfl), by
    rcases R3.lies with h | ⟨g, h, hg⟩
    · exact .inl h
    · exact .inr ⟨g, h, Nat.le_trans hb1.size hg⟩⟩⟩
end Go.Proofs.YtolalicliojkfaaGreat
