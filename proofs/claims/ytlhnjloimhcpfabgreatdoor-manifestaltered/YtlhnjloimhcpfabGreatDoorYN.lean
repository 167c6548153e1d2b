/-
  The frame of an edit that fits into one. .. and what follows from it.
-/
import Derived.Test.YtlhnjloimhcpfabGreatDoorYK
import Derived.Test.YtlhnjloimhcpfabGreatDoorFAppend
import Derived.Test.YtlhnjloimhcpfabGreatDoorShelf5
import Derived.Test.YtlhnjloimhcpfabGreatDoorYPR
import Derived.Test.YtlhnjloimhcpfabGreatDoorYA
import Derived.Lib.SmallJoins
namespace Go.Proofs.YtlhnjloimhcpfabGreatDoor
open Go.RowKit

set_option maxRecDepth 100000 in
set_option maxHeartbeats 2000000 in
theorem frames_any (w : World) (a2 a3 : Option Addr) (cap2 cap3 : Nat) (e : Mf.Ed) (hd : IzAt w (.slice a2 e.drops.length cap2) e.drops) (ha : MtsAt w (.slice a3 e.adds.length cap3) e.adds) (hdl : e.drops.length ≤ 1024) (hal : e.adds.length ≤ 1024) (hb : Mf.bounds e = true) (hr : (Mf.recB e).length ≤ 1048576) :
    Calls Tryz.prog 47 #[ev (.slice a2 e.drops.length cap2) (.slice a3 e.adds.length cap3) e.log e.seq e.next] w fun r w' => ∃ g n c, r = .returned (.slice (some ⟨g, 0, none⟩) n c) ∧ Hid (n = (frm (Mf.recB e)).length) ∧ Hid (w'.ownsRow w.heap.size 5 1 (.slice (some ⟨g, 0, none⟩) n c) (frm (Mf.recB e)).length (bc (frm (Mf.recB e)))) ∧ Below w.heap.size w w' := by
  have E0 := hide (EdIn.new w (.slice a2 e.drops.length cap2) (.slice a3 e.adds.length cap3) e.log e.seq e.next)
  have RC : Hid (∀ wx, Below w.heap.size w wx → Calls Tryz.prog 54 #[ev (.slice a2 e.drops.length cap2) (.slice a3 e.adds.length cap3) e.log e.seq e.next] wx fun r w' => ∃ g n c, r = .returned (.slice (some ⟨g, 0, none⟩) n c) ∧ Hid (n = (Mf.recB e).length) ∧ Hid (w'.ownsRow (wx.heap.size + 1) 5 1 (.slice (some ⟨g, 0, none⟩) n c) (Mf.recB e).length (bc (Mf.recB e))) ∧ Below wx.heap.size wx w') := fun wx hw => rec_any wx a2 a3 cap2 cap3 e (hd.later hw) (ha.later hw) (by omega) (by omega) hb
  have FA : Hid (∀ wx b g n c, n = (Mf.recB e).length → wx.ownsRow b 5 1 (.slice (some ⟨g, 0, none⟩) n c) (Mf.recB e).length (bc (Mf.recB e)) → Calls Tryz.prog 31 #[.slice none 0 0, .slice (some ⟨g, 0, none⟩) n c] wx fun r w' => ∃ g' n' c', r = .returned (.tuple #[.slice (some ⟨g', 0, none⟩) n' c', .int .i64 0]) ∧ Hid (n' = (frm (Mf.recB e)).length) ∧ Hid (Ext wx.heap.size wx (.slice none 0 0) w' (.slice (some ⟨g', 0, none⟩) n' c') (frm (Mf.recB e)))) := fun wx b g n c hn ho => by
    subst hn
    refine (fappend_any wx none (some ⟨g, 0, none⟩) 0 c [] (Mf.recB e) ⟨⟨none, 0, rfl, fun h => absurd rfl h⟩, by simp⟩ (bytes_of_own ho (by omega)) (fun _ => rfl) hr (by simp; omega)).mono ?_
    rintro r w' ⟨g', c', rfl, x⟩
    rw [List.nil_append] at x
    have hl : ([] : List UInt8).length + (Mf.recB e).length + 12 = (frm (Mf.recB e)).length := by rw [frm_length]; simp
    exact ⟨g', _, c', rfl, hl, x⟩
  obtain ⟨M, hM⟩ : ∃ M, M = e.drops.length := ⟨_, rfl⟩
  obtain ⟨K, hK⟩ : ∃ K, K = e.adds.length := ⟨_, rfl⟩
  rw [← hM, ← hK] at RC E0 ⊢
  generalize frm (Mf.recB e) = F at FA ⊢
  generalize Mf.recB e = R at RC FA hr
  clear hd ha hdl hal hb hM hK hr
  go_enter Tryz.func47, Tryz.ntmps47
  go_wp2_with (first
    | (go_at_call 54; refine (RC.out _ E0.out.bel).mono ?_; rintro r w2 ⟨g, n, c, rfl, HN, HO, b2⟩; have E2 := hide (E0.out.later b2); clear RC)
    | (go_at_call 31; refine (FA.out _ _ _ _ _ HN.out HO.out).mono ?_; rintro r w3 ⟨g3, n3, c3, rfl, HN3, x3⟩; clear FA))
  go_ret
  have hz := E2.out.bel.size
  have b3 := below_of x3.out.grown
  exact ⟨g3, n3, c3, rfl, HN3, own_lift x3.out.own hz, E2.out.bel.trans (b3.mono hz)⟩
end Go.Proofs.YtlhnjloimhcpfabGreatDoor
namespace Go.Proofs.YtlhnjloimhcpfabGreatDoor
open Go.RowKit

namespace Mf
/-- The name of a file below 100. -/
def nm (n : Nat) : Bs := [109, 97, 110, 105, 102, 101, 115, 116, 45, 48, 48, 48, 48, Wl.dig (n / 10), Wl.dig n]
theorem nm_length (n : Nat) : (nm n).length = 15 := rfl
theorem nm_fine (n : Nat) : Vf.fine (nm n) = true := by
  have h1 := Wl.dig_toNat n
  have h2 := Wl.dig_toNat (n / 10)
  simp only [Vf.fine, nm, List.all_cons, List.all_nil, h1, h2, Bool.and_eq_true, decide_eq_true_eq]
  refine ⟨⟨⟨?_, ?_, ?_, ?_, ?_, ?_, ?_, ?_, ?_, ?_, ?_, ?_, ?_, ?_, ?_, trivial⟩, by simp⟩, by simp⟩ <;> first | decide | omega
theorem nm_inj {n m : Nat} (hn : n < 100) (hm : m < 100) (h : nm n = nm m) : n = m := by
  have h1 : Wl.dig (n / 10) = Wl.dig (m / 10) ∧ Wl.dig n = Wl.dig m := by simpa [nm] using h
  have a := congrArg UInt8.toNat h1.1
  have b := congrArg UInt8.toNat h1.2
  rw [Wl.dig_toNat, Wl.dig_toNat] at a b
  omega
end Mf

theorem ydigs : ∀ n, n < 100 → Lib.decDigits n = if n < 10 then [Wl.dig n] else [Wl.dig (n / 10), Wl.dig n] := by decide +kernel
theorem yrep5 : Lib.repeatL [48] 5 = [48, 48, 48, 48, 48] := by decide +kernel
theorem yrep4 : Lib.repeatL [48] 4 = [48, 48, 48, 48] := by decide +kernel
theorem ydig_ten : Wl.dig 0 = 48 := by decide
theorem ytrim : ∀ n, n < 100 → Lib.trimPrefix (Mf.nm n) [109, 97, 110, 105, 102, 101, 115, 116, 45] = [48, 48, 48, 48, Wl.dig (n / 10), Wl.dig n] := by decide +kernel
theorem yatoi : ∀ n, n < 100 → Lib.atoi [48, 48, 48, 48, Wl.dig (n / 10), Wl.dig n] = some (n : Int) := by decide +kernel

set_option maxRecDepth 100000 in
set_option maxHeartbeats 1000000 in
theorem nameOf_any (w : World) (n : Nat) (h2 : n < 100) : Calls Tryz.prog 20 #[.int .i64 (n : Int)] w fun e w' => e = .returned (str (Mf.nm n)) ∧ Below w.heap.size w w' := by
  have IT := Tryz.strconv_Itoa_small n h2 w
  have hd := ydigs n h2
  by_cases h : n < 10
  · rw [if_pos h] at hd
    rw [hd] at IT
    have RP : Hid (Calls Tryz.prog 45 #[.string ⟨#[48]⟩, .int .i64 5] w fun e w' => e = .returned (.string ⟨#[48, 48, 48, 48, 48]⟩) ∧ Below w.heap.size w w') := by
      have := Tryz.strings_Repeat ⟨#[48]⟩ 5 w (by decide) (by decide)
      rw [show (⟨#[48]⟩ : ByteArray).data.toList = [48] from rfl, yrep5] at this
      exact this
    have HS : Hid (Mf.nm n = [109, 97, 110, 105, 102, 101, 115, 116, 45, 48, 48, 48, 48, 48, Wl.dig n]) := by
      show _ = _
      unfold Mf.nm
      rw [show n / 10 = 0 by omega, ydig_ten]
    rw [HS.out]
    generalize Wl.dig n = d at IT
    clear hd h
    go_enter Tryz.func20, Tryz.ntmps20
    go_wp2_with (first
      | (go_at_call 44; refine IT.mono ?_; rintro e w1 ⟨rfl, rfl⟩)
      | (go_at_call 45; refine RP.out.mono ?_; rintro e w2 ⟨rfl, b2⟩))
    go_ret
    exact ⟨rfl, b2⟩
  · rw [if_neg h] at hd
    rw [hd] at IT
    have RP : Hid (Calls Tryz.prog 45 #[.string ⟨#[48]⟩, .int .i64 4] w fun e w' => e = .returned (.string ⟨#[48, 48, 48, 48]⟩) ∧ Below w.heap.size w w') := by
      have := Tryz.strings_Repeat ⟨#[48]⟩ 4 w (by decide) (by decide)
      rw [show (⟨#[48]⟩ : ByteArray).data.toList = [48] from rfl, yrep4] at this
      exact this
    have HS : Hid (Mf.nm n = [109, 97, 110, 105, 102, 101, 115, 116, 45, 48, 48, 48, 48, Wl.dig (n / 10), Wl.dig n]) := rfl
    rw [HS.out]
    generalize Wl.dig n = d at IT
    generalize Wl.dig (n / 10) = c at IT
    clear hd h
    go_enter Tryz.func20, Tryz.ntmps20
    go_wp2_with (first
      | (go_at_call 44; refine IT.mono ?_; rintro e w1 ⟨rfl, rfl⟩)
      | (go_at_call 45; refine RP.out.mono ?_; rintro e w2 ⟨rfl, b2⟩))
    go_ret
    exact ⟨rfl, b2⟩
end Go.Proofs.YtlhnjloimhcpfabGreatDoor
