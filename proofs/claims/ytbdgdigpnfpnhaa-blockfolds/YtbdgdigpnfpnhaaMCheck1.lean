/-
  Whether a list of writes may be: the inner calls and Check.
-/
import Derived.Test.YtbdgdigpnfpnhaaKA
import Derived.Maps.OwnSet
import Derived.Maps.AppendAt
namespace Go.Proofs.Ytbdgdigpnfpnhaa
open Go.RowKit Go.Maps

theorem all_take {l : List Wl.Wr} {j : Nat} (h : j < l.length) (ht : (l.take j).all Wl.mayBe = true) : (l.take (j + 1)).all Wl.mayBe = Wl.mayBe l[j] := by
  rw [List.take_succ_eq_append_getElem h, List.all_append, ht]
  simp
theorem all_no {l : List Wl.Wr} {j : Nat} (h : j < l.length) (hf : Wl.mayBe l[j] = false) : l.all Wl.mayBe = false := by
  rw [List.all_eq_false]
  exact ⟨l[j], List.getElem_mem h, by rw [hf]; simp⟩

set_option maxRecDepth 100000 in
set_option maxHeartbeats 2000000 in
theorem allMayBe_any (w : World) (a : Option Addr) (c n : Nat) (l : List Wl.Wr) (h : WrsAt w (.slice a n c) l) (hn : n = l.length) (hl : n ≤ 64) (hk : ∀ x ∈ l, x.key.length ≤ 1000000000 ∧ x.value.length ≤ 1000000000) (S : Bool) (HS : Hid (S = l.all Wl.mayBe)) :
    Calls Try.prog 70 #[.slice a n c] w fun e w' => e = .returned (.bool S) ∧ Below w.heap.size w w' := by
  have H : Hid _ := h
  have HN : Hid (n = l.length) := hn
  have HK : Hid (∀ x ∈ l, x.key.length ≤ 1000000000 ∧ x.value.length ≤ 1000000000) := hk
  clear h hn hk
  go_enter Try.func70, Try.ntmps70
  go_wp2_with (fail)
  go_loopw [7] (fun i wr => Below w.heap.size w wr ∧ ∃ j : Nat, j ≤ n ∧ i = .int .i64 j ∧ Hid ((l.take j).all Wl.mayBe = true)) (fun i _ => n - (intOf i).toNat)
  case atStart => exact ⟨Below.refl _ _, 0, Nat.zero_le _, rfl, by show _ = _; simp⟩
  case round =>
    obtain ⟨bx, j, hj, rfl, HT⟩ := hrel
    by_cases hlt : j < n
    · have jl : j < l.length := by have := HN.out; omega
      obtain ⟨b, off, rfl⟩ := H.out.some (by omega)
      obtain ⟨c0, c1, c2⟩ := (H.out.later bx).cells j jl
      have hk := HK.out l[j] (List.getElem_mem jl)
      obtain ⟨x, hx⟩ : ∃ x, x = l[j] := ⟨_, rfl⟩
      rw [← hx] at c0 c1 c2 hk
      have FT : Hid ((l.take (j + 1)).all Wl.mayBe = Wl.mayBe x) := by show _ = _; rw [hx]; exact all_take jl HT.out
      have FN : Hid (Wl.mayBe x = false → S = false) := fun hf => by rw [HS.out]; exact all_no jl (by rw [← hx]; exact hf)
      clear hx H HS HT HN HK jl
      obtain ⟨K, V, D⟩ := x
      obtain ⟨hK, hV⟩ := hk
      simp only at c0 c1 c2 hK hV
      match K with
      | [] =>
        have HF : Hid (S = false) := FN.out rfl
        clear FN FT
        go_wp2_with (fail)
        go_ret
        exact ⟨by rw [HF.out]; rfl, bx.alloc bx.size _⟩
      | k0 :: K =>
        by_cases g0 : ((k0 :: K).length : Int) > 512
        · have HF : Hid (S = false) := FN.out (by simp only [Wl.mayBe]; rw [decide_eq_false (p := (k0 :: K).length ≤ 512) (by omega)]; simp)
          rw [List.length_cons] at g0 hK
          clear FN FT
          go_wp2_with (fail)
          go_ret
          exact ⟨by rw [HF.out]; rfl, bx.alloc bx.size _⟩
        by_cases g1 : (V.length : Int) > 4096
        · have HF : Hid (S = false) := FN.out (by simp only [Wl.mayBe]; rw [decide_eq_false (p := V.length ≤ 4096) (by omega)]; simp)
          rw [List.length_cons] at g0 hK
          clear FN FT
          go_wp2_with (fail)
          go_ret
          exact ⟨by rw [HF.out]; rfl, bx.alloc bx.size _⟩
        cases D with
        | false =>
          have HF : Hid ((l.take (j + 1)).all Wl.mayBe = true) := by
            show _ = _
            rw [FT.out]
            simp only [Wl.mayBe]
            rw [decide_eq_true (p := (k0 :: K).length ≤ 512) (by omega), decide_eq_true (p := V.length ≤ 4096) (by omega)]
            simp
          rw [List.length_cons] at g0 hK
          clear FN FT
          go_wp2_with (fail)
          exact ⟨⟨bx.alloc bx.size _, j + 1, by omega, rfl, HF⟩, by simp [intOf]; omega⟩
        | true =>
          match V with
          | [] =>
            have HF : Hid ((l.take (j + 1)).all Wl.mayBe = true) := by
              show _ = _
              rw [FT.out]
              simp only [Wl.mayBe]
              rw [decide_eq_true (p := (k0 :: K).length ≤ 512) (by omega)]
              simp
            rw [List.length_cons] at g0 hK
            clear FN FT
            go_wp2_with (fail)
            exact ⟨⟨bx.alloc bx.size _, j + 1, by omega, rfl, HF⟩, by simp [intOf]; omega⟩
          | v0 :: V =>
            have HF : Hid (S = false) := FN.out (by simp [Wl.mayBe])
            rw [List.length_cons] at g0 hK g1 hV
            clear FN FT
            go_wp2_with (fail)
            go_ret
            exact ⟨by rw [HF.out]; rfl, bx.alloc bx.size _⟩
    · have i3 : ¬ (j : Int) < (n : Int) := by omega
      have HF : Hid (S = true) := by
        show _ = _
        rw [HS.out]
        have := HT.out
        rw [List.take_of_length_le (by have := HN.out; omega)] at this
        exact this
      clear HT H HK HN HS
      go_wp2_with (fail)
      go_ret
      exact ⟨by rw [HF.out]; rfl, bx⟩
end Go.Proofs.Ytbdgdigpnfpnhaa
