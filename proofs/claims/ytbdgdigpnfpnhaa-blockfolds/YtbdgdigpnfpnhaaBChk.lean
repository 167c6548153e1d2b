/-
  Whether entries are in order, and why a list of entries is no block: what the two calls answer.
-/
import Derived.Test.YtbdgdigpnfpnhaaKD
import Derived.Test.YtbdgdigpnfpnhaaJMem
namespace Go.Proofs.Ytbdgdigpnfpnhaa
open Go.RowKit

set_option maxRecDepth 100000 in
set_option maxHeartbeats 4000000 in
theorem inOrder_any (w : World) (a : Option Addr) (c n : Nat) (l : List Mm.Ent) (h : EntsAt w (.slice a n c) l) (hn : n = l.length) (hl : n ≤ 1000000) (S : Bool) (HS : Hid (S = Bk.inOrd l)) :
    Calls Try.prog 61 #[.slice a n c] w fun e w' => e = .returned (.bool S) ∧ Below w.heap.size w w' := by
  have H : Hid _ := h
  have HN : Hid (n = l.length) := hn
  clear h hn
  go_enter Try.func61, Try.ntmps61
  go_wp2_with (fail)
  go_loopw [3] (fun i wr => Below w.heap.size w wr ∧ ∃ m : Nat, i = .int .i64 (m + 1 : Nat) ∧ Hid (∀ k (h : k + 1 < l.length), k < m → Mm.ahead l[k] l[k + 1] = true)) (fun i _ => n - (intOf i).toNat)
  case atStart => exact ⟨Below.refl _ _, 0, rfl, fun k _ h => absurd h (by omega)⟩
  case round =>
    obtain ⟨bx, m, rfl, HT⟩ := hrel
    by_cases hlt : m + 1 < n
    · have jl : m + 1 < l.length := by have := HN.out; omega
      have jl0 : m < l.length := by omega
      obtain ⟨b, off, rfl⟩ := H.out.some (by omega)
      have AH : Hid (∀ wx, Calls Try.prog 13 #[entV l[m], entV l[m + 1]] wx fun r w' => r = .returned (.bool (Mm.ahead l[m] l[m + 1])) ∧ Below wx.heap.size wx w') := fun wx => ahead_any wx _ _
      have KC : Hid (∀ wx, Below wr.heap.size wr wx → (wx.cell? ⟨b, off + m * 4, none⟩ = some (str l[m].key) ∧ wx.cell? ⟨b, off + m * 4 + 1, none⟩ = some (str l[m].value) ∧ wx.cell? ⟨b, off + m * 4 + 2, none⟩ = some (.int .i64 l[m].seq) ∧ wx.cell? ⟨b, off + m * 4 + 3, none⟩ = some (.bool l[m].del)) ∧ wx.cell? ⟨b, off + (m + 1) * 4, none⟩ = some (str l[m + 1].key) ∧ wx.cell? ⟨b, off + (m + 1) * 4 + 1, none⟩ = some (str l[m + 1].value) ∧ wx.cell? ⟨b, off + (m + 1) * 4 + 2, none⟩ = some (.int .i64 l[m + 1].seq) ∧ wx.cell? ⟨b, off + (m + 1) * 4 + 3, none⟩ = some (.bool l[m + 1].del)) := fun wx hw => ⟨((H.out.later bx).later hw).cells m jl0, ((H.out.later bx).later hw).cells (m + 1) jl⟩
      have P1 := KC.out wr.drew (Below.refl _ _).drew
      have qk : (m : Int) + 1 < (n : Int) := by omega
      have mk : (m : Int) < (n : Int) := by omega
      have m0 : (0 : Int) ≤ (m : Int) + 1 := by omega
      have m3 : (0 : Int) ≤ (m : Int) := by omega
      have wm : IntKind.i64.wrap (m : Int) = (m : Int) := by rw [IntKind.wrap_i64]; omega
      have wm1 : IntKind.i64.wrap ((m : Int) + 1) = (m : Int) + 1 := by rw [IntKind.wrap_i64]; omega
      have FN : Hid (Mm.ahead l[m] l[m + 1] = false → S = false) := fun hf => by
        rw [HS.out]
        cases hI : Bk.inOrd l with
        | false => rfl
        | true => have := (Bk.inOrd_iff l).1 hI m jl; rw [hf] at this; cases this
      have FT : Hid (Mm.ahead l[m] l[m + 1] = true → ∀ k (h : k + 1 < l.length), k < m + 1 → Mm.ahead l[k] l[k + 1] = true) := fun ht k h hk => by
        by_cases e : k = m
        · subst e; exact ht
        · exact HT.out k h (by omega)
      obtain ⟨A, hA⟩ : ∃ A, A = Mm.ahead l[m] l[m + 1] := ⟨_, rfl⟩
      rw [← hA] at AH FN FT
      generalize l[m] = x1 at *
      generalize l[m + 1] = x2 at *
      clear H HS HN HT jl jl0 hA
      rw [show ((m + 1 : Nat) : Int) = (m : Int) + 1 by omega]
      cases A with
      | true =>
        have FQ : Hid (∀ k (h : k + 1 < l.length), k < m + 1 → Mm.ahead l[k] l[k + 1] = true) := FT.out rfl
        clear FN FT
        go_wp2_with (fail)
        go_region_held3 (fun wx => (wx.cell? ⟨b, off + m * 4, none⟩ = some (str x1.key) ∧ wx.cell? ⟨b, off + m * 4 + 1, none⟩ = some (str x1.value) ∧ wx.cell? ⟨b, off + m * 4 + 2, none⟩ = some (.int .i64 x1.seq) ∧ wx.cell? ⟨b, off + m * 4 + 3, none⟩ = some (.bool x1.del)) ∧ wx.cell? ⟨b, off + (m + 1) * 4, none⟩ = some (str x2.key) ∧ wx.cell? ⟨b, off + (m + 1) * 4 + 1, none⟩ = some (str x2.value) ∧ wx.cell? ⟨b, off + (m + 1) * 4 + 2, none⟩ = some (.int .i64 x2.seq) ∧ wx.cell? ⟨b, off + (m + 1) * 4 + 3, none⟩ = some (.bool x2.del))
          (first | exact P1 | exact P2)
          (first
            | (go_at_call 13; refine (AH.out _).mono ?_; rintro r w8 ⟨rfl, b8⟩; have D8 := (Below.refl wr.heap.size wr).drew.trans b8; have P2 := KC.out _ D8))
        go_wp2_with (fail)
        exact ⟨⟨bx.trans (D8.mono bx.size), m + 1, by go_num, FQ⟩, by simp [intOf]; omega⟩
      | false =>
        have HF : Hid (S = false) := FN.out rfl
        clear FN FT
        go_wp2_with (fail)
        go_region_held3 (fun wx => (wx.cell? ⟨b, off + m * 4, none⟩ = some (str x1.key) ∧ wx.cell? ⟨b, off + m * 4 + 1, none⟩ = some (str x1.value) ∧ wx.cell? ⟨b, off + m * 4 + 2, none⟩ = some (.int .i64 x1.seq) ∧ wx.cell? ⟨b, off + m * 4 + 3, none⟩ = some (.bool x1.del)) ∧ wx.cell? ⟨b, off + (m + 1) * 4, none⟩ = some (str x2.key) ∧ wx.cell? ⟨b, off + (m + 1) * 4 + 1, none⟩ = some (str x2.value) ∧ wx.cell? ⟨b, off + (m + 1) * 4 + 2, none⟩ = some (.int .i64 x2.seq) ∧ wx.cell? ⟨b, off + (m + 1) * 4 + 3, none⟩ = some (.bool x2.del))
          (first | exact P1 | exact P2)
          (first
            | (go_at_call 13; refine (AH.out _).mono ?_; rintro r w8 ⟨rfl, b8⟩; have D8 := (Below.refl wr.heap.size wr).drew.trans b8; have P2 := KC.out _ D8))
        go_wp2_with (fail)
        go_ret
        exact ⟨by rw [HF.out]; rfl, bx.trans (D8.mono bx.size)⟩
    · have i3 : ¬ ((m + 1 : Nat) : Int) < (n : Int) := by omega
      have HF : Hid (S = true) := by
        show _ = _
        rw [HS.out, Bk.inOrd_iff]
        exact fun k hk => HT.out k hk (by have := HN.out; omega)
      clear HT H HN HS
      go_wp2_with (fail)
      go_ret
      exact ⟨by rw [HF.out]; rfl, bx⟩

theorem all_take_e {l : List Mm.Ent} {j : Nat} (h : j < l.length) (ht : (l.take j).all Bk.may = true) : (l.take (j + 1)).all Bk.may = Bk.may l[j] := by
  rw [List.take_succ_eq_append_getElem h, List.all_append, ht]
  simp
theorem all_no_e {l : List Mm.Ent} {j : Nat} (h : j < l.length) (hf : Bk.may l[j] = false) : l.all Bk.may = false := by
  rw [List.all_eq_false]
  exact ⟨l[j], List.getElem_mem h, by rw [hf]; simp⟩
theorem checkE_may (e : Mm.Ent) : Mm.checkE e = if Bk.may e then 0 else 2 := rfl

set_option maxRecDepth 100000 in
set_option maxHeartbeats 4000000 in
theorem bcheck_any (w : World) (a : Option Addr) (c n : Nat) (l : List Mm.Ent) (h : EntsAt w (.slice a n c) l) (hn : n = l.length) (hl : n ≤ 1000000) (hk : ∀ x ∈ l, x.key.length ≤ 1000000 ∧ x.value.length ≤ 1000000) (S : Int) (HS : Hid (S = Bk.checkE l)) :
    Calls Try.prog 78 #[.slice a n c] w fun e w' => e = .returned (.int .i64 S) ∧ Below w.heap.size w w' := by
  have H : Hid _ := h
  have HN : Hid (n = l.length) := hn
  have HK : Hid (∀ x ∈ l, x.key.length ≤ 1000000 ∧ x.value.length ≤ 1000000) := hk
  clear h hn hk
  by_cases h0 : n = 0
  · subst h0
    have HF : Hid (S = 2) := by show _ = _; rw [HS.out, Bk.checkE, if_pos HN.out.symm]
    clear H HN HK HS
    go_enter Try.func78, Try.ntmps78
    go_wp2_with (fail)
    go_ret
    exact ⟨by rw [HF.out]; rfl, Below.refl _ _⟩
  have n0 : ((n : Int) == 0) = false := by simp; omega
  by_cases h64 : n > 64
  · have HF : Hid (S = 3) := by show _ = _; rw [HS.out, Bk.checkE, if_neg (by have := HN.out; omega), if_pos (by have := HN.out; omega)]
    have g64 : (n : Int) > 64 := by omega
    clear H HN HK HS
    go_enter Try.func78, Try.ntmps78
    go_wp2_with (fail)
    go_ret
    exact ⟨by rw [HF.out]; rfl, Below.refl _ _⟩
  have g64 : ¬ (n : Int) > 64 := by omega
  have HC : Hid (S = if l.all Bk.may then if Bk.inOrd l then 0 else 10 else 2) := by show _ = _; rw [HS.out, Bk.checkE, if_neg (by have := HN.out; omega), if_neg (by have := HN.out; omega)]
  clear HS
  go_enter Try.func78, Try.ntmps78
  go_wp2_with (fail)
  go_loopw [14] (fun i wr => Below w.heap.size w wr ∧ ∃ j : Nat, j ≤ n ∧ i = .int .i64 j ∧ Hid ((l.take j).all Bk.may = true)) (fun i _ => n - (intOf i).toNat)
  case atStart => exact ⟨Below.refl _ _, 0, Nat.zero_le _, rfl, by show _ = _; simp⟩
  case round =>
    obtain ⟨bx, j, hj, rfl, HT⟩ := hrel
    by_cases hlt : j < n
    · have jl : j < l.length := by have := HN.out; omega
      obtain ⟨b, off, rfl⟩ := H.out.some (by omega)
      obtain ⟨c0, c1, c2, c3⟩ := (H.out.later bx).cells j jl
      have hk := HK.out l[j] (List.getElem_mem jl)
      obtain ⟨x, hx⟩ : ∃ x, x = l[j] := ⟨_, rfl⟩
      rw [← hx] at c0 c1 c2 c3 hk
      have FT : Hid (Bk.may x = true → (l.take (j + 1)).all Bk.may = true) := fun ht => by rw [all_take_e jl HT.out, ← hx]; exact ht
      have FN : Hid (Bk.may x = false → S = 2) := fun hf => by rw [HC.out, all_no_e jl (by rw [← hx]; exact hf)]; rfl
      have MC : Hid (∀ wx, Calls Try.prog 11 #[entV x] wx fun r w' => r = .returned (.int .i64 (if Bk.may x then 0 else 2)) ∧ Below wx.heap.size wx w') := fun wx => mcheck_any wx x hk.1 hk.2
      obtain ⟨M, hM⟩ : ∃ M, M = Bk.may x := ⟨_, rfl⟩
      rw [← hM] at FT FN MC
      clear hx H HC HT HN HK jl hk hM
      obtain ⟨K, V, Q, D⟩ := x
      simp only at c0 c1 c2 c3
      cases M with
      | true =>
        have FQ : Hid ((l.take (j + 1)).all Bk.may = true) := FT.out rfl
        clear FN FT
        go_wp2_with (first
          | (go_at_call 11; refine (MC.out _).mono ?_; rintro r w8 ⟨rfl, b8⟩))
        have b9 := (bx.alloc bx.size _).trans (b8.mono (bx.alloc bx.size _).size)
        exact ⟨⟨b9, j + 1, by omega, by go_num, FQ⟩, by simp [intOf]; omega⟩
      | false =>
        have HF : Hid (S = 2) := FN.out rfl
        clear FN FT
        go_wp2_with (first
          | (go_at_call 11; refine (MC.out _).mono ?_; rintro r w8 ⟨rfl, b8⟩))
        go_ret
        exact ⟨by rw [HF.out]; rfl, (bx.alloc bx.size _).trans (b8.mono (bx.alloc bx.size _).size)⟩
    · have i3 : ¬ (j : Int) < (n : Int) := by omega
      have hall : l.all Bk.may = true := by
        have := HT.out
        rw [List.take_of_length_le (by have := HN.out; omega)] at this
        exact this
      have IO := inOrder_any wr a c n l (H.out.later bx) HN.out hl _ rfl
      have HF : Hid (S = if Bk.inOrd l then 0 else 10) := by show _ = _; rw [HC.out, hall]; rfl
      generalize Bk.inOrd l = I at IO HF
      clear HT H HK HN HC hall
      cases I with
      | true =>
        go_wp2_with (first
          | (go_at_call 61; refine IO.mono ?_; rintro r w8 ⟨rfl, b8⟩))
        go_ret
        exact ⟨by rw [HF.out]; rfl, bx.trans (b8.mono bx.size)⟩
      | false =>
        go_wp2_with (first
          | (go_at_call 61; refine IO.mono ?_; rintro r w8 ⟨rfl, b8⟩))
        go_ret
        exact ⟨by rw [HF.out]; rfl, bx.trans (b8.mono bx.size)⟩
end Go.Proofs.Ytbdgdigpnfpnhaa
