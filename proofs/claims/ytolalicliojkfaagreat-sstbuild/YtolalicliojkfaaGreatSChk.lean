/-
  Why there is no table of some entries in some shape, and the keys of entries: what the calls answer.
-/
import Derived.Test.YtolalicliojkfaaGreatSTab
import Derived.Test.YtolalicliojkfaaGreatSI
namespace Go.Proofs.YtolalicliojkfaaGreat
open Go.RowKit

/-- Why there is no table of these. -/
def Ss.shapeOk (l : List Mm.Ent) (per bits : Int) : Bool := decide (1 ≤ per) && (decide (per ≤ 64) && (decide (1 ≤ bits) && (decide (bits ≤ 16) && decide (l.length ≠ 0))))
def Ss.checkE (l : List Mm.Ent) (per bits : Int) : Int := if Ss.shapeOk l per bits = false then 2 else if l.length > 65536 then 3 else if l.all Bk.may then if Bk.inOrd l then 0 else 10 else 2

set_option maxRecDepth 100000 in
set_option maxHeartbeats 4000000 in
theorem scheck_shape (w : World) (a : Option Addr) (c n : Nat) (l : List Mm.Ent) (hn : n = l.length) (per bits : Int) (h : Ss.shapeOk l per bits = false) :
    Calls Tryz.prog 19 #[.slice a n c, .int .i64 per, .int .i64 bits] w fun e w' => e = .returned (.int .i64 2) ∧ w' = w := by
  unfold Ss.shapeOk at h
  rw [← hn] at h
  simp only [Bool.and_eq_false_iff, decide_eq_false_iff_not] at h
  by_cases h1 : per < 1
  · go_enter Tryz.func19, Tryz.ntmps19
    go_wp2_with (fail)
    go_ret
    exact ⟨rfl, rfl⟩
  by_cases h2 : per > 64
  · go_enter Tryz.func19, Tryz.ntmps19
    go_wp2_with (fail)
    go_ret
    exact ⟨rfl, rfl⟩
  by_cases h3 : bits < 1
  · go_enter Tryz.func19, Tryz.ntmps19
    go_wp2_with (fail)
    go_ret
    exact ⟨rfl, rfl⟩
  by_cases h4 : bits > 16
  · go_enter Tryz.func19, Tryz.ntmps19
    go_wp2_with (fail)
    go_ret
    exact ⟨rfl, rfl⟩
  have h5 : n = 0 := by
    rcases h with h | h | h | h | h
    · omega
    · omega
    · omega
    · omega
    · exact Classical.not_not.1 h
  subst h5
  clear h
  go_enter Tryz.func19, Tryz.ntmps19
  go_wp2_with (fail)
  go_ret
  exact ⟨rfl, rfl⟩

set_option maxRecDepth 100000 in
set_option maxHeartbeats 8000000 in
theorem scheck_rest (w : World) (a : Option Addr) (c n : Nat) (l : List Mm.Ent) (h : EntsAt w (.slice a n c) l) (hn : n = l.length) (hl : n ≤ 1000000) (hk : ∀ x ∈ l, x.key.length ≤ 1000000 ∧ x.value.length ≤ 1000000) (per bits : Int) (hs : Ss.shapeOk l per bits = true) (S : Int) (HS : Hid (S = Ss.checkE l per bits)) :
    Calls Tryz.prog 19 #[.slice a n c, .int .i64 per, .int .i64 bits] w fun e w' => e = .returned (.int .i64 S) ∧ Below w.heap.size w w' := by
  have HS1 : Hid (S = if l.length > 65536 then 3 else if l.all Bk.may then if Bk.inOrd l then 0 else 10 else 2) := by show _ = _; rw [HS.out, Ss.checkE, if_neg (by rw [hs]; simp)]
  unfold Ss.shapeOk at hs
  rw [← hn] at hs
  simp only [Bool.and_eq_true, decide_eq_true_eq] at hs
  obtain ⟨h1, h2, h3, h4, h5⟩ := hs
  have g1 : ¬ per < 1 := by omega
  have g2 : ¬ per > 64 := by omega
  have g3 : ¬ bits < 1 := by omega
  have g4 : ¬ bits > 16 := by omega
  have g5 : ((n : Int) == 0) = false := by simp; omega
  have H : Hid _ := h
  have HN : Hid (n = l.length) := hn
  have HK : Hid (∀ x ∈ l, x.key.length ≤ 1000000 ∧ x.value.length ≤ 1000000) := hk
  clear h hn hk HS
  by_cases h64 : n > 65536
  · have HF : Hid (S = 3) := by show _ = _; rw [HS1.out, if_pos (by have := HN.out; omega)]
    have g64 : (n : Int) > 65536 := by omega
    clear H HN HK HS1
    go_enter Tryz.func19, Tryz.ntmps19
    go_wp2_with (fail)
    go_ret
    exact ⟨by rw [HF.out]; rfl, Below.refl _ _⟩
  have g64 : ¬ (n : Int) > 65536 := by omega
  have HC : Hid (S = if l.all Bk.may then if Bk.inOrd l then 0 else 10 else 2) := by show _ = _; rw [HS1.out, if_neg (by have := HN.out; omega)]
  clear HS1
  go_enter Tryz.func19, Tryz.ntmps19
  go_wp2_with (fail)
  go_loopw [35] (fun i wr => Below w.heap.size w wr ∧ ∃ j : Nat, j ≤ n ∧ i = .int .i64 j ∧ Hid ((l.take j).all Bk.may = true)) (fun i _ => n - (intOf i).toNat)
  case atStart => exact ⟨Below.refl _ _, 0, Nat.zero_le _, rfl, by show _ = _; simp⟩
  case round =>
    obtain ⟨bx, j, hj, rfl, HT⟩ := hrel
    by_cases hlt : j < n
    · have jl : j < l.length := by have := HN.out; omega
      obtain ⟨b, off, rfl⟩ := H.out.some (by omega)
      obtain ⟨c0, c1, c2, c3⟩ := (H.out.later bx).cells j jl
      have hk := HK.out l[j] (List.getElem_mem jl)
      obtain ⟨x, hx⟩ : ∃ x, x = l[j] := ⟨_, rfl⟩
      rw [← hx] at c0 c1 c2 c3 hk
      have FT : Hid (Bk.may x = true → (l.take (j + 1)).all Bk.may = true) := fun ht => by rw [all_take_e jl HT.out, ← hx]; exact ht
      have FN : Hid (Bk.may x = false → S = 2) := fun hf => by rw [HC.out, all_no_e jl (by rw [← hx]; exact hf)]; rfl
      have MC : Hid (∀ wx, Calls Tryz.prog 52 #[entV x] wx fun r w' => r = .returned (.int .i64 (if Bk.may x then 0 else 2)) ∧ Below wx.heap.size wx w') := fun wx => mcheck_any wx x hk.1 hk.2
      obtain ⟨M, hM⟩ : ∃ M, M = Bk.may x := ⟨_, rfl⟩
      rw [← hM] at FT FN MC
      clear hx H HC HT HN HK jl hk hM
      obtain ⟨K, V, Q, D⟩ := x
      simp only at c0 c1 c2 c3
      cases M with
      | true =>
        have FQ : Hid ((l.take (j + 1)).all Bk.may = true) := FT.out rfl
        clear FN FT
        go_wp2_with (first
          | (go_at_call 52; refine (MC.out _).mono ?_; rintro r w8 ⟨rfl, b8⟩))
        have b9 := (bx.alloc bx.size _).trans (b8.mono (bx.alloc bx.size _).size)
        exact ⟨⟨b9, j + 1, by omega, by go_num, FQ⟩, by simp [intOf]; omega⟩
      | false =>
        have HF : Hid (S = 2) := FN.out rfl
        clear FN FT
        go_wp2_with (first
          | (go_at_call 52; refine (MC.out _).mono ?_; rintro r w8 ⟨rfl, b8⟩))
        go_ret
        exact ⟨by rw [HF.out]; rfl, (bx.alloc bx.size _).trans (b8.mono (bx.alloc bx.size _).size)⟩
    · have i3 : ¬ (j : Int) < (n : Int) := by omega
      have hall : l.all Bk.may = true := by
        have := HT.out
        rw [List.take_of_length_le (by have := HN.out; omega)] at this
        exact this
      have HS : Hid (S = if Bk.inOrd l then 0 else 10) := by show _ = _; rw [HC.out, hall]; rfl
      clear HT HK HC hall
      go_wp2_with (fail)
      go_loopw [10] (fun i wr => Below w.heap.size w wr ∧ ∃ m : Nat, i = .int .i64 (m + 1 : Nat) ∧ Hid (∀ k (h : k + 1 < l.length), k < m → Mm.ahead l[k] l[k + 1] = true)) (fun i _ => n - (intOf i).toNat)
      case atStart => exact ⟨bx, 0, rfl, fun k _ h => absurd h (by omega)⟩
      case round =>
        clear bx
        obtain ⟨bx, m, rfl, HT⟩ := hrel
        by_cases hlt : m + 1 < n
        · have jl : m + 1 < l.length := by have := HN.out; omega
          have jl0 : m < l.length := by omega
          obtain ⟨b, off, rfl⟩ := H.out.some (by omega)
          have AH : Hid (∀ wx, Calls Tryz.prog 48 #[entV l[m], entV l[m + 1]] wx fun r w' => r = .returned (.bool (Mm.ahead l[m] l[m + 1])) ∧ Below wx.heap.size wx w') := fun wx => ahead_any wx _ _
          have KC : Hid (∀ wx, Below wr.heap.size wr wx → (wx.cell? ⟨b, off + m * 4, none⟩ = some (str l[m].key) ∧ wx.cell? ⟨b, off + m * 4 + 1, none⟩ = some (str l[m].value) ∧ wx.cell? ⟨b, off + m * 4 + 2, none⟩ = some (.int .i64 l[m].seq) ∧ wx.cell? ⟨b, off + m * 4 + 3, none⟩ = some (.bool l[m].del)) ∧ wx.cell? ⟨b, off + (m + 1) * 4, none⟩ = some (str l[m + 1].key) ∧ wx.cell? ⟨b, off + (m + 1) * 4 + 1, none⟩ = some (str l[m + 1].value) ∧ wx.cell? ⟨b, off + (m + 1) * 4 + 2, none⟩ = some (.int .i64 l[m + 1].seq) ∧ wx.cell? ⟨b, off + (m + 1) * 4 + 3, none⟩ = some (.bool l[m + 1].del)) := fun wx hw => ⟨((H.out.later bx).later hw).cells m jl0, ((H.out.later bx).later hw).cells (m + 1) jl⟩
          have P1 := KC.out wr.drew (Below.refl _ _).drew
          have qk : (m : Int) + 1 < (n : Int) := by omega
          have mk : (m : Int) < (n : Int) := by omega
          have m0 : (0 : Int) ≤ (m : Int) + 1 := by omega
          have m3 : (0 : Int) ≤ (m : Int) := by omega
          have wm : IntKind.i64.wrap (m : Int) = (m : Int) := by rw [IntKind.wrap_i64]; omega
          have wm1 : IntKind.i64.wrap ((m : Int) + 1) = (m : Int) + 1 := by rw [IntKind.wrap_i64]; omega
          have FN : Hid (Mm.ahead l[m] l[m + 1] = false → S = 10) := fun hf => by
            rw [HS.out]
            cases hI : Bk.inOrd l with
            | false => rfl
            | true => have := (Bk.inOrd_iff l).1 hI m jl; rw [hf] at this; cases this
          have FT : Hid (Mm.ahead l[m] l[m + 1] = true → ∀ k (h : k + 1 < l.length), k < m + 1 → Mm.ahead l[k] l[k + 1] = true) := fun ht k h hk => by
            by_cases e : k = m
            · subst e; exact ht
            · exact HT.out k h (by omega)
          obtain ⟨A, hA⟩ : ∃ A, A = Mm.ahead l[m] l[m + 1] := ⟨_, rfl⟩
          rw [← hA] at AH FN FT
          generalize l[m] = x1 at *
          generalize l[m + 1] = x2 at *
          clear H HS HN HT jl jl0 hA
          rw [show ((m + 1 : Nat) : Int) = (m : Int) + 1 by omega]
          cases A with
          | true =>
            have FQ : Hid (∀ k (h : k + 1 < l.length), k < m + 1 → Mm.ahead l[k] l[k + 1] = true) := FT.out rfl
            clear FN FT
            go_wp2_with (fail)
            go_region_held3 (fun wx => (wx.cell? ⟨b, off + m * 4, none⟩ = some (str x1.key) ∧ wx.cell? ⟨b, off + m * 4 + 1, none⟩ = some (str x1.value) ∧ wx.cell? ⟨b, off + m * 4 + 2, none⟩ = some (.int .i64 x1.seq) ∧ wx.cell? ⟨b, off + m * 4 + 3, none⟩ = some (.bool x1.del)) ∧ wx.cell? ⟨b, off + (m + 1) * 4, none⟩ = some (str x2.key) ∧ wx.cell? ⟨b, off + (m + 1) * 4 + 1, none⟩ = some (str x2.value) ∧ wx.cell? ⟨b, off + (m + 1) * 4 + 2, none⟩ = some (.int .i64 x2.seq) ∧ wx.cell? ⟨b, off + (m + 1) * 4 + 3, none⟩ = some (.bool x2.del))
              (first | exact P1 | exact P2)
              (first
                | (go_at_call 48; refine (AH.out _).mono ?_; rintro r w8 ⟨rfl, b8⟩; have D8 := (Below.refl wr.heap.size wr).drew.trans b8; have P2 := KC.out _ D8))
            go_wp2_with (fail)
            exact ⟨⟨bx.trans (D8.mono bx.size), m + 1, by go_num, FQ⟩, by simp [intOf]; omega⟩
          | false =>
            have HF : Hid (S = 10) := FN.out rfl
            clear FN FT
            go_wp2_with (fail)
            go_region_held3 (fun wx => (wx.cell? ⟨b, off + m * 4, none⟩ = some (str x1.key) ∧ wx.cell? ⟨b, off + m * 4 + 1, none⟩ = some (str x1.value) ∧ wx.cell? ⟨b, off + m * 4 + 2, none⟩ = some (.int .i64 x1.seq) ∧ wx.cell? ⟨b, off + m * 4 + 3, none⟩ = some (.bool x1.del)) ∧ wx.cell? ⟨b, off + (m + 1) * 4, none⟩ = some (str x2.key) ∧ wx.cell? ⟨b, off + (m + 1) * 4 + 1, none⟩ = some (str x2.value) ∧ wx.cell? ⟨b, off + (m + 1) * 4 + 2, none⟩ = some (.int .i64 x2.seq) ∧ wx.cell? ⟨b, off + (m + 1) * 4 + 3, none⟩ = some (.bool x2.del))
              (first | exact P1 | exact P2)
              (first
                | (go_at_call 48; refine (AH.out _).mono ?_; rintro r w8 ⟨rfl, b8⟩; have D8 := (Below.refl wr.heap.size wr).drew.trans b8; have P2 := KC.out _ D8))
            go_wp2_with (fail)
            go_ret
            exact ⟨by rw [HF.out]; rfl, bx.trans (D8.mono bx.size)⟩
        · have i3 : ¬ ((m + 1 : Nat) : Int) < (n : Int) := by omega
          have HF : Hid (S = 0) := by
            show _ = _
            have ht : Bk.inOrd l = true := by rw [Bk.inOrd_iff]; exact fun k hk => HT.out k hk (by have := HN.out; omega)
            rw [HS.out, ht]; rfl
          clear HT H HN HS
          go_wp2_with (fail)
          go_ret
          exact ⟨by rw [HF.out]; rfl, bx⟩
theorem scheck_any (w : World) (a : Option Addr) (c n : Nat) (l : List Mm.Ent) (h : EntsAt w (.slice a n c) l) (hn : n = l.length) (hl : n ≤ 1000000) (hk : ∀ x ∈ l, x.key.length ≤ 1000000 ∧ x.value.length ≤ 1000000) (per bits : Int) :
    Calls Tryz.prog 19 #[.slice a n c, .int .i64 per, .int .i64 bits] w fun e w' => e = .returned (.int .i64 (Ss.checkE l per bits)) ∧ Below w.heap.size w w' := by
  cases hs : Ss.shapeOk l per bits with
  | true => exact scheck_rest w a c n l h hn hl hk per bits hs _ rfl
  | false =>
    refine (scheck_shape w a c n l hn per bits hs).mono ?_
    rintro e w' ⟨rfl, rfl⟩
    exact ⟨by unfold Ss.checkE; rw [if_pos hs], Below.refl _ _⟩
end Go.Proofs.YtolalicliojkfaaGreat
