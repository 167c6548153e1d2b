/-
  The order of entries as the document's own packages ask it. .. and what follows from it.
-/
import Derived.Test.YtbdgdigpnfpnhaaKT
import Derived.Test.YtbdgdigpnfpnhaaKG
namespace Go.Proofs.Ytbdgdigpnfpnhaa.Q
open Go.RowKit

set_option maxHeartbeats 1600000 in
theorem rahead_any (w : World) (a b : Mm.Ent) : Calls Try.prog 14 #[entV a, entV b] w fun e w' => e = .returned (.bool (Mm.ahead a b)) ∧ Below w.heap.size w w' := by
  obtain ⟨k, v, s, d⟩ := a
  obtain ⟨k', v', s', d'⟩ := b
  unfold Mm.ahead entV
  simp only
  by_cases hk : k = k'
  · subst hk
    have hB : Op.bytesLess k k = false := Mm.bl_irrefl k
    rw [if_pos rfl]
    by_cases hs : s' < s
    · have i1 : s > s' := hs
      rw [decide_eq_true hs]
      go_enter Try.func14, Try.ntmps14
      go_wp2_with (fail)
      go_ret
      exact ⟨rfl, ((Below.refl _ _).alloc (Nat.le_refl _) _).alloc (by simp) _⟩
    · have i1 : ¬ s > s' := hs
      rw [decide_eq_false hs]
      go_enter Try.func14, Try.ntmps14
      go_wp2_with (fail)
      go_ret
      exact ⟨rfl, ((Below.refl _ _).alloc (Nat.le_refl _) _).alloc (by simp) _⟩
  · rw [if_neg hk]
    have q : (k == k') = false := by simp [hk]
    cases hB : Op.bytesLess k k' with
    | true =>
      go_enter Try.func14, Try.ntmps14
      go_wp2_with (fail)
      go_ret
      exact ⟨rfl, ((Below.refl _ _).alloc (Nat.le_refl _) _).alloc (by simp) _⟩
    | false =>
      go_enter Try.func14, Try.ntmps14
      go_wp2_with (fail)
      go_ret
      exact ⟨rfl, ((Below.refl _ _).alloc (Nat.le_refl _) _).alloc (by simp) _⟩

set_option maxRecDepth 100000 in
set_option maxHeartbeats 4000000 in
theorem rinOrder_any (w : World) (a : Option Addr) (c n : Nat) (l : List Mm.Ent) (h : EntsAt w (.slice a n c) l) (hn : n = l.length) (hl : n ≤ 1000000) (S : Bool) (HS : Hid (S = Bk.inOrd l)) :
    Calls Try.prog 65 #[.slice a n c] w fun e w' => e = .returned (.bool S) ∧ Below w.heap.size w w' := by
  have H : Hid _ := h
  have HN : Hid (n = l.length) := hn
  clear h hn
  go_enter Try.func65, Try.ntmps65
  go_wp2_with (fail)
  go_loopw [3] (fun i wr => Below w.heap.size w wr ∧ ∃ m : Nat, i = .int .i64 (m + 1 : Nat) ∧ Hid (∀ k (h : k + 1 < l.length), k < m → Mm.ahead l[k] l[k + 1] = true)) (fun i _ => n - (intOf i).toNat)
  case atStart => exact ⟨Below.refl _ _, 0, rfl, fun k _ h => absurd h (by omega)⟩
  case round =>
    obtain ⟨bx, m, rfl, HT⟩ := hrel
    by_cases hlt : m + 1 < n
    · have jl : m + 1 < l.length := by have := HN.out; omega
      have jl0 : m < l.length := by omega
      obtain ⟨b, off, rfl⟩ := H.out.some (by omega)
      have AH : Hid (∀ wx, Calls Try.prog 14 #[entV l[m], entV l[m + 1]] wx fun r w' => r = .returned (.bool (Mm.ahead l[m] l[m + 1])) ∧ Below wx.heap.size wx w') := fun wx => rahead_any wx _ _
      have KC : Hid (∀ wx, Below wr.heap.size wr wx → (wx.cell? ⟨b, off + m * 4, none⟩ = some (str l[m].key) ∧ wx.cell? ⟨b, off + m * 4 + 1, none⟩ = some (str l[m].value) ∧ wx.cell? ⟨b, off + m * 4 + 2, none⟩ = some (.int .i64 l[m].seq) ∧ wx.cell? ⟨b, off + m * 4 + 3, none⟩ = some (.bool l[m].del)) ∧ wx.cell? ⟨b, off + (m + 1) * 4, none⟩ = some (str l[m + 1].key) ∧ wx.cell? ⟨b, off + (m + 1) * 4 + 1, none⟩ = some (str l[m + 1].value) ∧ wx.cell? ⟨b, off + (m + 1) * 4 + 2, none⟩ = some (.int .i64 l[m + 1].seq) ∧ wx.cell? ⟨b, off + (m + 1) * 4 + 3, none⟩ = some (.bool l[m + 1].del)) := fun wx hw => ⟨((H.out.later bx).later hw).cells m jl0, ((H.out.later bx).later hw).cells (m + 1) jl⟩
      have P1 := KC.out wr.drew (Below.refl _ _).drew
      have qk : (m : Int) + 1 < (n : Int) := by omega
      have mk : (m : Int) < (n : Int) := by omega
      have m0 : (0 : Int) ≤ (m : Int) + 1 := by omega
      have m3 : (0 : Int) ≤ (m : Int) := by omega
      have wm : IntKind.i64.wrap (m : Int) = (m : Int) := by rw [IntKind.wrap_i64]; omega
      have wm1 : IntKind.i64.wrap ((m : Int) + 1) = (m : Int) + 1 := by rw [IntKind.wrap_i64]; omega
      have FN : Hid (Mm.ahead l[m] l[m + 1] = false → S = false) := fun hf => by
        rw [HS.out]
        cases hI : Bk.inOrd l with
        | false => rfl
        | true => have := (Bk.inOrd_iff l).1 hI m jl; rw [hf] at this; cases this
      have FT : Hid (Mm.ahead l[m] l[m + 1] = true → ∀ k (h : k + 1 < l.length), k < m + 1 → Mm.ahead l[k] l[k + 1] = true) := fun ht k h hk => by
        by_cases e : k = m
        · subst e; exact ht
        · exact HT.out k h (by omega)
      obtain ⟨A, hA⟩ : ∃ A, A = Mm.ahead l[m] l[m + 1] := ⟨_, rfl⟩
      rw [← hA] at AH FN FT
      generalize l[m] = x1 at *
      generalize l[m + 1] = x2 at *
      clear H HS HN HT jl jl0 hA
      rw [show ((m + 1 : Nat) : Int) = (m : Int) + 1 by omega]
      cases A with
      | true =>
        have FQ : Hid (∀ k (h : k + 1 < l.length), k < m + 1 → Mm.ahead l[k] l[k + 1] = true) := FT.out rfl
        clear FN FT
        go_wp2_with (fail)
        go_region_held3 (fun wx => (wx.cell? ⟨b, off + m * 4, none⟩ = some (str x1.key) ∧ wx.cell? ⟨b, off + m * 4 + 1, none⟩ = some (str x1.value) ∧ wx.cell? ⟨b, off + m * 4 + 2, none⟩ = some (.int .i64 x1.seq) ∧ wx.cell? ⟨b, off + m * 4 + 3, none⟩ = some (.bool x1.del)) ∧ wx.cell? ⟨b, off + (m + 1) * 4, none⟩ = some (str x2.key) ∧ wx.cell? ⟨b, off + (m + 1) * 4 + 1, none⟩ = some (str x2.value) ∧ wx.cell? ⟨b, off + (m + 1) * 4 + 2, none⟩ = some (.int .i64 x2.seq) ∧ wx.cell? ⟨b, off + (m + 1) * 4 + 3, none⟩ = some (.bool x2.del))
          (first | exact P1 | exact P2)
          (first
            | (go_at_call 14; refine (AH.out _).mono ?_; rintro r w8 ⟨rfl, b8⟩; have D8 := (Below.refl wr.heap.size wr).drew.trans b8; have P2 := KC.out _ D8))
        go_wp2_with (fail)
        exact ⟨⟨bx.trans (D8.mono bx.size), m + 1, by go_num, FQ⟩, by simp [intOf]; omega⟩
      | false =>
        have HF : Hid (S = false) := FN.out rfl
        clear FN FT
        go_wp2_with (fail)
        go_region_held3 (fun wx => (wx.cell? ⟨b, off + m * 4, none⟩ = some (str x1.key) ∧ wx.cell? ⟨b, off + m * 4 + 1, none⟩ = some (str x1.value) ∧ wx.cell? ⟨b, off + m * 4 + 2, none⟩ = some (.int .i64 x1.seq) ∧ wx.cell? ⟨b, off + m * 4 + 3, none⟩ = some (.bool x1.del)) ∧ wx.cell? ⟨b, off + (m + 1) * 4, none⟩ = some (str x2.key) ∧ wx.cell? ⟨b, off + (m + 1) * 4 + 1, none⟩ = some (str x2.value) ∧ wx.cell? ⟨b, off + (m + 1) * 4 + 2, none⟩ = some (.int .i64 x2.seq) ∧ wx.cell? ⟨b, off + (m + 1) * 4 + 3, none⟩ = some (.bool x2.del))
          (first | exact P1 | exact P2)
          (first
            | (go_at_call 14; refine (AH.out _).mono ?_; rintro r w8 ⟨rfl, b8⟩; have D8 := (Below.refl wr.heap.size wr).drew.trans b8; have P2 := KC.out _ D8))
        go_wp2_with (fail)
        go_ret
        exact ⟨by rw [HF.out]; rfl, bx.trans (D8.mono bx.size)⟩
    · have i3 : ¬ ((m + 1 : Nat) : Int) < (n : Int) := by omega
      have HF : Hid (S = true) := by
        show _ = _
        rw [HS.out, Bk.inOrd_iff]
        exact fun k hk => HT.out k hk (by have := HN.out; omega)
      clear HT H HN HS
      go_wp2_with (fail)
      go_ret
      exact ⟨by rw [HF.out]; rfl, bx⟩
end Go.Proofs.Ytbdgdigpnfpnhaa.Q
namespace Go.Proofs.Ytbdgdigpnfpnhaa.Q
open Go.RowKit

theorem mayBe_is (k v : List UInt8) (d : Bool) : Wl.mayBe ⟨k, v, d⟩ = true ↔ 1 ≤ k.length ∧ k.length ≤ 512 ∧ v.length ≤ 4096 ∧ (d = true → v = []) := by
  unfold Wl.mayBe
  simp only [Bool.and_eq_true, decide_eq_true_eq, Bool.or_eq_true, Bool.not_eq_true']
  constructor
  · rintro ⟨⟨⟨h1, h2⟩, h3⟩, h4⟩
    refine ⟨List.length_pos_iff.2 h1, h2, h3, fun hd => ?_⟩
    rcases h4 with h | h
    · rw [hd] at h; cases h
    · exact h
  · rintro ⟨h1, h2, h3, h4⟩
    refine ⟨⟨⟨List.length_pos_iff.1 h1, h2⟩, h3⟩, ?_⟩
    cases d
    · exact .inl rfl
    · exact .inr (h4 rfl)

set_option maxHeartbeats 1600000 in
theorem fine_any (w : World) (k v : List UInt8) (d : Bool) : Calls Try.prog 38 #[.agg #[str k, str v, .bool d]] w fun e w' => e = .returned (.bool (Wl.mayBe ⟨k, v, d⟩)) ∧ Below w.heap.size w w' := by
  have B0 : ∀ o, Below w.heap.size w (w.alloc o) := fun o => (Below.refl _ _).alloc (Nat.le_refl _) o
  have hm := mayBe_is k v d
  obtain ⟨R, hR⟩ : ∃ R, R = Wl.mayBe ⟨k, v, d⟩ := ⟨_, rfl⟩
  rw [← hR] at hm ⊢
  clear hR
  by_cases h1 : k.length < 1
  · have hF : Hid (R = false) := by cases R; rfl; have := hm.1 rfl; omega
    have i1 : ¬ (1 : Int) ≤ (k.length : Int) := by omega
    clear hm
    go_enter Try.func38, Try.ntmps38
    go_wp2_with (fail)
    go_ret
    rw [hF.out]
    exact ⟨rfl, B0 _⟩
  · have i1 : (1 : Int) ≤ (k.length : Int) := by omega
    by_cases h2 : 512 < k.length
    · have hF : Hid (R = false) := by cases R; rfl; have := hm.1 rfl; omega
      have i2 : ¬ (k.length : Int) ≤ 512 := by omega
      clear hm
      go_enter Try.func38, Try.ntmps38
      go_wp2_with (fail)
      go_ret
      rw [hF.out]
      exact ⟨rfl, B0 _⟩
    · have i2 : (k.length : Int) ≤ 512 := by omega
      by_cases h3 : 4096 < v.length
      · have hF : Hid (R = false) := by cases R; rfl; have := hm.1 rfl; omega
        have i3 : ¬ (v.length : Int) ≤ 4096 := by omega
        clear hm
        go_enter Try.func38, Try.ntmps38
        go_wp2_with (fail)
        go_ret
        rw [hF.out]
        exact ⟨rfl, B0 _⟩
      · have i3 : (v.length : Int) ≤ 4096 := by omega
        cases d
        · have hF : Hid (R = true) := hm.2 ⟨by omega, by omega, by omega, fun h => by cases h⟩
          clear hm
          go_enter Try.func38, Try.ntmps38
          go_wp2_with (fail)
          go_ret
          rw [hF.out]
          exact ⟨rfl, B0 _⟩
        · by_cases h4 : v = []
          · have hF : Hid (R = true) := hm.2 ⟨by omega, by omega, by omega, fun _ => h4⟩
            subst h4
            clear hm
            go_enter Try.func38, Try.ntmps38
            go_wp2_with (fail)
            go_ret
            rw [hF.out]
            exact ⟨rfl, B0 _⟩
          · have hF : Hid (R = false) := by cases R; rfl; exact absurd ((hm.1 rfl).2.2.2 rfl) h4
            have hb : (v == ([] : List UInt8)) = false := by simp [h4]
            have hv : ¬ v = [] := h4
            clear hm
            go_enter Try.func38, Try.ntmps38
            go_wp2_with (fail)
            go_ret
            rw [hF.out]
            exact ⟨by first | rfl | simp, B0 _⟩

set_option maxHeartbeats 1600000 in
theorem rmcheck_any (w : World) (e : Mm.Ent) : Calls Try.prog 12 #[entV e] w fun r w' => r = .returned (.int .i64 (Mm.checkE e)) ∧ Below w.heap.size w w' := by
  obtain ⟨k, v, s, d⟩ := e
  have FI := hide fun (wx : World) => fine_any wx k v d
  have B0 : ∀ o, Below w.heap.size w (w.alloc o) := fun o => (Below.refl _ _).alloc (Nat.le_refl _) o
  have HE : Mm.checkE ⟨k, v, s, d⟩ = if (decide (1 ≤ s) && decide (s ≤ 1073741824) && Wl.mayBe ⟨k, v, d⟩) = true then 0 else 2 := rfl
  obtain ⟨E, hE⟩ : ∃ E, E = Mm.checkE ⟨k, v, s, d⟩ := ⟨_, rfl⟩
  rw [← hE] at HE ⊢
  obtain ⟨M, hM⟩ : ∃ M, M = Wl.mayBe ⟨k, v, d⟩ := ⟨_, rfl⟩
  rw [← hM] at HE FI
  clear hE hM
  show Calls Try.prog 12 #[.agg #[str k, str v, .int .i64 s, .bool d]] w _
  by_cases h1 : s < 1
  · have hF : Hid (E = 2) := by show _ = _; rw [HE, decide_eq_false (by omega : ¬ 1 ≤ s)]; rfl
    clear HE
    go_enter Try.func12, Try.ntmps12
    go_wp2_with (fail)
    go_ret
    rw [hF.out]
    exact ⟨rfl, B0 _⟩
  · by_cases h2 : s > 1073741824
    · have hF : Hid (E = 2) := by show _ = _; rw [HE, decide_eq_false (by omega : ¬ s ≤ 1073741824), Bool.and_false]; rfl
      clear HE
      go_enter Try.func12, Try.ntmps12
      go_wp2_with (fail)
      go_ret
      rw [hF.out]
      exact ⟨rfl, B0 _⟩
    · have hF : Hid (E = if M = true then 0 else 2) := by show _ = _; rw [HE, decide_eq_true (by omega : 1 ≤ s), decide_eq_true (by omega : s ≤ 1073741824)]; rfl
      clear HE
      cases M
      all_goals
        go_enter Try.func12, Try.ntmps12
        go_wp2_with (go_at_call 38; refine (FI.out _).mono ?_; rintro e w1 ⟨rfl, b1⟩; have B1 := (B0 _).trans (b1.mono (by simp)))
        go_ret
        rw [hF.out]
        exact ⟨rfl, B1⟩

end Go.Proofs.Ytbdgdigpnfpnhaa.Q
