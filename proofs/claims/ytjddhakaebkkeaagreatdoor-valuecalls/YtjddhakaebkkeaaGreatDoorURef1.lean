/-
  The document's own check and order of values: the same as the program's.
-/
import Derived.Test.YtjddhakaebkkeaaGreatDoorUCheck
import Derived.Test.YtjddhakaebkkeaaGreatDoorUOrd
namespace Go.Proofs.YtjddhakaebkkeaaGreatDoor
open Go.RowKit

set_option maxHeartbeats 800000 in
theorem refCheck_any (w : World) (k n : Int) (t : ByteArray) (ht : t.size ≤ maxLen) :
    Calls Tryz.prog 28 #[.agg #[.int .u8 k, .int .i64 n, .string t]] w fun e w' => e = .returned (.int .i64 (chk k n t)) ∧ w' = w.alloc (.cells #[.int .u8 k, .int .i64 n, .string t] 29) := by
  unfold maxLen at ht
  have hC : ∀ b, mayV k n t = b → Hid (chk k n t = if b then 0 else 2) := fun b h => by show _ = _; unfold chk; rw [h]
  by_cases h0 : k = 0
  · subst h0
    by_cases hn : n = 0
    · subst hn
      cases he : t.toList.isEmpty
      · have HC := hC false (by simp [mayV, he])
        clear hC
        go_enter Tryz.func28, Tryz.ntmps28
        go_wp2
        go_ret
        exact ⟨by rw [HC.out]; rfl, rfl⟩
      · have HC := hC true (by simp [mayV, he])
        clear hC
        go_enter Tryz.func28, Tryz.ntmps28
        go_wp2
        go_ret
        exact ⟨by rw [HC.out]; rfl, rfl⟩
    · have hb : (n == 0) = false := by simpa using hn
      have HC := hC false (by simp [mayV, hb])
      clear hC
      go_enter Tryz.func28, Tryz.ntmps28
      go_wp2
      go_ret
      exact ⟨by rw [HC.out]; rfl, rfl⟩
  by_cases h1 : k = 1
  · subst h1
    by_cases hn : n = 0
    · subst hn
      cases he : t.toList.isEmpty
      · have HC := hC false (by simp [mayV, he])
        clear hC
        go_enter Tryz.func28, Tryz.ntmps28
        go_wp2
        go_ret
        exact ⟨by rw [HC.out]; rfl, rfl⟩
      · have HC := hC true (by simp [mayV, he])
        clear hC
        go_enter Tryz.func28, Tryz.ntmps28
        go_wp2
        go_ret
        exact ⟨by rw [HC.out]; rfl, rfl⟩
    · have hb : (n == 0) = false := by simpa using hn
      by_cases hn1 : n = 1
      · subst hn1
        cases he : t.toList.isEmpty
        · have HC := hC false (by simp [mayV, he])
          clear hC
          go_enter Tryz.func28, Tryz.ntmps28
          go_wp2
          go_ret
          exact ⟨by rw [HC.out]; rfl, rfl⟩
        · have HC := hC true (by simp [mayV, he])
          clear hC
          go_enter Tryz.func28, Tryz.ntmps28
          go_wp2
          go_ret
          exact ⟨by rw [HC.out]; rfl, rfl⟩
      · have hb1 : (n == 1) = false := by simpa using hn1
        have HC := hC false (by simp [mayV, hb, hb1])
        clear hC
        go_enter Tryz.func28, Tryz.ntmps28
        go_wp2
        go_ret
        exact ⟨by rw [HC.out]; rfl, rfl⟩
  by_cases h2 : k = 2
  · subst h2
    cases he : t.toList.isEmpty
    · have HC := hC false (by simp [mayV, he])
      clear hC
      go_enter Tryz.func28, Tryz.ntmps28
      go_wp2
      go_ret
      exact ⟨by rw [HC.out]; rfl, rfl⟩
    · have HC := hC true (by simp [mayV, he])
      clear hC
      go_enter Tryz.func28, Tryz.ntmps28
      go_wp2
      go_ret
      exact ⟨by rw [HC.out]; rfl, rfl⟩
  by_cases h3 : k = 3
  · subst h3
    by_cases hn : n = 0
    · subst hn
      by_cases hs : t.size ≤ 64
      · have hd : ((t.size : Int) ≤ 64) := by omega
        have HC := hC true (by simp [mayV, hs])
        clear hC
        go_enter Tryz.func28, Tryz.ntmps28
        go_wp2
        go_ret
        exact ⟨by rw [HC.out]; rfl, rfl⟩
      · have hd : ¬ ((t.size : Int) ≤ 64) := by omega
        have HC := hC false (by simp [mayV, hs])
        clear hC
        go_enter Tryz.func28, Tryz.ntmps28
        go_wp2
        go_ret
        exact ⟨by rw [HC.out]; rfl, rfl⟩
    · have hb : (n == 0) = false := by simpa using hn
      have HC := hC false (by simp [mayV, hb])
      clear hC
      go_enter Tryz.func28, Tryz.ntmps28
      go_wp2
      go_ret
      exact ⟨by rw [HC.out]; rfl, rfl⟩
  have b0 : (k == 0) = false := by simpa using h0
  have b1 : (k == 1) = false := by simpa using h1
  have b2 : (k == 2) = false := by simpa using h2
  have b3 : (k == 3) = false := by simpa using h3
  have HC := hC false (by simp [mayV, b0, b1, b2, b3])
  clear hC
  go_enter Tryz.func28, Tryz.ntmps28
  go_wp2
  go_ret
  exact ⟨by rw [HC.out]; rfl, rfl⟩

theorem one_facts (a b : Int) (c : ByteArray) (a' b' : Int) (c' : ByteArray) :
    (a < a' → cmpV ⟨a, b, c⟩ ⟨a', b', c'⟩ = -1) ∧ (a = a' → b < b' → cmpV ⟨a, b, c⟩ ⟨a', b', c'⟩ = -1) ∧ (a = a' → b = b' → Op.bytesLess c.toList c'.toList = true → cmpV ⟨a, b, c⟩ ⟨a', b', c'⟩ = -1)
    ∧ (a = a' → b = b' → c.toList = c'.toList → cmpV ⟨a, b, c⟩ ⟨a', b', c'⟩ = 0) ∧ (a' < a → cmpV ⟨a, b, c⟩ ⟨a', b', c'⟩ = 1) ∧ (a = a' → b' < b → cmpV ⟨a, b, c⟩ ⟨a', b', c'⟩ = 1)
    ∧ (a = a' → b = b' → Op.bytesLess c.toList c'.toList = false → ¬ c.toList = c'.toList → cmpV ⟨a, b, c⟩ ⟨a', b', c'⟩ = 1) := by
  refine ⟨?_, ?_, ?_, ?_, ?_, ?_, ?_⟩
  · intro h; simp [cmpV, or3, cmpI, h]
  · intro h1 h; simp [cmpV, or3, cmpI, h1, h]
  · intro h1 h2 h; simp [cmpV, or3, cmpI, cmpS, h1, h2, h]
  · intro h1 h2 h; simp [cmpV, or3, cmpI, cmpS, h1, h2, h, bytesLess_irrefl]
  · intro h; have : ¬ a < a' := by omega
    simp [cmpV, or3, cmpI, h, this]
  · intro h1 h; have : ¬ b < b' := by omega
    simp [cmpV, or3, cmpI, h1, h, this]
  · intro h1 h2 h3 h; simp [cmpV, or3, cmpI, cmpS, h1, h2, h3, h]

set_option maxHeartbeats 1600000 in
theorem refOne_any (w : World) (v u : Val) :
    Calls Tryz.prog 60 #[.agg #[.int .u8 v.k, .int .i64 v.n, .string v.t], .agg #[.int .u8 u.k, .int .i64 u.n, .string u.t]] w fun e w' => e = .returned (.int .i64 (cmpV v u)) ∧ Below w.heap.size w w' := by
  obtain ⟨a, b, c⟩ := v
  obtain ⟨a', b', c'⟩ := u
  obtain ⟨Z, hZ⟩ : ∃ Z, Z = cmpV ⟨a, b, c⟩ ⟨a', b', c'⟩ := ⟨_, rfl⟩
  obtain ⟨f1, f2, f3, f4, f5, f6, f7⟩ := one_facts a b c a' b' c'
  rw [← hZ] at f1 f2 f3 f4 f5 f6 f7 ⊢
  have F1 : Hid _ := f1
  have F2 : Hid _ := f2
  have F3 : Hid _ := f3
  have F4 : Hid _ := f4
  have F5 : Hid _ := f5
  have F6 : Hid _ := f6
  have F7 : Hid _ := f7
  clear f1 f2 f3 f4 f5 f6 f7 hZ
  go_enter Tryz.func60, Tryz.ntmps60
  go_wp2
  all_goals go_ret
  all_goals refine ⟨?_, ((Below.refl _ _).alloc (Nat.le_refl _) _).alloc (by simp) _⟩
  · rw [F1.out (by assumption)]; rfl
  · rw [F2.out (by assumption) (by assumption)]; rfl
  · rw [F3.out (by assumption) (by assumption) (by assumption)]; rfl
  · rw [F4.out (by assumption) (by assumption) (by assumption)]; rfl
  · rw [F7.out (by assumption) (by assumption) (by assumption) (by assumption)]; rfl
  · rw [F6.out (by assumption) (by omega)]; rfl
  · rw [F5.out (by omega)]; rfl

set_option maxHeartbeats 1600000 in
theorem refCompare_opt (w : World) (a1 a2 : Option Addr) (cap cap2 : Nat) (l m : List Val) (hl : l ≠ [] → ∃ b off, a1 = some ⟨b, off, none⟩ ∧ ValsAt w b off l) (hm : m ≠ [] → ∃ b off, a2 = some ⟨b, off, none⟩ ∧ ValsAt w b off m)
    (hn1 : l.length ≤ 1099511627776000) (_hn2 : m.length ≤ 1099511627776000) :
    Calls Tryz.prog 34 #[.slice a1 l.length cap, .slice a2 m.length cap2] w fun e w' => e = .returned (.int .i64 (cmpL l m)) ∧ Below w.heap.size w w' := by
  have HL : Hid (l ≠ [] → ∃ b off, a1 = some ⟨b, off, none⟩ ∧ ValsAt w b off l) := hl
  have HM : Hid (m ≠ [] → ∃ b off, a2 = some ⟨b, off, none⟩ ∧ ValsAt w b off m) := hm
  clear hl hm
  go_enter Tryz.func34, Tryz.ntmps34
  go_wp2
  go_loopw [5] (fun i wr => ∃ j : Nat, j ≤ l.length ∧ j ≤ m.length ∧ i = .int .i64 j ∧ Below w.heap.size w wr ∧ cmpL l m = cmpL (l.drop j) (m.drop j)) (fun i _ => l.length - (intOf i).toNat)
  case atStart => exact ⟨0, Nat.zero_le _, Nat.zero_le _, rfl, Below.refl _ _, rfl⟩
  case round =>
    obtain ⟨j, hj, hj2, rfl, hbel, hc⟩ := hrel
    have HC : Hid (cmpL l m = cmpL (l.drop j) (m.drop j)) := hc
    clear hc
    have hs := hbel.size
    by_cases hlt : j < l.length
    · obtain ⟨b, off, rfl, hv⟩ := HL.out (by intro e; rw [e] at hlt; simp at hlt)
      obtain ⟨c0, c1, c2⟩ := (hv.later hbel) j hlt
      obtain ⟨v, hvj⟩ : ∃ v, v = l[j] := ⟨_, rfl⟩
      rw [← hvj] at c0 c1 c2
      by_cases hlt2 : j < m.length
      · obtain ⟨b2, off2, rfl, hv2⟩ := HM.out (by intro e; rw [e] at hlt2; simp at hlt2)
        obtain ⟨d0, d1, d2⟩ := (hv2.later hbel) j hlt2
        obtain ⟨u, huj⟩ : ∃ v, v = m[j] := ⟨_, rfl⟩
        rw [← huj] at d0 d1 d2
        have HD := cmpL_drop l m j hlt hlt2
        rw [← hvj, ← huj] at HD
        have HD2 : Hid (cmpL (l.drop j) (m.drop j) = if cmpV v u = 0 then cmpL (l.drop (j + 1)) (m.drop (j + 1)) else cmpV v u) := HD
        clear hvj huj hv hv2 HD
        obtain ⟨Z, hZ⟩ : ∃ Z, Z = cmpV v u := ⟨_, rfl⟩
        have ONE : Hid (∀ wx : World, Calls Tryz.prog 60 #[.agg #[.int .u8 v.k, .int .i64 v.n, .string v.t], .agg #[.int .u8 u.k, .int .i64 u.n, .string u.t]] wx fun e w' => e = .returned (.int .i64 Z) ∧ Below wx.heap.size wx w') := fun wx => by rw [hZ]; exact refOne_any wx v u
        by_cases hz : Z = 0
        · have HZ : Hid (cmpL l m = cmpL (l.drop (j + 1)) (m.drop (j + 1))) := by show _ = _; rw [HC.out, HD2.out, if_pos (by rw [← hZ]; exact hz)]
          subst hz
          clear hZ
          go_wp2
          go_region_held3 (fun w' => (w'.cell? ⟨b, off + j * 3, none⟩ = some (.int .u8 v.k) ∧ w'.cell? ⟨b, off + j * 3 + 1, none⟩ = some (.int .i64 v.n) ∧ w'.cell? ⟨b, off + j * 3 + 2, none⟩ = some (.string v.t)) ∧ w'.cell? ⟨b2, off2 + j * 3, none⟩ = some (.int .u8 u.k) ∧ w'.cell? ⟨b2, off2 + j * 3 + 1, none⟩ = some (.int .i64 u.n) ∧ w'.cell? ⟨b2, off2 + j * 3 + 2, none⟩ = some (.string u.t)) (first | exact S2 | exact ⟨⟨c0, c1, c2⟩, d0, d1, d2⟩)
            (first | (go_at_call 60; refine (ONE.out _).mono ?_; rintro e w2 ⟨rfl, hb2⟩; have S2 := (⟨⟨(hb2.cell (World.block_lt_of_cell? wr _ c0)).trans c0, (hb2.cell (World.block_lt_of_cell? wr _ c1)).trans c1, (hb2.cell (World.block_lt_of_cell? wr _ c2)).trans c2⟩, (hb2.cell (World.block_lt_of_cell? wr _ d0)).trans d0, (hb2.cell (World.block_lt_of_cell? wr _ d1)).trans d1, (hb2.cell (World.block_lt_of_cell? wr _ d2)).trans d2⟩ : (w2.cell? ⟨b, off + j * 3, none⟩ = some (.int .u8 v.k) ∧ w2.cell? ⟨b, off + j * 3 + 1, none⟩ = some (.int .i64 v.n) ∧ w2.cell? ⟨b, off + j * 3 + 2, none⟩ = some (.string v.t)) ∧ w2.cell? ⟨b2, off2 + j * 3, none⟩ = some (.int .u8 u.k) ∧ w2.cell? ⟨b2, off2 + j * 3 + 1, none⟩ = some (.int .i64 u.n) ∧ w2.cell? ⟨b2, off2 + j * 3 + 2, none⟩ = some (.string u.t))))
          have B : Below w.heap.size w w2 := hbel.drew.trans (hb2.mono hs)
          go_wp2
          go_roundw
          case rel => exact ⟨j + 1, by omega, by omega, by go_num, B, HZ.out⟩
          case measure => simp [intOf]; omega
        · have HZ : Hid (cmpL l m = Z) := by show _ = _; rw [HC.out, HD2.out, if_neg (by rw [← hZ]; exact hz), hZ]
          have hzb : (Z != 0) = true := by simpa using hz
          clear hz hZ
          go_wp2
          go_region_held3 (fun w' => (w'.cell? ⟨b, off + j * 3, none⟩ = some (.int .u8 v.k) ∧ w'.cell? ⟨b, off + j * 3 + 1, none⟩ = some (.int .i64 v.n) ∧ w'.cell? ⟨b, off + j * 3 + 2, none⟩ = some (.string v.t)) ∧ w'.cell? ⟨b2, off2 + j * 3, none⟩ = some (.int .u8 u.k) ∧ w'.cell? ⟨b2, off2 + j * 3 + 1, none⟩ = some (.int .i64 u.n) ∧ w'.cell? ⟨b2, off2 + j * 3 + 2, none⟩ = some (.string u.t)) (first | exact S2 | exact ⟨⟨c0, c1, c2⟩, d0, d1, d2⟩)
            (first | (go_at_call 60; refine (ONE.out _).mono ?_; rintro e w2 ⟨rfl, hb2⟩; have S2 := (⟨⟨(hb2.cell (World.block_lt_of_cell? wr _ c0)).trans c0, (hb2.cell (World.block_lt_of_cell? wr _ c1)).trans c1, (hb2.cell (World.block_lt_of_cell? wr _ c2)).trans c2⟩, (hb2.cell (World.block_lt_of_cell? wr _ d0)).trans d0, (hb2.cell (World.block_lt_of_cell? wr _ d1)).trans d1, (hb2.cell (World.block_lt_of_cell? wr _ d2)).trans d2⟩ : (w2.cell? ⟨b, off + j * 3, none⟩ = some (.int .u8 v.k) ∧ w2.cell? ⟨b, off + j * 3 + 1, none⟩ = some (.int .i64 v.n) ∧ w2.cell? ⟨b, off + j * 3 + 2, none⟩ = some (.string v.t)) ∧ w2.cell? ⟨b2, off2 + j * 3, none⟩ = some (.int .u8 u.k) ∧ w2.cell? ⟨b2, off2 + j * 3 + 1, none⟩ = some (.int .i64 u.n) ∧ w2.cell? ⟨b2, off2 + j * 3 + 2, none⟩ = some (.string u.t))))
          have B : Below w.heap.size w w2 := hbel.drew.trans (hb2.mono hs)
          go_wp2
          go_ret
          exact ⟨by rw [HZ.out]; rfl, B⟩
      · have hge : ¬ ((j : Int) < (m.length : Int)) := by omega
        have hgt : (m.length : Int) < (l.length : Int) := by omega
        have hgt2 : ¬ (l.length : Int) < (m.length : Int) := by omega
        have HZ : Hid (cmpL l m = 1) := by
          show _ = _
          rw [HC.out, List.drop_eq_getElem_cons hlt, List.drop_eq_nil_of_le (by omega : m.length ≤ j), cmpL]
        go_wp2
        go_ret
        exact ⟨by rw [HZ.out]; rfl, hbel⟩
    · by_cases hlt2 : j < m.length
      · have hll : (l.length : Int) < (m.length : Int) := by omega
        have HZ : Hid (cmpL l m = -1) := by
          show _ = _
          rw [HC.out, List.drop_eq_nil_of_le (by omega : l.length ≤ j), List.drop_eq_getElem_cons hlt2, cmpL]
        go_wp2
        go_ret
        exact ⟨by rw [HZ.out]; rfl, hbel⟩
      · have hll : ¬ (l.length : Int) < (m.length : Int) := by omega
        have hll2 : ¬ (m.length : Int) < (l.length : Int) := by omega
        have HZ : Hid (cmpL l m = 0) := by
          show _ = _
          rw [HC.out, List.drop_eq_nil_of_le (by omega : l.length ≤ j), List.drop_eq_nil_of_le (by omega : m.length ≤ j), cmpL]
        go_wp2
        go_ret
        exact ⟨by rw [HZ.out]; rfl, hbel⟩

theorem refCompare_any (w : World) (v u : Value) (l m : List Val) (h : ValsIn w v l) (h2 : ValsIn w u m) :
    Calls Tryz.prog 34 #[v, u] w fun e w' => e = .returned (.int .i64 (cmpL l m)) ∧ Below w.heap.size w w' := by
  obtain ⟨⟨a, cap, rfl, hf⟩, _, hlen⟩ := h
  obtain ⟨⟨a2, cap2, rfl, hf2⟩, _, hlen2⟩ := h2
  exact refCompare_opt w a a2 cap cap2 l m hf hf2 hlen hlen2
end Go.Proofs.YtjddhakaebkkeaaGreatDoor
