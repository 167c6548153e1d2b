/-
  The order of values and of tuples: what the call, the calls of the library beneath it and the inner one answer, of any values; they leave all that was there as it was.
-/
import Derived.Test.YtjddhakaebkkeaaGreatDoorUSame
namespace Go.Proofs.YtjddhakaebkkeaaGreatDoor
open Go.RowKit

attribute [local go_sem ↓] Go.wp_at_zero Go.wp_at_succ


/-- The order of two numbers, as a number. -/
def cmpI (x y : Int) : Int := if x < y then -1 else if y < x then 1 else 0

set_option maxHeartbeats 400000 in
theorem cmp64_any (w : World) (x y : Int) : Calls Tryz.prog 81 #[.int .i64 x, .int .i64 y] w fun e w' => e = .returned (.int .i64 (cmpI x y)) ∧ w' = w := by
  by_cases h1 : x < y
  · have HC : Hid (cmpI x y = -1) := by show _ = _; simp [cmpI, h1]
    have n1 : (x != x) = false := by simp
    have n2 : (y != y) = false := by simp
    go_enter Tryz.func81, Tryz.ntmps81
    go_wp2
    go_ret
    exact ⟨by rw [HC.out]; rfl, rfl⟩
  · by_cases h2 : y < x
    · have HC : Hid (cmpI x y = 1) := by show _ = _; simp [cmpI, h1, h2]
      go_enter Tryz.func81, Tryz.ntmps81
      go_wp2
      go_ret
      exact ⟨by rw [HC.out]; rfl, rfl⟩
    · have HC : Hid (cmpI x y = 0) := by show _ = _; simp [cmpI, h1, h2]
      go_enter Tryz.func81, Tryz.ntmps81
      go_wp2
      go_ret
      exact ⟨by rw [HC.out]; rfl, rfl⟩

/-- The first of three numbers that is not 0. -/
def or3 (a b c : Int) : Int := if a = 0 then (if b = 0 then c else b) else a

set_option maxHeartbeats 400000 in
theorem or_any (w : World) (B : Nat) (a b c : Int) (h0 : w.cell? ⟨B, 0, none⟩ = some (.int .i64 a)) (h1 : w.cell? ⟨B, 1, none⟩ = some (.int .i64 b)) (h2 : w.cell? ⟨B, 2, none⟩ = some (.int .i64 c)) :
    Calls Tryz.prog 79 #[.slice (some ⟨B, 0, none⟩) 3 3] w fun e w' => e = .returned (.int .i64 (or3 a b c)) ∧ w' = w := by
  by_cases ha : a = 0
  · subst ha
    by_cases hb : b = 0
    · subst hb
      by_cases hc : c = 0
      · subst hc
        have HO : Hid (or3 0 0 0 = 0) := rfl
        go_enter Tryz.func79, Tryz.ntmps79
        go_wp2
        refine wp_loop_rounds 4 ?_
        rw [rounds_succ]
        go_wp2
        rw [rounds_succ]
        go_wp2
        rw [rounds_succ]
        go_wp2
        rw [rounds_succ]
        go_wp2
        go_ret
        exact ⟨by rw [HO.out]; rfl, rfl⟩
      · have HO : Hid (or3 0 0 c = c) := by show _ = _; simp [or3]
        have hd : (c != 0) = true := by simpa using hc
        go_enter Tryz.func79, Tryz.ntmps79
        go_wp2
        refine wp_loop_rounds 3 ?_
        rw [rounds_succ]
        go_wp2
        rw [rounds_succ]
        go_wp2
        rw [rounds_succ]
        go_wp2
        go_ret
        exact ⟨by rw [HO.out]; rfl, rfl⟩
    · have HO : Hid (or3 0 b c = b) := by show _ = _; simp [or3, hb]
      have hd : (b != 0) = true := by simpa using hb
      go_enter Tryz.func79, Tryz.ntmps79
      go_wp2
      refine wp_loop_rounds 2 ?_
      rw [rounds_succ]
      go_wp2
      rw [rounds_succ]
      go_wp2
      go_ret
      exact ⟨by rw [HO.out]; rfl, rfl⟩
  · have HO : Hid (or3 a b c = a) := by show _ = _; simp [or3, ha]
    have hd : (a != 0) = true := by simpa using ha
    go_enter Tryz.func79, Tryz.ntmps79
    go_wp2
    refine wp_loop_rounds 1 ?_
    rw [rounds_succ]
    go_wp2
    go_ret
    exact ⟨by rw [HO.out]; rfl, rfl⟩


set_option maxHeartbeats 400000 in
theorem cmpK_any (w : World) (x y : Int) : Calls Tryz.prog 80 #[.int .u8 x, .int .u8 y] w fun e w' => e = .returned (.int .i64 (cmpI x y)) ∧ w' = w := by
  by_cases h1 : x < y
  · have HC : Hid (cmpI x y = -1) := by show _ = _; simp [cmpI, h1]
    go_enter Tryz.func80, Tryz.ntmps80
    go_wp2
    go_ret
    exact ⟨by rw [HC.out]; rfl, rfl⟩
  · by_cases h2 : y < x
    · have HC : Hid (cmpI x y = 1) := by show _ = _; simp [cmpI, h1, h2]
      go_enter Tryz.func80, Tryz.ntmps80
      go_wp2
      go_ret
      exact ⟨by rw [HC.out]; rfl, rfl⟩
    · have HC : Hid (cmpI x y = 0) := by show _ = _; simp [cmpI, h1, h2]
      go_enter Tryz.func80, Tryz.ntmps80
      go_wp2
      go_ret
      exact ⟨by rw [HC.out]; rfl, rfl⟩

/-- The order of two texts, as a number. -/
def cmpS (s t : ByteArray) : Int := if Op.bytesLess s.toList t.toList then -1 else if s.toList == t.toList then 0 else 1

set_option maxHeartbeats 400000 in
theorem cmpS_any (w : World) (x y : ByteArray) : Calls Tryz.prog 82 #[.string x, .string y] w fun e w' => e = .returned (.int .i64 (cmpS x y)) ∧ w' = w := by
  have n1 : (x.toList == x.toList) = true := by simp
  have n2 : (y.toList == y.toList) = true := by simp
  cases h1 : Op.bytesLess x.toList y.toList
  · cases h2 : x.toList == y.toList
    · have HC : Hid (cmpS x y = 1) := by show _ = _; simp [cmpS, h1, h2]
      go_enter Tryz.func82, Tryz.ntmps82
      go_wp2
      go_ret
      exact ⟨by rw [HC.out]; rfl, rfl⟩
    · have HC : Hid (cmpS x y = 0) := by show _ = _; simp [cmpS, h1, h2]
      go_enter Tryz.func82, Tryz.ntmps82
      go_wp2
      go_ret
      exact ⟨by rw [HC.out]; rfl, rfl⟩
  · have HC : Hid (cmpS x y = -1) := by show _ = _; simp [cmpS, h1]
    go_enter Tryz.func82, Tryz.ntmps82
    go_wp2
    go_ret
    exact ⟨by rw [HC.out]; rfl, rfl⟩

/-- The order of two values. -/
def cmpV (v u : Val) : Int := or3 (cmpI v.k u.k) (cmpI v.n u.n) (cmpS v.t u.t)

set_option maxHeartbeats 4000000 in
theorem cmpV_any (w : World) (a b : Int) (c : ByteArray) (a' b' : Int) (c' : ByteArray) :
    Calls Tryz.prog 68 #[.agg #[.int .u8 a, .int .i64 b, .string c], .agg #[.int .u8 a', .int .i64 b', .string c']] w fun e w' => e = .returned (.int .i64 (or3 (cmpI a a') (cmpI b b') (cmpS c c'))) ∧ Below w.heap.size w w' := by
  go_enter Tryz.func68, Tryz.ntmps68
  go_wp2
  go_region_held3 (fun w' => w'.cell? ⟨w.heap.size, 0, none⟩ = some (.int .u8 a) ∧ w'.cell? ⟨w.heap.size, 1, none⟩ = some (.int .i64 b) ∧ w'.cell? ⟨w.heap.size, 2, none⟩ = some (.string c) ∧ w'.cell? ⟨w.heap.size + 1, 0, none⟩ = some (.int .u8 a') ∧ w'.cell? ⟨w.heap.size + 1, 1, none⟩ = some (.int .i64 b') ∧ w'.cell? ⟨w.heap.size + 1, 2, none⟩ = some (.string c'))
    (simp [go_sem, World.cell?_alloc_past])
    (first
      | (go_at_call 80; refine (cmpK_any _ _ _).mono ?_; rintro e w' ⟨rfl, rfl⟩)
      | (go_at_call 81; refine (cmp64_any _ _ _).mono ?_; rintro e w' ⟨rfl, rfl⟩)
      | (go_at_call 82; refine (cmpS_any _ _ _).mono ?_; rintro e w' ⟨rfl, rfl⟩)
      | (go_at_call 79; refine (or_any _ (w.heap.size + 2) (cmpI a a') (cmpI b b') (cmpS c c') ?_ ?_ ?_).mono ?_; (simp [go_sem]); (simp [go_sem]); (simp [go_sem]); rintro e w' ⟨rfl, rfl⟩))
  all_goals
    go_wp2
    go_ret
    refine ⟨rfl, ?_⟩
    refine ((((Below.refl _ _).alloc (Nat.le_refl _) _).alloc ?_ _).alloc ?_ _).drew
    · simp
    · simp; omega

/-- The order of two tuples. -/
def cmpL : List Val → List Val → Int
  | [], [] => 0
  | [], _ :: _ => -1
  | _ :: _, [] => 1
  | v :: a, u :: b => if cmpV v u = 0 then cmpL a b else cmpV v u

theorem cmpL_drop (l m : List Val) (j : Nat) (h : j < l.length) (h2 : j < m.length) : cmpL (l.drop j) (m.drop j) = if cmpV l[j] m[j] = 0 then cmpL (l.drop (j + 1)) (m.drop (j + 1)) else cmpV l[j] m[j] := by
  rw [List.drop_eq_getElem_cons h, List.drop_eq_getElem_cons h2, cmpL]

set_option maxHeartbeats 1600000 in
theorem cmpFunc_any (w : World) (a1 a2 : Option Addr) (cap cap2 : Nat) (l m : List Val) (hl : l ≠ [] → ∃ b off, a1 = some ⟨b, off, none⟩ ∧ ValsAt w b off l) (hm : m ≠ [] → ∃ b off, a2 = some ⟨b, off, none⟩ ∧ ValsAt w b off m)
    (hn1 : l.length ≤ 1099511627776000) (_hn2 : m.length ≤ 1099511627776000) :
    Calls Tryz.prog 67 #[.slice a1 l.length cap, .slice a2 m.length cap2, .func (.func 68) #[] #[]] w fun e w' => e = .returned (.int .i64 (cmpL l m)) ∧ Below w.heap.size w w' := by
  have HL : Hid (l ≠ [] → ∃ b off, a1 = some ⟨b, off, none⟩ ∧ ValsAt w b off l) := hl
  have HM : Hid (m ≠ [] → ∃ b off, a2 = some ⟨b, off, none⟩ ∧ ValsAt w b off m) := hm
  clear hl hm
  go_enter Tryz.func67, Tryz.ntmps67
  go_wp2
  go_loopw [13] (fun i wr => ∃ j : Nat, j ≤ l.length ∧ j ≤ m.length ∧ i = .int .i64 j ∧ Below w.heap.size w wr ∧ cmpL l m = cmpL (l.drop j) (m.drop j)) (fun i _ => l.length - (intOf i).toNat)
  case atStart => exact ⟨0, Nat.zero_le _, Nat.zero_le _, rfl, Below.refl _ _, rfl⟩
  case round =>
    obtain ⟨j, hj, hj2, rfl, hbel, hc⟩ := hrel
    have HC : Hid (cmpL l m = cmpL (l.drop j) (m.drop j)) := hc
    clear hc
    have hs := hbel.size
    by_cases hlt : j < l.length
    · obtain ⟨b, off, rfl, hv⟩ := HL.out (by intro e; rw [e] at hlt; simp at hlt)
      obtain ⟨c0, c1, c2⟩ := (hv.later hbel) j hlt
      obtain ⟨v, hvj⟩ : ∃ v, v = l[j] := ⟨_, rfl⟩
      rw [← hvj] at c0 c1 c2
      by_cases hlt2 : j < m.length
      · obtain ⟨b2, off2, rfl, hv2⟩ := HM.out (by intro e; rw [e] at hlt2; simp at hlt2)
        have hbal : Below w.heap.size w (wr.alloc (.cells #[.int .u8 v.k, .int .i64 v.n, .string v.t] 29)) := hbel.alloc hs _
        obtain ⟨d0, d1, d2⟩ := (hv2.later hbal) j hlt2
        obtain ⟨u, huj⟩ : ∃ v, v = m[j] := ⟨_, rfl⟩
        rw [← huj] at d0 d1 d2
        have HD := cmpL_drop l m j hlt hlt2
        rw [← hvj, ← huj] at HD
        have HD2 : Hid (cmpL (l.drop j) (m.drop j) = if cmpV v u = 0 then cmpL (l.drop (j + 1)) (m.drop (j + 1)) else cmpV v u) := HD
        clear hvj huj hv hv2 HD
        have hge : ¬ ((m.length : Int) ≤ (j : Int)) := by omega
        by_cases hz : or3 (cmpI v.k u.k) (cmpI v.n u.n) (cmpS v.t u.t) = 0
        · have HZ : Hid (cmpL l m = cmpL (l.drop (j + 1)) (m.drop (j + 1))) := by show _ = _; rw [HC.out, HD2.out, if_pos (show cmpV v u = 0 from hz)]
          have hzb : (or3 (cmpI v.k u.k) (cmpI v.n u.n) (cmpS v.t u.t) != 0) = false := by rw [hz]; rfl
          clear hz
          go_wp2_with (go_at_call 68; refine (cmpV_any _ _ _ _ _ _ _).mono ?_; rintro e w2 ⟨rfl, hb2⟩)
          have B : Below w.heap.size w w2 := ((hbal.alloc (by simp; omega) _)).trans (hb2.mono (by simp; omega))
          go_roundw
          case rel => exact ⟨j + 1, by omega, by omega, by go_num, B, HZ.out⟩
          case measure => simp [intOf]; omega
        · have HZ : Hid (cmpL l m = or3 (cmpI v.k u.k) (cmpI v.n u.n) (cmpS v.t u.t)) := by show _ = _; rw [HC.out, HD2.out, if_neg (show ¬ cmpV v u = 0 from hz)]; rfl
          have hzb : (or3 (cmpI v.k u.k) (cmpI v.n u.n) (cmpS v.t u.t) != 0) = true := by simpa using hz
          clear hz
          go_wp2_with (go_at_call 68; refine (cmpV_any _ _ _ _ _ _ _).mono ?_; rintro e w2 ⟨rfl, hb2⟩)
          have B : Below w.heap.size w w2 := ((hbal.alloc (by simp; omega) _)).trans (hb2.mono (by simp; omega))
          go_ret
          exact ⟨by rw [HZ.out]; rfl, B⟩
      · have hge : ((m.length : Int) ≤ (j : Int)) := by omega
        have HZ : Hid (cmpL l m = 1) := by
          show _ = _
          rw [HC.out, List.drop_eq_getElem_cons hlt, List.drop_eq_nil_of_le (by omega : m.length ≤ j), cmpL]
        go_wp2
        go_ret
        exact ⟨by rw [HZ.out]; rfl, hbel.alloc hs _⟩
    · by_cases hlt2 : j < m.length
      · have hll : (l.length : Int) < (m.length : Int) := by omega
        have HZ : Hid (cmpL l m = -1) := by
          show _ = _
          rw [HC.out, List.drop_eq_nil_of_le (by omega : l.length ≤ j), List.drop_eq_getElem_cons hlt2, cmpL]
        go_wp2
        go_ret
        exact ⟨by rw [HZ.out]; rfl, hbel⟩
      · have hll : ¬ (l.length : Int) < (m.length : Int) := by omega
        have HZ : Hid (cmpL l m = 0) := by
          show _ = _
          rw [HC.out, List.drop_eq_nil_of_le (by omega : l.length ≤ j), List.drop_eq_nil_of_le (by omega : m.length ≤ j), cmpL]
        go_wp2
        go_ret
        exact ⟨by rw [HZ.out]; rfl, hbel⟩

set_option maxHeartbeats 400000 in
theorem compare_any (w : World) (v u : Value) (l m : List Val) (h : ValsIn w v l) (h2 : ValsIn w u m) :
    Calls Tryz.prog 57 #[v, u] w fun e w' => e = .returned (.int .i64 (cmpL l m)) ∧ Below w.heap.size w w' := by
  obtain ⟨⟨a, cap, rfl, hf⟩, _, hlen⟩ := h
  obtain ⟨⟨a2, cap2, rfl, hf2⟩, _, hlen2⟩ := h2
  have HC : Hid (∀ wx : World, wx = w → Calls Tryz.prog 67 #[.slice a l.length cap, .slice a2 m.length cap2, .func (.func 68) #[] #[]] wx fun e w' => e = .returned (.int .i64 (cmpL l m)) ∧ Below wx.heap.size wx w') := by
    rintro wx rfl
    exact cmpFunc_any _ a a2 cap cap2 l m hf hf2 hlen hlen2
  clear hf hf2 hlen hlen2
  go_enter Tryz.func57, Tryz.ntmps57
  go_wp2_with (go_at_call 67; refine (HC.out _ rfl).mono ?_; rintro e w1 ⟨rfl, hb1⟩)
  go_ret
  exact ⟨rfl, hb1⟩
end Go.Proofs.YtjddhakaebkkeaaGreatDoor
