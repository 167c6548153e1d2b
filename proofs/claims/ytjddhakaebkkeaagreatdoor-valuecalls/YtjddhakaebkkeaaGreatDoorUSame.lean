/-
  Two lists of values held against each other: the call answers whether they are the same, and leaves all that was there as it was.
-/
import Derived.Test.YtjddhakaebkkeaaGreatDoorUBase
namespace Go.Proofs.YtjddhakaebkkeaaGreatDoor
open Go.RowKit

/-- Two values are the same. -/
def sameV (v u : Val) : Bool := (v.k == u.k) && ((v.n == u.n) && (v.t.toList == u.t.toList))
def sameL : List Val → List Val → Bool
  | [], [] => true
  | v :: a, u :: b => sameV v u && sameL a b
  | _, _ => false

theorem val_eq {v u : Val} (h : sameV v u = true) : v = u := by
  simp only [sameV, Bool.and_eq_true, beq_iff_eq] at h
  obtain ⟨h1, h2, h3⟩ := h
  cases v; cases u
  simp only at h1 h2 h3
  subst h1; subst h2
  congr
  rw [ByteArray.toList_eq, ByteArray.toList_eq] at h3
  rename_i t t'
  cases t; cases t'; congr; simpa [Array.toList_inj] using h3
theorem sameV_refl (v : Val) : sameV v v = true := by simp [sameV]
theorem sameL_iff (a b : List Val) : sameL a b = true ↔ a = b := by
  induction a generalizing b with
  | nil => cases b <;> simp [sameL]
  | cons v a ih =>
    cases b with
    | nil => simp [sameL]
    | cons u b =>
      simp only [sameL, Bool.and_eq_true, ih]
      constructor
      · rintro ⟨h1, h2⟩; rw [val_eq h1, h2]
      · intro h; injection h with h1 h2; subst h1; exact ⟨sameV_refl _, h2⟩

theorem ValsAt.later {w w' : World} {b off : Nat} {vs : List Val} (h : ValsAt w b off vs) (hb : Below w.heap.size w w') : ValsAt w' b off vs := fun j hj => by
  obtain ⟨h0, h1, h2⟩ := h j hj
  exact ⟨(hb.cell (World.block_lt_of_cell? w _ h0)).trans h0, (hb.cell (World.block_lt_of_cell? w _ h1)).trans h1, (hb.cell (World.block_lt_of_cell? w _ h2)).trans h2⟩
theorem ValsIn.later {w w' : World} {v : Value} {vs : List Val} (h : ValsIn w v vs) (hb : Below w.heap.size w w') : ValsIn w' v vs := by
  obtain ⟨⟨a, cap, hv, hf⟩, hwf, hlen⟩ := h
  exact ⟨⟨a, cap, hv, fun h0 => by obtain ⟨b, off, ha, hat⟩ := hf h0; exact ⟨b, off, ha, hat.later hb⟩⟩, hwf, hlen⟩

set_option maxHeartbeats 800000 in
theorem sameV_len (w : World) (a a2 : Option Addr) (cap cap2 n m : Nat) (hne : n ≠ m) :
    Calls Tryz.prog 40 #[.slice a n cap, .slice a2 m cap2] w fun e w' => e = .returned (.bool false) ∧ w' = w := by
  have h : ((n : Int) != (m : Int)) = true := by simp; omega
  go_enter Tryz.func40, Tryz.ntmps40
  go_wp2
  go_ret
  exact ⟨rfl, rfl⟩

set_option maxHeartbeats 800000 in
theorem sameV_none (w : World) (a a2 : Option Addr) (cap cap2 : Nat) :
    Calls Tryz.prog 40 #[.slice a 0 cap, .slice a2 0 cap2] w fun e w' => e = .returned (.bool true) ∧ w' = w := by
  go_enter Tryz.func40, Tryz.ntmps40
  go_wp2
  refine wp_loop_rounds 1 ?_
  rw [rounds_succ]
  go_wp2
  go_ret
  exact ⟨rfl, rfl⟩

/-- How two values are alike or not, part by part. -/
theorem parts_of (v u : Val) : (v.k == u.k) = false ∨ ((v.k == u.k) = true ∧ (v.n == u.n) = false) ∨ ((v.k == u.k) = true ∧ (v.n == u.n) = true ∧ (v.t.toList == u.t.toList) = false) ∨ ((v.k == u.k) = true ∧ (v.n == u.n) = true ∧ (v.t.toList == u.t.toList) = true) := by
  cases v.k == u.k <;> cases v.n == u.n <;> cases v.t.toList == u.t.toList <;> simp

set_option maxHeartbeats 1600000 in
theorem sameV_some (w : World) (b off cap b2 off2 cap2 : Nat) (l m : List Val) (hv : ValsAt w b off l) (hv2 : ValsAt w b2 off2 m) (hlen : l.length ≤ 1099511627776000) (he : m.length = l.length) :
    Calls Tryz.prog 40 #[.slice (some ⟨b, off, none⟩) l.length cap, .slice (some ⟨b2, off2, none⟩) l.length cap2] w fun e w' => e = .returned (.bool (sameL l m)) ∧ Below w.heap.size w w' := by
  have HE : Hid (m.length = l.length) := he
  clear he
  go_enter Tryz.func40, Tryz.ntmps40
  go_wp2
  go_loopw [5] (fun i wr => ∃ j : Nat, j ≤ l.length ∧ i = .int .i64 j ∧ Below w.heap.size w wr ∧ l.take j = m.take j) (fun i _ => l.length - (intOf i).toNat)
  case atStart => exact ⟨0, Nat.zero_le _, rfl, Below.refl _ _, rfl⟩
  case round =>
    obtain ⟨j, hj, rfl, hbel, ht⟩ := hrel
    have HT : Hid (l.take j = m.take j) := ht
    clear ht
    by_cases hlt : j < l.length
    · have hltm : j < m.length := by rw [HE.out]; exact hlt
      obtain ⟨c0, c1, c2⟩ := (hv.later hbel) j hlt
      obtain ⟨d0, d1, d2⟩ := (hv2.later hbel) j hltm
      obtain ⟨v, hvj⟩ : ∃ v, v = l[j] := ⟨_, rfl⟩
      obtain ⟨u, huj⟩ : ∃ v, v = m[j] := ⟨_, rfl⟩
      rw [← hvj] at c0 c1 c2
      rw [← huj] at d0 d1 d2
      have HV : Hid (v = l[j]) := hvj
      have HU : Hid (u = m[j]) := huj
      have HFALSE : Hid (sameV v u = false → sameL l m = false) := fun h => by
        rw [Bool.eq_false_iff]
        intro hs
        have e := (sameL_iff l m).mp hs
        subst e
        rw [HV.out, HU.out, sameV_refl] at h
        cases h
      clear hvj huj hv hv2
      rcases parts_of v u with q1 | ⟨q1, q2⟩ | ⟨q1, q2, q3⟩ | ⟨q1, q2, q3⟩
      · have HR : Hid (sameL l m = false) := HFALSE.out (by simp [sameV, q1])
        clear HFALSE
        go_wp2
        go_quiet (fail)
        go_wp2
        go_ret
        exact ⟨by rw [HR.out]; rfl, below_drewN hbel _⟩
      · have HR : Hid (sameL l m = false) := HFALSE.out (by simp [sameV, q2])
        clear HFALSE
        go_wp2
        go_quiet (fail)
        go_wp2
        go_ret
        exact ⟨by rw [HR.out]; rfl, below_drewN hbel _⟩
      · have HR : Hid (sameL l m = false) := HFALSE.out (by simp [sameV, q3])
        clear HFALSE
        go_wp2
        go_quiet (fail)
        go_wp2
        go_ret
        exact ⟨by rw [HR.out]; rfl, below_drewN hbel _⟩
      · have HR : Hid (l.take (j + 1) = m.take (j + 1)) := by
          show _ = _
          have e : v = u := val_eq (by simp [sameV, q1, q2, q3])
          rw [List.take_succ_eq_append_getElem hlt, List.take_succ_eq_append_getElem hltm, HT.out, ← HV.out, ← HU.out, e]
        clear HFALSE
        go_wp2
        go_quiet (fail)
        go_wp2
        go_roundw
        case rel => exact ⟨j + 1, by omega, by go_num, below_drewN hbel _, HR.out⟩
        case measure => simp [intOf]; omega
    · have HR : Hid (sameL l m = true) := by
        show _ = _
        rw [sameL_iff]
        have h := HT.out
        rw [List.take_of_length_le (by omega), List.take_of_length_le (by rw [HE.out]; omega)] at h
        exact h
      go_wp2
      go_ret
      exact ⟨by rw [HR.out]; rfl, hbel⟩

theorem sameV_any (w : World) (v v2 : Value) (l m : List Val) (h : ValsIn w v l) (h2 : ValsIn w v2 m) :
    Calls Tryz.prog 40 #[v, v2] w fun e w' => e = .returned (.bool (sameL l m)) ∧ Below w.heap.size w w' := by
  obtain ⟨⟨a, cap, rfl, hf⟩, _, hlen⟩ := h
  obtain ⟨⟨a2, cap2, rfl, hf2⟩, _, _⟩ := h2
  by_cases he : l.length = m.length
  · by_cases h0 : l = []
    · subst h0
      have : m = [] := List.eq_nil_of_length_eq_zero he.symm
      subst this
      refine (sameV_none w a a2 cap cap2).mono ?_
      rintro e w' ⟨rfl, rfl⟩
      exact ⟨rfl, Below.refl _ _⟩
    · have h02 : m ≠ [] := fun h => h0 (List.eq_nil_of_length_eq_zero (by rw [he, h]; rfl))
      obtain ⟨b, off, rfl, hv⟩ := hf h0
      obtain ⟨b2, off2, rfl, hv2⟩ := hf2 h02
      rw [← he]
      exact sameV_some w b off cap b2 off2 cap2 l m hv hv2 hlen he.symm
  · refine (sameV_len w a a2 cap cap2 l.length m.length he).mono ?_
    rintro e w' ⟨rfl, rfl⟩
    have : sameL l m = false := by rw [Bool.eq_false_iff]; intro h; exact he (by rw [(sameL_iff l m).mp h])
    exact ⟨by rw [this], Below.refl _ _⟩
end Go.Proofs.YtjddhakaebkkeaaGreatDoor
