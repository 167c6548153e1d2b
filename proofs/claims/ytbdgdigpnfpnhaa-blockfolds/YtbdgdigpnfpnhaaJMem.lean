/-
  Entries as values, their order and their check, and lists of entries: where they can be read, and that two hold the same. (The texts of the mem walks, for a seat without a memtable.)
-/
import Derived.Test.YtbdgdigpnfpnhaaKA
import Derived.Test.YtbdgdigpnfpnhaaKF
namespace Go.Proofs.Ytbdgdigpnfpnhaa.Q
open Go.RowKit

abbrev entV (e : Mm.Ent) : Value := .agg #[str e.key, str e.value, .int .i64 e.seq, .bool e.del]
set_option maxHeartbeats 1600000 in
theorem ahead_any (w : World) (a b : Mm.Ent) : Calls Try.prog 13 #[entV a, entV b] w fun e w' => e = .returned (.bool (Mm.ahead a b)) ∧ Below w.heap.size w w' := by
  obtain ⟨k, v, s, d⟩ := a
  obtain ⟨k', v', s', d'⟩ := b
  unfold Mm.ahead entV
  simp only
  by_cases hk : k = k'
  · subst hk
    rw [if_pos rfl]
    by_cases hs : s' < s
    · have i1 : s > s' := hs
      rw [decide_eq_true hs]
      go_enter Try.func13, Try.ntmps13
      go_wp2_with (fail)
      go_ret
      exact ⟨rfl, ((Below.refl _ _).alloc (Nat.le_refl _) _).alloc (by simp) _⟩
    · have i1 : ¬ s > s' := hs
      rw [decide_eq_false hs]
      go_enter Try.func13, Try.ntmps13
      go_wp2_with (fail)
      go_ret
      exact ⟨rfl, ((Below.refl _ _).alloc (Nat.le_refl _) _).alloc (by simp) _⟩
  · rw [if_neg hk]
    have q : (!k == k') = true := by simp [hk]
    cases hB : Op.bytesLess k k' with
    | true =>
      go_enter Try.func13, Try.ntmps13
      go_wp2_with (fail)
      go_ret
      exact ⟨rfl, ((Below.refl _ _).alloc (Nat.le_refl _) _).alloc (by simp) _⟩
    | false =>
      go_enter Try.func13, Try.ntmps13
      go_wp2_with (fail)
      go_ret
      exact ⟨rfl, ((Below.refl _ _).alloc (Nat.le_refl _) _).alloc (by simp) _⟩
namespace Mm
/-- May an entry be? -/
def may (e : Ent) : Bool := decide (1 ≤ e.seq) && decide (e.seq ≤ 1073741824) && Wl.mayBe ⟨e.key, e.value, e.del⟩
def checkE (e : Ent) : Int := if may e then 0 else 2
end Mm

theorem wcheck_one (wx : World) (k v : Mm.Bs) (s : Int) (d : Bool) (h1 : 1 ≤ s) (h2 : s ≤ 1073741824) (hk : k.length ≤ 1000000) (hv : v.length ≤ 1000000) : Calls Try.prog 37 #[.slice (some ⟨wx.heap.size, 0, none⟩) 1 1] (wx.alloc (.cells #[str k, str v, .bool d] 70)) fun r w' => r = .returned (.int .i64 (Mm.checkE ⟨k, v, s, d⟩)) ∧ Below wx.heap.size wx w' := by
  have hb := World.alloc_heap_new wx (.cells #[str k, str v, .bool d] 70)
  have ha : WrsAt (wx.alloc (.cells #[str k, str v, .bool d] 70)) (.slice (some ⟨wx.heap.size, 0, none⟩) 1 1) [⟨k, v, d⟩] := ⟨⟨_, 1, rfl, fun _ => ⟨_, 0, rfl, fun j hj => by
    obtain rfl : j = 0 := by simpa using hj
    exact ⟨Joins.cell_of_block hb 0, Joins.cell_of_block hb 1, Joins.cell_of_block hb 2⟩⟩⟩⟩
  have hq : ∀ x ∈ [(⟨k, v, d⟩ : Wl.Wr)], x.key.length ≤ 1000000 ∧ x.value.length ≤ 1000000 := fun x hx => by
    obtain rfl : x = ⟨k, v, d⟩ := by simpa using hx
    exact ⟨hk, hv⟩
  have hE : Mm.checkE ⟨k, v, s, d⟩ = Wl.checkE [⟨k, v, d⟩] := by
    unfold Mm.checkE Mm.may Wl.checkE
    rw [decide_eq_true (p := 1 ≤ s) h1, decide_eq_true (p := s ≤ 1073741824) h2]
    simp [Wl.shared]
  refine (check_any _ _ 1 1 [⟨k, v, d⟩] ha rfl (by omega) hq _ hE).mono ?_
  rintro r w' ⟨rfl, b⟩
  exact ⟨rfl, ((Below.refl _ _).alloc (Nat.le_refl _) _).trans (b.mono (by simp))⟩

set_option maxRecDepth 10000 in
set_option maxHeartbeats 2000000 in
theorem mcheck_low (w : World) (k v : Mm.Bs) (s : Int) (d : Bool) (h1 : s < 1) : Calls Try.prog 11 #[.agg #[str k, str v, .int .i64 s, .bool d]] w fun r w' => r = .returned (.int .i64 2) ∧ Below w.heap.size w w' := by
  go_enter Try.func11, Try.ntmps11
  go_wp2_with (fail)
  go_ret
  exact ⟨rfl, (Below.refl _ _).alloc (Nat.le_refl _) _⟩
set_option maxRecDepth 10000 in
set_option maxHeartbeats 2000000 in
theorem mcheck_high (w : World) (k v : Mm.Bs) (s : Int) (d : Bool) (h1 : ¬ s < 1) (h2 : s > 1073741824) : Calls Try.prog 11 #[.agg #[str k, str v, .int .i64 s, .bool d]] w fun r w' => r = .returned (.int .i64 2) ∧ Below w.heap.size w w' := by
  go_enter Try.func11, Try.ntmps11
  go_wp2_with (fail)
  go_ret
  exact ⟨rfl, (Below.refl _ _).alloc (Nat.le_refl _) _⟩
set_option maxRecDepth 10000 in
set_option maxHeartbeats 2000000 in
theorem mcheck_mid (w : World) (k v : Mm.Bs) (s : Int) (d : Bool) (h1 : ¬ s < 1) (h2 : ¬ s > 1073741824) (E : Int)
    (CK : Hid (Calls Try.prog 37 #[.slice (some ⟨w.heap.size + 1, 0, none⟩) 1 1] ((w.alloc (.cells #[str k, str v, .int .i64 s, .bool d] 38)).alloc (.cells #[str k, str v, .bool d] 70)) fun r w' => r = .returned (.int .i64 E) ∧ Below (w.alloc (.cells #[str k, str v, .int .i64 s, .bool d] 38)).heap.size (w.alloc (.cells #[str k, str v, .int .i64 s, .bool d] 38)) w')) :
    Calls Try.prog 11 #[.agg #[str k, str v, .int .i64 s, .bool d]] w fun r w' => r = .returned (.int .i64 E) ∧ Below w.heap.size w w' := by
  go_enter Try.func11, Try.ntmps11
  go_wp2_with (first
    | (go_at_call 37; refine CK.out.mono ?_; rintro r w1 ⟨rfl, b1⟩))
  go_ret
  exact ⟨rfl, ((Below.refl _ _).alloc (Nat.le_refl _) _).trans (b1.mono (by simp))⟩
theorem mcheck_any (w : World) (e : Mm.Ent) (hk : e.key.length ≤ 1000000) (hv : e.value.length ≤ 1000000) : Calls Try.prog 11 #[entV e] w fun r w' => r = .returned (.int .i64 (Mm.checkE e)) ∧ Below w.heap.size w w' := by
  obtain ⟨k, v, s, d⟩ := e
  by_cases h1 : s < 1
  · have HE : Mm.checkE ⟨k, v, s, d⟩ = 2 := by unfold Mm.checkE Mm.may; rw [decide_eq_false (p := 1 ≤ s) (by omega)]; rfl
    rw [HE]
    exact mcheck_low w k v s d h1
  by_cases h2 : s > 1073741824
  · have HE : Mm.checkE ⟨k, v, s, d⟩ = 2 := by unfold Mm.checkE Mm.may; rw [decide_eq_false (p := s ≤ 1073741824) (by omega), Bool.and_false]; rfl
    rw [HE]
    exact mcheck_high w k v s d h1 h2
  have C := wcheck_one (w.alloc (.cells #[str k, str v, .int .i64 s, .bool d] 38)) k v s d (by omega) (by omega) hk hv
  have hz : (w.alloc (.cells #[str k, str v, .int .i64 s, .bool d] 38)).heap.size = w.heap.size + 1 := World.size_alloc ..
  generalize hE : Mm.checkE ⟨k, v, s, d⟩ = E at C ⊢
  refine mcheck_mid w k v s d h1 h2 E ?_
  show Calls _ _ _ _ _
  rw [← hz]
  exact C

/-- The cells of an entry. -/
def ec (x : Mm.Ent) : List Value := [str x.key, str x.value, .int .i64 x.seq, .bool x.del]
def ecs (l : List Mm.Ent) : List Value := l.flatMap ec
theorem ecs_length (l : List Mm.Ent) : (ecs l).length = l.length * 4 := by
  induction l with
  | nil => rfl
  | cons s r ih =>
    have : ecs (s :: r) = ec s ++ ecs r := rfl
    rw [this, List.length_append, ih, List.length_cons]
    show 4 + _ = _
    omega
theorem ecs_append (l m : List Mm.Ent) : ecs (l ++ m) = ecs l ++ ecs m := by simp [ecs]
theorem ecs_get (l : List Mm.Ent) (j : Nat) (h : j < l.length) : (ecs l)[j * 4]? = some (str l[j].key) ∧ (ecs l)[j * 4 + 1]? = some (str l[j].value) ∧ (ecs l)[j * 4 + 2]? = some (.int .i64 l[j].seq) ∧ (ecs l)[j * 4 + 3]? = some (.bool l[j].del) := by
  induction l generalizing j with
  | nil => simp at h
  | cons s r ih =>
    have e : ecs (s :: r) = str s.key :: str s.value :: .int .i64 s.seq :: .bool s.del :: ecs r := rfl
    cases j with
    | zero => rw [e]; exact ⟨rfl, rfl, rfl, rfl⟩
    | succ j =>
      have := ih j (by simpa using h)
      have e1 : (j + 1) * 4 = j * 4 + 1 + 1 + 1 + 1 := by omega
      rw [e, e1]
      exact this
theorem ecs_one (l : List Mm.Ent) : ∀ u ∈ ecs l, u.oneCell' = true := by
  intro u hu
  simp only [ecs, List.mem_flatMap, ec] at hu
  obtain ⟨x, _, hx⟩ := hu
  simp only [List.mem_cons, List.not_mem_nil, or_false] at hx
  rcases hx with rfl | rfl | rfl | rfl <;> rfl

/-- Entries, where they can be read. -/
structure EntsAt (w : World) (v : Value) (l : List Mm.Ent) : Prop where
  form : ∃ a cap, v = .slice a l.length cap ∧ (l ≠ [] → ∃ b off, a = some ⟨b, off, none⟩ ∧ ∀ j (h : j < l.length), w.cell? ⟨b, off + j * 4, none⟩ = some (str l[j].key) ∧ w.cell? ⟨b, off + j * 4 + 1, none⟩ = some (str l[j].value) ∧ w.cell? ⟨b, off + j * 4 + 2, none⟩ = some (.int .i64 l[j].seq) ∧ w.cell? ⟨b, off + j * 4 + 3, none⟩ = some (.bool l[j].del))
theorem EntsAt.later {w w' : World} {v : Value} {l : List Mm.Ent} (h : EntsAt w v l) (hb : Below w.heap.size w w') : EntsAt w' v l := by
  obtain ⟨⟨a, cap, e, hf⟩⟩ := h
  refine ⟨⟨a, cap, e, fun h0 => ?_⟩⟩
  obtain ⟨b, off, ha, hat⟩ := hf h0
  exact ⟨b, off, ha, fun j hj => ⟨keepC hb (hat j hj).1, keepC hb (hat j hj).2.1, keepC hb (hat j hj).2.2.1, keepC hb (hat j hj).2.2.2⟩⟩
theorem EntsAt.cells {w : World} {b off n cap : Nat} {l : List Mm.Ent} (h : EntsAt w (.slice (some ⟨b, off, none⟩) n cap) l) (j : Nat) (hj : j < l.length) :
    w.cell? ⟨b, off + j * 4, none⟩ = some (str l[j].key) ∧ w.cell? ⟨b, off + j * 4 + 1, none⟩ = some (str l[j].value) ∧ w.cell? ⟨b, off + j * 4 + 2, none⟩ = some (.int .i64 l[j].seq) ∧ w.cell? ⟨b, off + j * 4 + 3, none⟩ = some (.bool l[j].del) := by
  obtain ⟨⟨a, c, e, hf⟩⟩ := h
  obtain ⟨b', off', ha, hat⟩ := hf (fun h0 => by rw [h0] at hj; cases hj)
  cases e
  cases ha
  exact hat j hj
theorem EntsAt.some {w : World} {a : Option Addr} {n cap : Nat} {l : List Mm.Ent} (h : EntsAt w (.slice a n cap) l) (h0 : 0 < l.length) : ∃ b off, a = some ⟨b, off, none⟩ := by
  obtain ⟨⟨a', c', e, hf⟩⟩ := h
  obtain ⟨b, off, ha, _⟩ := hf (fun h1 => by rw [h1] at h0; cases h0)
  cases e
  exact ⟨b, off, ha⟩
theorem EntsAt.nil (w : World) (a : Option Addr) (c : Nat) : EntsAt w (.slice a 0 c) [] := ⟨⟨a, c, rfl, fun h => absurd rfl h⟩⟩
theorem EntsAt.own {w : World} {base : Nat} {v : Value} {l : List Mm.Ent} (h : w.ownsRow base 38 4 v l.length (ecs l)) : EntsAt w v l := by
  rcases h.2 with ⟨rfl, h0⟩ | ⟨g, cap, cur, rfl, _⟩
  · have : l = [] := List.eq_nil_of_length_eq_zero h0
    subst this
    exact EntsAt.nil _ _ _
  · refine ⟨⟨_, cap, rfl, fun _ => ⟨g, 0, rfl, fun j hj => ?_⟩⟩⟩
    obtain ⟨e0, e1, e2, e3⟩ := ecs_get l j hj
    rw [Nat.zero_add, h.cellAt (j * 4) (by omega), h.cellAt (j * 4 + 1) (by omega), h.cellAt (j * 4 + 2) (by omega), h.cellAt (j * 4 + 3) (by omega)]
    exact ⟨e0, e1, e2, e3⟩

set_option maxHeartbeats 1600000 in
theorem samee_some (w : World) (b off cap b2 off2 cap2 : Nat) (l : List Mm.Ent) (hv : EntsAt w (.slice (some ⟨b, off, none⟩) l.length cap) l) (hv2 : EntsAt w (.slice (some ⟨b2, off2, none⟩) l.length cap2) l) (hlen : l.length ≤ 1000000) :
    Calls Try.prog 20 #[.slice (some ⟨b, off, none⟩) l.length cap, .slice (some ⟨b2, off2, none⟩) l.length cap2] w fun e w' => e = .returned (.bool true) ∧ Below w.heap.size w w' := by
  go_enter Try.func20, Try.ntmps20
  go_wp2
  go_loopw [5] (fun i wr => ∃ j : Nat, j ≤ l.length ∧ i = .int .i64 j ∧ Below w.heap.size w wr) (fun i _ => l.length - (intOf i).toNat)
  case atStart => exact ⟨0, Nat.zero_le _, rfl, Below.refl _ _⟩
  case round =>
    obtain ⟨j, hj, rfl, hbel⟩ := hrel
    by_cases hlt : j < l.length
    · obtain ⟨d0, d1, d2, d3⟩ := (hv.later hbel).cells j hlt
      obtain ⟨e0, e1, e2, e3⟩ := (hv2.later hbel).cells j hlt
      generalize l[j] = c at d0 d1 d2 d3 e0 e1 e2 e3
      obtain ⟨ck, cv, cs, cd⟩ := c
      clear hv hv2
      go_wp2
      go_quiet (fail)
      go_wp2
      go_roundw
      case rel => exact ⟨j + 1, by omega, by go_num, below_drewN hbel _⟩
      case measure => simp [intOf]; omega
    · go_wp2
      go_ret
      exact ⟨rfl, hbel⟩
set_option maxHeartbeats 800000 in
theorem samee_none (w : World) (a a2 : Option Addr) (cap cap2 : Nat) :
    Calls Try.prog 20 #[.slice a 0 cap, .slice a2 0 cap2] w fun e w' => e = .returned (.bool true) ∧ w' = w := by
  go_enter Try.func20, Try.ntmps20
  go_wp2
  refine wp_loop_rounds 1 ?_
  rw [rounds_succ]
  go_wp2
  go_ret
  exact ⟨rfl, rfl⟩
theorem samee_any (w : World) (v v2 : Value) (l : List Mm.Ent) (h : EntsAt w v l) (h2 : EntsAt w v2 l) (hlen : l.length ≤ 1000000) :
    Calls Try.prog 20 #[v, v2] w fun e w' => e = .returned (.bool true) ∧ Below w.heap.size w w' := by
  have h' := h
  have h2' := h2
  obtain ⟨⟨a, cap, rfl, hf⟩⟩ := h'
  obtain ⟨⟨a2, cap2, rfl, hf2⟩⟩ := h2'
  by_cases h0 : l = []
  · subst h0
    refine (samee_none w a a2 cap cap2).mono ?_
    rintro e w' ⟨rfl, rfl⟩
    exact ⟨rfl, Below.refl _ _⟩
  · obtain ⟨b, off, rfl, _⟩ := hf h0
    obtain ⟨b2, off2, rfl, _⟩ := hf2 h0
    exact samee_some w b off cap b2 off2 cap2 l h h2 hlen
end Go.Proofs.Ytbdgdigpnfpnhaa.Q
