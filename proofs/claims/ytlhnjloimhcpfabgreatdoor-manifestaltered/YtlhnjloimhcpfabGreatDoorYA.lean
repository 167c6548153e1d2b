/-
  Two tables' words held against each other: the library's comparison at numbers and texts, and the order of tables in a version. .. and what follows from it.
-/
import Derived.Test.YtlhnjloimhcpfabGreatDoorYP
import Derived.Test.YtlhnjloimhcpfabGreatDoorVA
import Derived.Test.YtlhnjloimhcpfabGreatDoorKWr
import Derived.Lib.SmallJoins
import Derived.RangeFuncRecord
import Derived.Test.YtlhnjloimhcpfabGreatDoorVC
import Derived.Deep.RegionHeld3
import Derived.Deep.AppendLies
namespace Go.Proofs.YtlhnjloimhcpfabGreatDoor
open Go.RowKit

/-- A table's words as a value. -/
def mc (x : Mf.Mt) : List Value := [.int .i64 x.number, .int .i64 x.level, .int .i64 x.count, str x.first, str x.last]
abbrev mv (x : Mf.Mt) : Value := .agg #[.int .i64 x.number, .int .i64 x.level, .int .i64 x.count, str x.first, str x.last]

theorem nanI (w : World) (x : Int) : Calls Tryz.prog 124 #[.int .i64 x] w fun e w' => e = .returned (.bool false) ∧ w' = w := by
  go_enter Tryz.func124, Tryz.ntmps124
  go_wp2_with (fail)
  go_ret
  simp
theorem nanS (w : World) (x : Mf.Bs) : Calls Tryz.prog 125 #[str x] w fun e w' => e = .returned (.bool false) ∧ w' = w := by
  go_enter Tryz.func125, Tryz.ntmps125
  go_wp2_with (fail)
  go_ret
  simp

set_option maxHeartbeats 1600000 in
theorem compareI (w : World) (x y : Int) : Calls Tryz.prog 91 #[.int .i64 x, .int .i64 y] w fun e w' => e = .returned (.int .i64 (Mf.cmpI x y)) ∧ w' = w := by
  have NX := hide (nanI w x)
  have NY := hide (nanI w y)
  unfold Mf.cmpI
  by_cases h1 : x < y
  · rw [if_pos h1]
    go_enter Tryz.func91, Tryz.ntmps91
    go_wp2_with (first
      | (go_at_call 124; have tok := NX; refine still NX.out ?_; clear NX tok)
      | (go_at_call 124; refine still NY.out ?_; clear NY))
    go_ret
    exact ⟨rfl, rfl⟩
  · rw [if_neg h1]
    by_cases h2 : y < x
    · rw [if_pos h2]
      have h3 : x > y := h2
      go_enter Tryz.func91, Tryz.ntmps91
      go_wp2_with (first
        | (go_at_call 124; have tok := NX; refine still NX.out ?_; clear NX tok)
        | (go_at_call 124; refine still NY.out ?_; clear NY))
      go_ret
      exact ⟨rfl, rfl⟩
    · rw [if_neg h2]
      have h3 : ¬ x > y := h2
      go_enter Tryz.func91, Tryz.ntmps91
      go_wp2_with (first
        | (go_at_call 124; have tok := NX; refine still NX.out ?_; clear NX tok)
        | (go_at_call 124; refine still NY.out ?_; clear NY))
      go_ret
      exact ⟨rfl, rfl⟩
set_option maxHeartbeats 1600000 in
theorem compareS (w : World) (x y : Mf.Bs) : Calls Tryz.prog 92 #[str x, str y] w fun e w' => e = .returned (.int .i64 (Mf.cmpB x y)) ∧ w' = w := by
  have NX := hide (nanS w x)
  have NY := hide (nanS w y)
  unfold Mf.cmpB
  cases h1 : Op.bytesLess x y with
  | true =>
    rw [if_pos rfl]
    go_enter Tryz.func92, Tryz.ntmps92
    go_wp2_with (first
      | (go_at_call 125; have tok := NX; refine still NX.out ?_; clear NX tok)
      | (go_at_call 125; refine still NY.out ?_; clear NY))
    go_ret
    exact ⟨rfl, rfl⟩
  | false =>
    rw [if_neg (by simp)]
    cases h2 : Op.bytesLess y x with
    | true =>
      rw [if_pos rfl]
      have q : (!x == y) = true := by
        have : ¬ x = y := fun e => by rw [e, Mf.bl_irrefl] at h2; cases h2
        simp [this]
      go_enter Tryz.func92, Tryz.ntmps92
      go_wp2_with (first
        | (go_at_call 125; have tok := NX; refine still NX.out ?_; clear NX tok)
        | (go_at_call 125; refine still NY.out ?_; clear NY))
      go_ret
      exact ⟨rfl, rfl⟩
    | false =>
      rw [if_neg (by simp)]
      have q : (!x == y) = false := by simp [Mf.bl_total h1 h2]
      go_enter Tryz.func92, Tryz.ntmps92
      go_wp2_with (first
        | (go_at_call 125; have tok := NX; refine still NX.out ?_; clear NX tok)
        | (go_at_call 125; refine still NY.out ?_; clear NY))
      go_ret
      exact ⟨rfl, rfl⟩

/-- What order leaves: two blocks, its own copies. -/
def ordW (w : World) (a b : Mf.Mt) : World := (w.alloc (.cells #[.int .i64 a.number, .int .i64 a.level, .int .i64 a.count, str a.first, str a.last] 43)).alloc (.cells #[.int .i64 b.number, .int .i64 b.level, .int .i64 b.count, str b.first, str b.last] 43)
set_option maxHeartbeats 1600000 in
theorem order_any (w : World) (a b : Mf.Mt) : Calls Tryz.prog 57 #[mv a, mv b] w fun e w' => e = .returned (.int .i64 (Mf.ord a b)) ∧ w' = ordW w a b := by
  have CI := hide compareI
  have CS := hide compareS
  obtain ⟨n, v, c, f, l⟩ := a
  obtain ⟨n', v', c', f', l'⟩ := b
  unfold Mf.ord ordW
  simp only
  by_cases hv : v = v'
  · rw [if_pos hv]
    have q : (v != v') = false := by simp [hv]
    by_cases h0 : v = 0
    · rw [if_pos h0]
      have q0 : (v == 0) = true := by simp [h0]
      clear hv h0
      go_enter Tryz.func57, Tryz.ntmps57
      go_wp2_with (first
        | (go_at_call 91; refine still (CI.out _ _ _) ?_))
      go_ret
      exact ⟨rfl, rfl⟩
    · rw [if_neg h0]
      have q0 : (v == 0) = false := by simp [h0]
      clear hv h0
      go_enter Tryz.func57, Tryz.ntmps57
      go_wp2_with (first
        | (go_at_call 92; refine still (CS.out _ _ _) ?_))
      go_ret
      exact ⟨rfl, rfl⟩
  · rw [if_neg hv]
    have q : (v != v') = true := by simp [hv]
    clear hv
    go_enter Tryz.func57, Tryz.ntmps57
    go_wp2_with (first
      | (go_at_call 91; refine still (CI.out _ _ _) ?_))
    go_ret
    exact ⟨rfl, rfl⟩
end Go.Proofs.YtlhnjloimhcpfabGreatDoor
namespace Go.Proofs.YtlhnjloimhcpfabGreatDoor
open Go.RowKit

theorem within_any (w : World) (x lo hi : Int) : Calls Tryz.prog 85 #[.int .i64 x, .int .i64 lo, .int .i64 hi] w fun e w' => e = .returned (.bool (Mf.inB x lo hi)) ∧ w' = w := by
  unfold Mf.inB
  by_cases h1 : lo ≤ x
  · rw [decide_eq_true h1]
    by_cases h2 : x ≤ hi
    · rw [decide_eq_true h2]
      go_enter Tryz.func85, Tryz.ntmps85
      go_wp2_with (fail)
      go_ret
      exact ⟨rfl, rfl⟩
    · rw [decide_eq_false h2]
      go_enter Tryz.func85, Tryz.ntmps85
      go_wp2_with (fail)
      go_ret
      exact ⟨rfl, rfl⟩
  · rw [decide_eq_false h1]
    go_enter Tryz.func85, Tryz.ntmps85
    go_wp2_with (fail)
    go_ret
    exact ⟨rfl, rfl⟩

set_option maxHeartbeats 1600000 in
theorem numbers_any (w : World) (l s n : Int) : Calls Tryz.prog 87 #[.int .i64 l, .int .i64 s, .int .i64 n] w fun e w' => e = .returned (.bool (Mf.nums l s n)) ∧ w' = w := by
  have W1 := hide (within_any w l 1 999999)
  have W2 := hide (within_any w s 0 1073741824)
  have W3 := hide (within_any w n 1 999999)
  unfold Mf.nums
  generalize Mf.inB l 1 999999 = b1 at W1
  generalize Mf.inB s 0 1073741824 = b2 at W2
  generalize Mf.inB n 1 999999 = b3 at W3
  cases b1 with
  | false =>
    go_enter Tryz.func87, Tryz.ntmps87
    go_wp2_with (go_at_call 85; refine still W1.out ?_)
    go_ret
    exact ⟨rfl, rfl⟩
  | true =>
    cases b2 with
    | false =>
      go_enter Tryz.func87, Tryz.ntmps87
      go_wp2_with (first
        | (go_at_call 85; have tok := W1; refine still W1.out ?_; clear W1 tok)
        | (go_at_call 85; refine still W2.out ?_))
      go_ret
      exact ⟨rfl, rfl⟩
    | true =>
      cases b3 <;>
      · go_enter Tryz.func87, Tryz.ntmps87
        go_wp2_with (first
          | (go_at_call 85; have tok := W1; refine still W1.out ?_; clear W1 tok)
          | (go_at_call 85; have tok := W2; refine still W2.out ?_; clear W2 tok)
          | (go_at_call 85; refine still W3.out ?_))
        go_ret
        exact ⟨rfl, rfl⟩

abbrev mO (x : Mf.Mt) : Obj := .cells #[.int .i64 x.number, .int .i64 x.level, .int .i64 x.count, str x.first, str x.last] 43

theorem le_form (f l : Mf.Bs) : (Op.bytesLess f l || f == l) = !Op.bytesLess l f := by
  cases h1 : Op.bytesLess f l with
  | true => rw [Mf.bl_asym h1]; rfl
  | false =>
    cases h2 : Op.bytesLess l f with
    | true =>
      have : ¬ f = l := fun e => by rw [e, Mf.bl_irrefl] at h2; cases h2
      simp [this]
    | false => simp [Mf.bl_total h1 h2]

set_option maxHeartbeats 3200000 in
theorem words_any (w : World) (x : Mf.Mt) (hf : x.first.length ≤ 1000000000) (hl : x.last.length ≤ 1000000000) : Calls Tryz.prog 86 #[mv x] w fun e w' => e = .returned (.bool (Mf.words x)) ∧ Below w.heap.size w w' := by
  obtain ⟨n, v, c, f, l⟩ := x
  simp only at hf hl
  have B1 : Below w.heap.size w (w.alloc (mO ⟨n, v, c, f, l⟩)) := (Below.refl _ _).alloc (Nat.le_refl _) _
  have W1 := hide (fun wx => within_any wx n 1 999999)
  have W2 := hide (fun wx => within_any wx v 0 6)
  have W3 := hide (fun wx => within_any wx c 1 65536)
  have W4 := hide (fun wx => within_any wx (f.length : Int) 1 512)
  have W5 := hide (fun wx => within_any wx (l.length : Int) 1 512)
  unfold Mf.words
  simp only
  generalize Mf.inB n 1 999999 = b1 at W1
  generalize Mf.inB v 0 6 = b2 at W2
  generalize Mf.inB c 1 65536 = b3 at W3
  generalize Mf.inB (f.length : Int) 1 512 = b4 at W4
  generalize Mf.inB (l.length : Int) 1 512 = b5 at W5
  cases b1 with
  | false =>
    go_enter Tryz.func86, Tryz.ntmps86
    go_wp2_with (go_at_call 85; refine still (W1.out _) ?_)
    go_ret
    exact ⟨rfl, B1⟩
  | true =>
    cases b2 with
    | false =>
      go_enter Tryz.func86, Tryz.ntmps86
      go_wp2_with (first
        | (go_at_call 85; have tok := W1; refine still (W1.out _) ?_; clear W1 tok)
        | (go_at_call 85; refine still (W2.out _) ?_))
      go_ret
      exact ⟨rfl, B1⟩
    | true =>
      cases b3 with
      | false =>
        go_enter Tryz.func86, Tryz.ntmps86
        go_wp2_with (first
          | (go_at_call 85; have tok := W1; refine still (W1.out _) ?_; clear W1 tok)
          | (go_at_call 85; have tok := W2; refine still (W2.out _) ?_; clear W2 tok)
          | (go_at_call 85; refine still (W3.out _) ?_))
        go_ret
        exact ⟨rfl, B1⟩
      | true =>
        cases b4 with
        | false =>
          go_enter Tryz.func86, Tryz.ntmps86
          go_wp2_with (first
            | (go_at_call 85; have tok := W1; refine still (W1.out _) ?_; clear W1 tok)
            | (go_at_call 85; have tok := W2; refine still (W2.out _) ?_; clear W2 tok)
            | (go_at_call 85; have tok := W3; refine still (W3.out _) ?_; clear W3 tok)
            | (go_at_call 85; refine still (W4.out _) ?_))
          go_ret
          exact ⟨rfl, B1⟩
        | true =>
          cases b5 with
          | false =>
            go_enter Tryz.func86, Tryz.ntmps86
            go_wp2_with (first
              | (go_at_call 85; have tok := W1; refine still (W1.out _) ?_; clear W1 tok)
              | (go_at_call 85; have tok := W2; refine still (W2.out _) ?_; clear W2 tok)
              | (go_at_call 85; have tok := W3; refine still (W3.out _) ?_; clear W3 tok)
              | (go_at_call 85; have tok := W4; refine still (W4.out _) ?_; clear W4 tok)
              | (go_at_call 85; refine still (W5.out _) ?_))
            go_ret
            exact ⟨rfl, B1⟩
          | true =>
            go_enter Tryz.func86, Tryz.ntmps86
            go_wp2_with (first
              | (go_at_call 85; have tok := W1; refine still (W1.out _) ?_; clear W1 tok)
              | (go_at_call 85; have tok := W2; refine still (W2.out _) ?_; clear W2 tok)
              | (go_at_call 85; have tok := W3; refine still (W3.out _) ?_; clear W3 tok)
              | (go_at_call 85; have tok := W4; refine still (W4.out _) ?_; clear W4 tok)
              | (go_at_call 85; refine still (W5.out _) ?_))
            go_ret
            refine ⟨?_, B1⟩
            show Ending.returned (.bool (Op.bytesLess f l || f == l)) = _
            rw [le_form]
            rfl

set_option maxHeartbeats 3200000 in
theorem follow_any (w : World) (a b : Mf.Mt) : Calls Tryz.prog 93 #[mv a, mv b] w fun e w' => e = .returned (.bool (Mf.follow a b)) ∧ Below w.heap.size w w' := by
  have OR : Hid (∀ wx : World, Calls Tryz.prog 57 #[mv a, mv b] wx fun e w' => e = .returned (.int .i64 (Mf.ord a b)) ∧ Below wx.heap.size wx w') := fun wx => by
    refine (order_any wx a b).mono ?_
    rintro e w' ⟨rfl, rfl⟩
    exact ⟨rfl, ((Below.refl _ _).alloc (Nat.le_refl _) _).alloc (by simp) _⟩
  have B2 : Below w.heap.size w ((w.alloc (mO a)).alloc (mO b)) := ((Below.refl _ _).alloc (Nat.le_refl _) _).alloc (by simp) _
  obtain ⟨n, v, c, f, l⟩ := a
  obtain ⟨n', v', c', f', l'⟩ := b
  unfold Mf.follow Mf.lt
  simp only
  generalize Mf.ord ⟨n, v, c, f, l⟩ ⟨n', v', c', f', l'⟩ = o at OR
  by_cases hv : v = v'
  · have q : (v == v') = true := by simp [hv]
    by_cases h0 : 0 < v
    · rw [if_pos ⟨hv, h0⟩]
      have q0 : v > 0 := h0
      clear hv h0
      cases hB : Op.bytesLess l f' <;>
      · go_enter Tryz.func93, Tryz.ntmps93
        go_wp2_with (fail)
        go_ret
        exact ⟨rfl, B2⟩
    · rw [if_neg (fun k => h0 k.2)]
      have q0 : ¬ v > 0 := h0
      clear hv h0
      go_enter Tryz.func93, Tryz.ntmps93
      go_wp2_with (go_at_call 57; refine (OR.out _).mono ?_; rintro e w3 ⟨rfl, b3⟩)
      go_ret
      exact ⟨rfl, B2.trans (b3.mono B2.size)⟩
  · have q : (v == v') = false := by simp [hv]
    rw [if_neg (fun k => hv k.1)]
    clear hv
    go_enter Tryz.func93, Tryz.ntmps93
    go_wp2_with (go_at_call 57; refine (OR.out _).mono ?_; rintro e w3 ⟨rfl, b3⟩)
    go_ret
    exact ⟨rfl, B2.trans (b3.mono B2.size)⟩
end Go.Proofs.YtlhnjloimhcpfabGreatDoor
namespace Go.Proofs.YtlhnjloimhcpfabGreatDoor
open Go.RowKit

def mcs (l : List Mf.Mt) : List Value := l.flatMap mc
theorem mcs_length (l : List Mf.Mt) : (mcs l).length = l.length * 5 := by
  induction l with
  | nil => rfl
  | cons s r ih =>
    have : mcs (s :: r) = mc s ++ mcs r := rfl
    rw [this, List.length_append, ih, List.length_cons]
    show 5 + _ = _
    omega
theorem mcs_append (l m : List Mf.Mt) : mcs (l ++ m) = mcs l ++ mcs m := by simp [mcs]
theorem mcs_get (l : List Mf.Mt) (j : Nat) (h : j < l.length) : (mcs l)[j * 5]? = some (.int .i64 l[j].number) ∧ (mcs l)[j * 5 + 1]? = some (.int .i64 l[j].level) ∧ (mcs l)[j * 5 + 2]? = some (.int .i64 l[j].count) ∧ (mcs l)[j * 5 + 3]? = some (str l[j].first) ∧ (mcs l)[j * 5 + 4]? = some (str l[j].last) := by
  induction l generalizing j with
  | nil => simp at h
  | cons s r ih =>
    have e : mcs (s :: r) = .int .i64 s.number :: .int .i64 s.level :: .int .i64 s.count :: str s.first :: str s.last :: mcs r := rfl
    cases j with
    | zero => rw [e]; exact ⟨rfl, rfl, rfl, rfl, rfl⟩
    | succ j =>
      have := ih j (by simpa using h)
      have e1 : (j + 1) * 5 = j * 5 + 1 + 1 + 1 + 1 + 1 := by omega
      rw [e, e1]
      exact this
theorem mcs_one (l : List Mf.Mt) : ∀ u ∈ mcs l, u.oneCell' = true := by
  intro u hu
  simp only [mcs, List.mem_flatMap, mc] at hu
  obtain ⟨x, _, hx⟩ := hu
  simp only [List.mem_cons, List.not_mem_nil, or_false] at hx
  rcases hx with rfl | rfl | rfl | rfl | rfl <;> rfl

/-- The cells of one table's words. -/
def MtCells (w : World) (b o : Nat) (x : Mf.Mt) : Prop := w.cell? ⟨b, o, none⟩ = some (.int .i64 x.number) ∧ w.cell? ⟨b, o + 1, none⟩ = some (.int .i64 x.level) ∧ w.cell? ⟨b, o + 2, none⟩ = some (.int .i64 x.count) ∧ w.cell? ⟨b, o + 3, none⟩ = some (str x.first) ∧ w.cell? ⟨b, o + 4, none⟩ = some (str x.last)
theorem MtCells.later {w w' : World} {b o : Nat} {x : Mf.Mt} (h : MtCells w b o x) (hb : Below w.heap.size w w') : MtCells w' b o x := ⟨keepC hb h.1, keepC hb h.2.1, keepC hb h.2.2.1, keepC hb h.2.2.2.1, keepC hb h.2.2.2.2⟩
/-- Tables' words, where they can be read. -/
structure MtsAt (w : World) (v : Value) (l : List Mf.Mt) : Prop where
  form : ∃ a cap, v = .slice a l.length cap ∧ (l ≠ [] → ∃ b off, a = some ⟨b, off, none⟩ ∧ ∀ j (h : j < l.length), MtCells w b (off + j * 5) l[j])
theorem MtsAt.later {w w' : World} {v : Value} {l : List Mf.Mt} (h : MtsAt w v l) (hb : Below w.heap.size w w') : MtsAt w' v l := by
  obtain ⟨⟨a, cap, e, hf⟩⟩ := h
  refine ⟨⟨a, cap, e, fun h0 => ?_⟩⟩
  obtain ⟨b, off, ha, hat⟩ := hf h0
  exact ⟨b, off, ha, fun j hj => (hat j hj).later hb⟩
theorem MtsAt.cells {w : World} {b off n cap : Nat} {l : List Mf.Mt} (h : MtsAt w (.slice (some ⟨b, off, none⟩) n cap) l) (j : Nat) (hj : j < l.length) : MtCells w b (off + j * 5) l[j] := by
  obtain ⟨⟨a, c, e, hf⟩⟩ := h
  obtain ⟨b', off', ha, hat⟩ := hf (fun h0 => by rw [h0] at hj; cases hj)
  cases e
  cases ha
  exact hat j hj
theorem MtsAt.some {w : World} {a : Option Addr} {n cap : Nat} {l : List Mf.Mt} (h : MtsAt w (.slice a n cap) l) (h0 : 0 < l.length) : ∃ b off, a = some ⟨b, off, none⟩ := by
  obtain ⟨⟨a', c', e, hf⟩⟩ := h
  obtain ⟨b, off, ha, _⟩ := hf (fun h1 => by rw [h1] at h0; cases h0)
  cases e
  exact ⟨b, off, ha⟩
theorem MtsAt.shape {w : World} {v : Value} {l : List Mf.Mt} (h : MtsAt w v l) : ∃ a cap, v = .slice a l.length cap := by
  obtain ⟨⟨a, cap, e, _⟩⟩ := h
  exact ⟨a, cap, e⟩
theorem MtsAt.nil (w : World) (a : Option Addr) (c : Nat) : MtsAt w (.slice a 0 c) [] := ⟨⟨a, c, rfl, fun h => absurd rfl h⟩⟩
theorem MtsAt.own {w : World} {base : Nat} {v : Value} {l : List Mf.Mt} (h : w.ownsRow base 43 5 v l.length (mcs l)) : MtsAt w v l := by
  rcases h.2 with ⟨rfl, h0⟩ | ⟨g, cap, cur, rfl, _⟩
  · have : l = [] := List.eq_nil_of_length_eq_zero h0
    subst this
    exact MtsAt.nil _ _ _
  · refine ⟨⟨_, cap, rfl, fun _ => ⟨g, 0, rfl, fun j hj => ?_⟩⟩⟩
    obtain ⟨e0, e1, e2, e3, e4⟩ := mcs_get l j hj
    unfold MtCells
    rw [Nat.zero_add, h.cellAt (j * 5) (by omega), h.cellAt (j * 5 + 1) (by omega), h.cellAt (j * 5 + 2) (by omega), h.cellAt (j * 5 + 3) (by omega), h.cellAt (j * 5 + 4) (by omega)]
    exact ⟨e0, e1, e2, e3, e4⟩
theorem mt_block {w : World} {b : Nat} {x : Mf.Mt} (h : w.heap[b]? = some (mO x)) : MtCells w b 0 x :=
  ⟨Joins.cell_of_block h 0, Joins.cell_of_block h 1, Joins.cell_of_block h 2, Joins.cell_of_block h 3, Joins.cell_of_block h 4⟩
theorem mt_new (w : World) (x : Mf.Mt) : MtCells (w.alloc (mO x)) w.heap.size 0 x := mt_block (World.alloc_heap_new w _)

theorem infoM : (Tryz.prog.info? 43).map (fun i => (i.zero, i.size, i.bytes)) = some (some (.agg #[.int .i64 0, .int .i64 0, .int .i64 0, .string ⟨#[]⟩, .string ⟨#[]⟩]), 5, 56) := by kernel_rfl
theorem mc_new (W : World) (x : Mf.Mt) (B : Nat) (hB : B = W.heap.size) : ∀ j u, (mcs [x])[j]? = some u → (W.alloc (mO x)).cell? ((⟨B, 0, none⟩ : Addr).add j) = some u := by
  subst hB
  intro j u hu
  have hadd : (⟨W.heap.size, 0, none⟩ : Addr).add j = ⟨W.heap.size, j, none⟩ := by unfold Addr.add; split <;> simp_all
  rw [hadd]
  refine (Joins.cell_of_block (World.alloc_heap_new W _) j).trans ?_
  have : (mcs [x]) = [.int .i64 x.number, .int .i64 x.level, .int .i64 x.count, str x.first, str x.last] := rfl
  rw [this] at hu
  rw [← hu]
  rcases j with _ | _ | _ | _ | _ | j <;> rfl

set_option maxHeartbeats 1600000 in
theorem samem_some (w : World) (b off cap b2 off2 cap2 : Nat) (l : List Mf.Mt) (hv : MtsAt w (.slice (some ⟨b, off, none⟩) l.length cap) l) (hv2 : MtsAt w (.slice (some ⟨b2, off2, none⟩) l.length cap2) l) (hlen : l.length ≤ 1000000) :
    Calls Tryz.prog 36 #[.slice (some ⟨b, off, none⟩) l.length cap, .slice (some ⟨b2, off2, none⟩) l.length cap2] w fun e w' => e = .returned (.bool true) ∧ Below w.heap.size w w' := by
  go_enter Tryz.func36, Tryz.ntmps36
  go_wp2
  go_loopw [5] (fun i wr => ∃ j : Nat, j ≤ l.length ∧ i = .int .i64 j ∧ Below w.heap.size w wr) (fun i _ => l.length - (intOf i).toNat)
  case atStart => exact ⟨0, Nat.zero_le _, rfl, Below.refl _ _⟩
  case round =>
    obtain ⟨j, hj, rfl, hbel⟩ := hrel
    by_cases hlt : j < l.length
    · obtain ⟨d0, d1, d2, d3, d4⟩ := (hv.later hbel).cells j hlt
      obtain ⟨e0, e1, e2, e3, e4⟩ := (hv2.later hbel).cells j hlt
      generalize l[j] = c at d0 d1 d2 d3 d4 e0 e1 e2 e3 e4
      obtain ⟨cn, cl, cc, cf, ca⟩ := c
      clear hv hv2
      go_wp2
      go_quiet (fail)
      go_wp2
      go_roundw
      case rel => exact ⟨j + 1, by omega, by go_num, below_drewN hbel _⟩
      case measure => simp [intOf]; omega
    · go_wp2
      go_ret
      exact ⟨rfl, hbel⟩
set_option maxHeartbeats 800000 in
theorem samem_none (w : World) (a a2 : Option Addr) (cap cap2 : Nat) :
    Calls Tryz.prog 36 #[.slice a 0 cap, .slice a2 0 cap2] w fun e w' => e = .returned (.bool true) ∧ w' = w := by
  go_enter Tryz.func36, Tryz.ntmps36
  go_wp2
  refine wp_loop_rounds 1 ?_
  rw [rounds_succ]
  go_wp2
  go_ret
  exact ⟨rfl, rfl⟩
theorem samem_any (w : World) (v v2 : Value) (l : List Mf.Mt) (h : MtsAt w v l) (h2 : MtsAt w v2 l) (hlen : l.length ≤ 1000000) :
    Calls Tryz.prog 36 #[v, v2] w fun e w' => e = .returned (.bool true) ∧ Below w.heap.size w w' := by
  have h' := h
  have h2' := h2
  obtain ⟨⟨a, cap, rfl, hf⟩⟩ := h'
  obtain ⟨⟨a2, cap2, rfl, hf2⟩⟩ := h2'
  by_cases h0 : l = []
  · subst h0
    refine (samem_none w a a2 cap cap2).mono ?_
    rintro e w' ⟨rfl, rfl⟩
    exact ⟨rfl, Below.refl _ _⟩
  · obtain ⟨b, off, rfl, _⟩ := hf h0
    obtain ⟨b2, off2, rfl, _⟩ := hf2 h0
    exact samem_some w b off cap b2 off2 cap2 l h h2 hlen
end Go.Proofs.YtlhnjloimhcpfabGreatDoor
namespace Go.Proofs.YtlhnjloimhcpfabGreatDoor
open Go.RowKit

theorem setCell_id {w : World} {g i : Nat} {cs : Array Value} {t : TypeId} {v : Value} (hb : w.heap[g]? = some (.cells cs t (0, 0))) (hv : cs[i]? = some v) : w.setCell ⟨g, i, none⟩ v = w := by
  have hg := (Array.getElem?_eq_some_iff.1 hb).1
  have hi := (Array.getElem?_eq_some_iff.1 hv).1
  have hc : cs.setIfInBounds i v = cs := by
    apply Array.ext_getElem?
    intro l
    by_cases hl : i = l
    · subst hl; rw [Array.getElem?_setIfInBounds_self_of_lt hi, hv]
    · rw [Array.getElem?_setIfInBounds_ne hl]
  have h1 := heap_setCell_same w g i cs t v hb
  rw [hc] at h1
  have h2 : (w.setCell ⟨g, i, none⟩ v).heap = w.heap := by
    apply Array.ext_getElem?
    intro l
    by_cases hl : l = g
    · subst hl; rw [h1, hb]
    · exact heap_setCell_other w _ l v hl
  have h3 : w.setCell ⟨g, i, none⟩ v = { w with heap := (w.setCell ⟨g, i, none⟩ v).heap } := rfl
  rw [h3, h2]

theorem sclone_any (w : World) (s : Mf.Bs) (h : s.length ≤ 1000000) : Calls Tryz.prog 52 #[str s] w fun e w' => e = .returned (str s) ∧ Below w.heap.size w w' := by
  have C := Tryz.stringslite_Clone ⟨s.toArray⟩ w (by show s.toArray.size ≤ _; simp; omega)
  clear h
  go_enter Tryz.func52, Tryz.ntmps52
  go_wp2_with (go_at_call 84; refine C.mono ?_; rintro e w1 ⟨rfl, b1⟩)
  go_ret
  exact ⟨rfl, b1⟩

theorem own_bel {base : Nat} {w w' : World} {e s n : Nat} {v : Value} {xs : List Value} (h : w.ownsRow base e s v n xs) (hb : base ≤ w.heap.size) (hg : w.grownBy w' v.ownBlock) : Below base w w' :=
  (Below.refl _ _).grown hg hb (fun k hk => by
    rcases h.2 with ⟨rfl, _⟩ | ⟨g, cap, cur, rfl, hge, _⟩
    · cases hk
    · cases hk; exact hge)
theorem own_aft {base : Nat} {w w' : World} {e s n : Nat} {v : Value} {xs : List Value} (h : w.ownsRow base e s v n xs) (hb : Below w.heap.size w w') : w'.ownsRow base e s v n xs :=
  h.kept (row := none) ⟨hb.os, hb.tape, hb.output, hb.size, fun k hk _ => hb.block k hk⟩ (by cases v.ownBlock with | none => exact .inl rfl | some g => exact .inr (by simp))
theorem row_shp {w : World} {base e size : Nat} {v : Value} {n : Nat} {xs : List Value} (h : w.ownsRow base e size v n xs) : ∃ a c, v = .slice a n c := by
  rcases h.2 with ⟨rfl, h0⟩ | ⟨g, cap, cur, rfl, _⟩
  · exact ⟨_, _, by rw [h0]⟩
  · exact ⟨_, _, rfl⟩
theorem mcs_take {l : List Mf.Mt} {j : Nat} (h : j < l.length) : mcs (l.take (j + 1)) = mcs (l.take j) ++ mcs [l[j]] := by
  rw [List.take_succ_eq_append_getElem h, mcs_append]

set_option maxRecDepth 100000 in
set_option maxHeartbeats 8000000 in
theorem copied_any (w : World) (a : Option Addr) (cap : Nat) (l : List Mf.Mt) (h : MtsAt w (.slice a l.length cap) l) (hlen : l.length ≤ 1000000) (hs : ∀ x ∈ l, x.first.length ≤ 1000000 ∧ x.last.length ≤ 1000000) :
    Calls Tryz.prog 26 #[.slice a l.length cap] w fun e w' => ∃ v, e = .returned v ∧ w'.ownsRow w.heap.size 43 5 v l.length (mcs l) ∧ Below w.heap.size w w' := by
  obtain ⟨ie, hi, hz0, hz1, hz2⟩ := info_parts infoM
  have SC : Hid (∀ wx (s : Mf.Bs), s.length ≤ 1000000 → Calls Tryz.prog 52 #[str s] wx fun e w' => e = .returned (str s) ∧ Below wx.heap.size wx w') := fun wx s hs => sclone_any wx s hs
  have HA := hide h
  have HS : Hid (∀ x ∈ l, x.first.length ≤ 1000000 ∧ x.last.length ≤ 1000000) := hs
  obtain ⟨L, hL⟩ : ∃ L, L = l.length := ⟨_, rfl⟩
  have HL : Hid (L = l.length) := hL
  rw [← hL] at hlen ⊢
  clear h hs hL
  go_enter Tryz.func26, Tryz.ntmps26
  go_wp2_with (fail)
  go_loopw [3, 8] (fun v i wr => ∃ j : Nat, j ≤ L ∧ i = .int .i64 j ∧ wr.ownsRow w.heap.size 43 5 v j (mcs (l.take j)) ∧ Below w.heap.size w wr) (fun _ i _ => L - (intOf i).toNat)
  case atStart => exact ⟨0, Nat.zero_le _, rfl, World.ownsRow_nil _ _ _ _, Below.refl _ _⟩
  case round =>
    obtain ⟨j, hj, rfl, O, BL⟩ := hrel
    by_cases hlt : j < L
    · have jl : j < l.length := by have := HL.out; omega
      have j1 : (j : Int) < (L : Int) := by omega
      have j2 : (0 : Int) ≤ (j : Int) := by omega
      obtain ⟨B, off, rfl⟩ := HA.out.some (by omega)
      obtain ⟨c0, c1, c2, c3, c4⟩ := (HA.out.later BL).cells j jl
      obtain ⟨hk, hv⟩ := HS.out l[j] (List.getElem_mem jl)
      have TK := hide (mcs_take jl)
      generalize l[j] = x at c0 c1 c2 c3 c4 hk hv TK
      obtain ⟨n, v, c, f, la⟩ := x
      simp only at c0 c1 c2 c3 c4 hk hv
      obtain ⟨W, hW⟩ : ∃ W, W = wr.alloc (mO ⟨n, v, c, f, la⟩) := ⟨_, rfl⟩
      have HW := hide hW
      have b0 : Below wr.heap.size wr W := by rw [hW]; exact (Below.refl _ _).alloc (Nat.le_refl _) _
      have HE : Hid (W.heap[wr.heap.size]? = some (mO ⟨n, v, c, f, la⟩)) := by show _ = _; rw [hW]; exact World.alloc_heap_new wr _
      have HO : Hid (W.ownsRow w.heap.size 43 5 _ j (mcs (l.take j))) := own_aft O b0
      have HB : Hid (Below w.heap.size w W) := BL.trans (b0.mono BL.size)
      have EH : Hid (∀ wx, Below W.heap.size W wx → wx.heap[wr.heap.size]? = some (mO ⟨n, v, c, f, la⟩) ∧ wx.cell? ⟨wr.heap.size, 3, none⟩ = some (str f) ∧ wx.cell? ⟨wr.heap.size, 4, none⟩ = some (str la) ∧ wx.frozen? ⟨wr.heap.size, 3, none⟩ = false ∧ wx.frozen? ⟨wr.heap.size, 4, none⟩ = false) := fun wx hw => by
        have := (hw.block _ (Array.getElem?_eq_some_iff.1 HE.out).1).trans HE.out
        exact ⟨this, Joins.cell_of_block this 3, Joins.cell_of_block this 4, Joins.unfrozen_of_block this 3, Joins.unfrozen_of_block this 4⟩
      have hbl := BL.size
      clear hW b0 O HA HS BL
      go_wp2_with (fail)
      rw [← HW.out]
      have D3 : Below W.heap.size W W.drew := (Below.refl _ _).drew
      have P1 := EH.out _ D3
      go_region_held3 (fun w' => w'.heap[wr.heap.size]? = some (mO ⟨n, v, c, f, la⟩) ∧ w'.cell? ⟨wr.heap.size, 3, none⟩ = some (str f) ∧ w'.cell? ⟨wr.heap.size, 4, none⟩ = some (str la) ∧ w'.frozen? ⟨wr.heap.size, 3, none⟩ = false ∧ w'.frozen? ⟨wr.heap.size, 4, none⟩ = false)
        (first | exact P1 | exact P2 | exact P3 | (rw [q0]; exact P3) | (rw [q1]; exact P3) | (rw [q0, q1]; exact P3) | (rw [q1, q0]; exact P3))
        (first
          | (go_at_call 52; have g := D3; refine (SC.out _ _ (by first | exact hk | exact hv)).mono ?_; rintro r w4 ⟨rfl, b4⟩; have D4 := D3.trans (b4.mono D3.size); have P2 := EH.out _ D4; clear D3 g)
          | (go_at_call 52; have g := D4; refine (SC.out _ _ (by first | exact hk | exact hv)).mono ?_; rintro r w5 ⟨rfl, b5⟩; have D5 := D4.trans (b5.mono D4.size); have P3 := EH.out _ D5; have q0 : w5.setCell ⟨wr.heap.size, 3, none⟩ (str f) = w5 := setCell_id P3.1 rfl; have q1 : w5.setCell ⟨wr.heap.size, 4, none⟩ (str la) = w5 := setCell_id P3.1 rfl; clear D4 g))
      have e5 := P3.1
      obtain ⟨x0, x1, x2, x3, x4⟩ := mt_block e5
      have O5 := hide (own_aft HO.out D5)
      have B5 := hide (HB.out.trans (D5.mono HB.out.size))
      clear P1 P2 P3 q0 q1 D5 EH SC e5 HE HO HB b4 b5 HW
      have CN : Hid (∀ W : World, ∀ B, B = W.heap.size → ∀ i u, (mcs [⟨n, v, c, f, la⟩])[i]? = some u → (W.alloc (mO ⟨n, v, c, f, la⟩)).cell? ((⟨B, 0, none⟩ : Addr).add i) = some u) := fun W B hB => mc_new W ⟨n, v, c, f, la⟩ B hB
      have KL : Hid ((mcs [⟨n, v, c, f, la⟩]).length = 1 * 5) := rfl
      have KO : Hid (∀ u ∈ mcs [⟨n, v, c, f, la⟩], u.oneCell' = true) := mcs_one _
      have Z1 : Hid (j + 1 ≤ maxLen) := by show _ ≤ _; unfold maxLen; omega
      have Z2 : Hid ((j + 1) * 56 ≤ 140737488355328) := by show _ ≤ _; omega
      have I7 := hide (own_aft O5.out ((Below.refl w5.heap.size w5).alloc (Nat.le_refl _) (mO ⟨n, v, c, f, la⟩)))
      have b7 := hide (B5.out.alloc B5.out.size (mO ⟨n, v, c, f, la⟩))
      have z6 := B5.out.size
      go_wp2_with (first
        | (at_builtin; refine wpList_append_lies _ rfl _ _ 37 rfl w.heap.size 43 ie _ 5 56 Tryz.underlying37 hi hz0 hz1 hz2 rfl (by decide) _ j _ rfl I7.out ⟨w5.heap.size, 0, none⟩ 1 1 (mcs [⟨n, v, c, f, la⟩]) rfl KL.out (CN.out _ _ rfl) KO.out (by decide) Z1.out Z2.out (by simp; omega) _ rfl ?_; intro g8 cap8 w12 o8 h8 l8 lt8))
      refine ⟨⟨j + 1, by omega, by go_num, ?_, b7.out.grown h8 b7.out.size (fun k hk => (I7.out.lt k hk).1)⟩, by simp [intOf]; omega⟩
      rw [TK.out]
      exact o8
    · have e : j = L := by omega
      subst e
      have i3 : ¬ (j : Int) < (j : Int) := by omega
      rw [List.take_of_length_le (by have := HL.out; omega)] at O
      have HO := hide O
      clear O HA HS SC
      go_wp2_with (fail)
      go_ret
      exact ⟨_, rfl, HO.out, BL⟩
end Go.Proofs.YtlhnjloimhcpfabGreatDoor
namespace Go.Proofs.YtlhnjloimhcpfabGreatDoor
open Go.RowKit

theorem run_append_zero {P : Program} (w : World) (base : Nat) (t ty e : TypeId) (i : TypeInfo) (size : Nat) (ht : P.underlying t = some (.slice e)) (hi : P.info? e = some i)
    (v : Value) (n : Nat) (xs : List Value) (hown : w.ownsRow base e size v n xs) (ao : Option Addr) (c : Nat) :
    (Builtin.append_ #[t, t] ty #[v, .slice ao 0 c]).run P w = .ok v w := by
  rcases hown.2 with ⟨rfl, rfl⟩ | ⟨g, cap, cur, rfl, _, _, hnc, _⟩
  · cases ao <;> simp [Builtin.append_, run_underlying ht, sizeOf, typeInfo, hi, Builtin.lenOf, Builtin.firstCells, loadCells, loadCellsFrom]
  · cases ao <;> simp [Builtin.append_, run_underlying ht, sizeOf, typeInfo, hi, Builtin.lenOf, Builtin.firstCells, hnc, storeCells, loadCells, loadCellsFrom]

theorem mts_cells {w : World} {b off n cap : Nat} {l : List Mf.Mt} (h : MtsAt w (.slice (some ⟨b, off, none⟩) n cap) l) : ∀ j u, (mcs l)[j]? = some u → w.cell? ((⟨b, off, none⟩ : Addr).add j) = some u := by
  intro j u hu
  have hj : j < l.length * 5 := by rw [← mcs_length]; exact (List.getElem?_eq_some_iff.1 hu).1
  have hadd : (⟨b, off, none⟩ : Addr).add j = ⟨b, off + j, none⟩ := by unfold Addr.add; split <;> simp_all
  rw [hadd, ← hu]
  obtain ⟨q, m, hq, hm, rfl⟩ : ∃ q m, q < l.length ∧ m < 5 ∧ j = q * 5 + m := ⟨j / 5, j % 5, by omega, by omega, by omega⟩
  obtain ⟨c0, c1, c2, c3, c4⟩ := h.cells q hq
  obtain ⟨e0, e1, e2, e3, e4⟩ := mcs_get l q hq
  rw [← Nat.add_assoc]
  match m, hm with
  | 0, _ => exact c0.trans e0.symm
  | 1, _ => exact c1.trans e1.symm
  | 2, _ => exact c2.trans e2.symm
  | 3, _ => exact c3.trans e3.symm
  | 4, _ => exact c4.trans e4.symm

theorem wpList_app_mts (w : World) {ops : Array Oper} {rest : List Oper} {o : Oper} {a : Act} {Q : Exit → Act → World → Prop} (hg : o.guard = none) (s x : Operand)
    (hop : o.op = .call { callee := .builtin .append, args := #[s, x], argTypes := #[37, 37] })
    (base : Nat) (va : Option Addr) (vc n k c : Nat) (A B : List Mf.Mt) (hs : a.eval s = .slice va n vc) (hown : w.ownsRow base 43 5 (.slice va n vc) n (mcs A))
    (ao : Option Addr) (hx : a.eval x = .slice ao k c) (hk : k = B.length) (hin : MtsAt w (.slice ao k c) B) (hroom : n + k ≤ 10000000) (hbase : base ≤ w.heap.size)
    (h : ∀ a' c' w', w'.ownsRow base 43 5 (.slice a' (n + k) c') (n + k) (mcs (A ++ B)) → w.grownBy w' (Value.slice va n vc).ownBlock → wpList Tryz.prog ops Q rest (a.put o.dst (.slice a' (n + k) c')) w') :
    wpList Tryz.prog ops Q (o :: rest) a w := by
  obtain ⟨i0, hi, hz0, hz1, hz2⟩ := info_parts infoM
  by_cases h0 : B = []
  · subst h0
    have hk0 : k = 0 := hk
    subst hk0
    refine wpList_plain hg fun K hK => ?_
    have hrun := run_append_zero (P := Tryz.prog) w base 37 o.type 43 i0 5 Tryz.underlying37 hi _ n _ hown ao c
    unfold Oper.wp
    simp [execOp, hop, resolve, invoke, builtin, hs, hx, hrun, Result.andThen]
    refine hK _ _ (h va vc w ?_ ?_)
    · rw [List.append_nil]; exact hown
    · exact ⟨rfl, rfl, rfl, Nat.le_refl _, fun _ _ _ => rfl⟩
  · obtain ⟨b, off, rfl⟩ := hin.some (List.length_pos_iff.mpr h0)
    refine wpList_append_lies _ hg s x 37 hop base 43 i0 _ 5 56 Tryz.underlying37 hi hz0 hz1 hz2 rfl (by decide) _ n _ hs hown ⟨b, off, none⟩ k c (mcs B) hx (by rw [mcs_length, hk]) (mts_cells hin) (mcs_one B) (by rw [hk]; exact List.length_pos_iff.mpr h0) (by unfold maxLen; omega) (by omega) hbase _ rfl ?_
    intro g cap w' h1 h2 _ _
    rw [← mcs_append] at h1
    exact h _ _ _ h1 h2
end Go.Proofs.YtlhnjloimhcpfabGreatDoor
