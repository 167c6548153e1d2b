/-
  The document's memtable: New; and what Add needs. .. and what follows from it.
-/
import Derived.Test.YtbdgdigpnfpnhaaKP
import Derived.Test.YtbdgdigpnfpnhaaKR
import Derived.Deep.RegionHeld3
import Derived.BigQuiet
namespace Go.Proofs.Ytbdgdigpnfpnhaa.Q
open Go.RowKit

theorem run_append_none {P : Program} (w : World) (base : Nat) (t ty e : TypeId) (i : TypeInfo) (size : Nat) (ht : P.underlying t = some (.slice e)) (hi : P.info? e = some i)
    (v : Value) (n : Nat) (xs : List Value) (hown : w.ownsRow base e size v n xs) (ao : Option Addr) (c : Nat) :
    (Builtin.append_ #[t, t] ty #[v, .slice ao 0 c]).run P w = .ok v w := by
  rcases hown.2 with ⟨rfl, rfl⟩ | ⟨g, cap, cur, rfl, _, _, hnc, _⟩
  · cases ao <;> simp [Builtin.append_, run_underlying ht, sizeOf, typeInfo, hi, Builtin.lenOf, Builtin.firstCells, loadCells, loadCellsFrom]
  · cases ao <;> simp [Builtin.append_, run_underlying ht, sizeOf, typeInfo, hi, Builtin.lenOf, Builtin.firstCells, hnc, storeCells, loadCells, loadCellsFrom]

/-- Entries that lie somewhere put behind entries that the call owns: at an operation, whatever order. -/
theorem wp_app_ents (w : World) {o : Oper} {a : Act} {K : Act → World → Prop} {Q : Exit → Act → World → Prop} (s x : Operand)
    (hop : o.op = .call { callee := .builtin .append, args := #[s, x], argTypes := #[23, 23] })
    (base g cap : Nat) (A B : List Mm.Ent) (n k c : Nat) (hk : k = B.length) (hs : a.eval s = .slice (some ⟨g, 0, none⟩) n cap) (hown : w.ownsRow base 38 4 (.slice (some ⟨g, 0, none⟩) n cap) n (ecs A))
    (ao : Option Addr) (hx : a.eval x = .slice ao k c) (hin : EntsAt w (.slice ao k c) B) (hroom : n + k ≤ 1000000) (hbase : base ≤ w.heap.size)
    (h : ∀ g' cap' w', w'.ownsRow base 38 4 (.slice (some ⟨g', 0, none⟩) (n + k) cap') (n + k) (ecs (A ++ B)) → w.grownBy w' (some g) → K (a.put o.dst (.slice (some ⟨g', 0, none⟩) (n + k) cap')) w') :
    Oper.wp Try.prog o a w K Q := by
  obtain ⟨i0, hi, hz0, hz1, hz2⟩ := info_parts infoE
  by_cases hb0 : B = []
  · subst hb0
    have hk0 : k = 0 := hk
    subst hk0
    have hrun := run_append_none (P := Try.prog) w base 23 o.type 38 i0 4 Try.underlying23 hi _ n _ hown ao c
    unfold Oper.wp
    simp [execOp, hop, resolve, invoke, builtin, hs, hx, hrun, Result.andThen]
    refine h g cap w ?_ ?_
    · rw [List.append_nil]; exact hown
    · exact ⟨rfl, rfl, rfl, Nat.le_refl _, fun _ _ _ => rfl⟩
  · have hsome : ∃ ad, ao = some ad := by
      obtain ⟨⟨a', c', e', hf⟩⟩ := hin
      obtain ⟨b, off, ha, _⟩ := hf hb0
      cases e'
      exact ⟨_, ha⟩
    obtain ⟨ad, rfl⟩ := hsome
    refine wp_append_lies w s x 23 hop base 38 i0 _ 4 48 Try.underlying23 hi hz0 hz1 hz2 rfl (by decide) _ n (ecs A) hs hown ad k c (ecs B) hx (by rw [ecs_length, hk]) (fun j u hu => ents_cells hin j u hu) (ecs_one B) (by rw [hk]; exact List.length_pos_iff.2 hb0) (by unfold maxLen; omega) (by omega) hbase w.heap.size rfl ?_
    intro g' cap' w' h1 h2 _ _
    refine h g' cap' w' ?_ h2
    rw [ecs_append]
    exact h1
theorem step_app_ents6 (w : World) {ops : Array Oper} {o : Oper} {a : Act} {K : Act → World → Prop} {Q : Exit → Act → World → Prop} {E : Prop} (hgd : o.guard = none) (s x : Operand)
    (hop : o.op = .call { callee := .builtin .append, args := #[s, x], argTypes := #[23, 23] })
    (base g cap : Nat) (A B : List Mm.Ent) (n k c : Nat) (hk : k = B.length) (hs : a.eval s = .slice (some ⟨g, 0, none⟩) n cap) (hown : w.ownsRow base 38 4 (.slice (some ⟨g, 0, none⟩) n cap) n (ecs A))
    (ao : Option Addr) (hx : a.eval x = .slice ao k c) (hin : EntsAt w (.slice ao k c) B) (hroom : n + k ≤ 1000000) (hbase : base ≤ w.heap.size)
    (h : ∀ g' cap' w', w'.ownsRow base 38 4 (.slice (some ⟨g', 0, none⟩) (n + k) cap') (n + k) (ecs (A ++ B)) → w.grownBy w' (some g) → K (a.put o.dst (.slice (some ⟨g', 0, none⟩) (n + k) cap')) w') :
    if Region.wanted o (yielded ops a.tmps) = true then Oper.wp Try.prog o a w K Q else E := by
  have hw : Region.wanted o (yielded ops a.tmps) = true := by simp [Region.wanted, hgd]
  rw [if_pos hw]
  exact wp_app_ents w s x hop base g cap A B n k c hk hs hown ao hx hin hroom hbase h
theorem wpList_app_ents6 (w : World) {ops : Array Oper} {rest : List Oper} {o : Oper} {a : Act} {Q : Exit → Act → World → Prop} (hgd : o.guard = none) (s x : Operand)
    (hop : o.op = .call { callee := .builtin .append, args := #[s, x], argTypes := #[23, 23] })
    (base g cap : Nat) (A B : List Mm.Ent) (n k c : Nat) (hk : k = B.length) (hs : a.eval s = .slice (some ⟨g, 0, none⟩) n cap) (hown : w.ownsRow base 38 4 (.slice (some ⟨g, 0, none⟩) n cap) n (ecs A))
    (ao : Option Addr) (hx : a.eval x = .slice ao k c) (hin : EntsAt w (.slice ao k c) B) (hroom : n + k ≤ 1000000) (hbase : base ≤ w.heap.size)
    (h : ∀ g' cap' w', w'.ownsRow base 38 4 (.slice (some ⟨g', 0, none⟩) (n + k) cap') (n + k) (ecs (A ++ B)) → w.grownBy w' (some g) → wpList Try.prog ops Q rest (a.put o.dst (.slice (some ⟨g', 0, none⟩) (n + k) cap')) w') :
    wpList Try.prog ops Q (o :: rest) a w :=
  wpList_plain hgd fun _ hK => wp_app_ents w s x hop base g cap A B n k c hk hs hown ao hx hin hroom hbase fun g' cap' w' h1 h2 => hK _ _ (h g' cap' w' h1 h2)
theorem wp_app_ints (w : World) {o : Oper} {a : Act} {K : Act → World → Prop} {Q : Exit → Act → World → Prop} (s x : Operand)
    (hop : o.op = .call { callee := .builtin .append, args := #[s, x], argTypes := #[22, 22] })
    (base g cap : Nat) (A B : List Int) (n k c : Nat) (hk : k = B.length) (hs : a.eval s = .slice (some ⟨g, 0, none⟩) n cap) (hown : w.ownsRow base 3 1 (.slice (some ⟨g, 0, none⟩) n cap) n (ics A))
    (ao : Option Addr) (hx : a.eval x = .slice ao k c) (hin : IntsAt w (.slice ao k c) B) (hroom : n + k ≤ 1000000) (hbase : base ≤ w.heap.size)
    (h : ∀ g' cap' w', w'.ownsRow base 3 1 (.slice (some ⟨g', 0, none⟩) (n + k) cap') (n + k) (ics (A ++ B)) → w.grownBy w' (some g) → K (a.put o.dst (.slice (some ⟨g', 0, none⟩) (n + k) cap')) w') :
    Oper.wp Try.prog o a w K Q := by
  obtain ⟨i0, hi, hz0, hz1, hz2⟩ := info_parts Try.infoI
  by_cases hb0 : B = []
  · subst hb0
    have hk0 : k = 0 := hk
    subst hk0
    have hrun := run_append_none (P := Try.prog) w base 22 o.type 3 i0 1 Try.underlying22 hi _ n _ hown ao c
    unfold Oper.wp
    simp [execOp, hop, resolve, invoke, builtin, hs, hx, hrun, Result.andThen]
    refine h g cap w ?_ ?_
    · rw [List.append_nil]; exact hown
    · exact ⟨rfl, rfl, rfl, Nat.le_refl _, fun _ _ _ => rfl⟩
  · have hsome : ∃ ad, ao = some ad := by
      obtain ⟨a', c', e', _, hf⟩ := hin
      obtain ⟨b, off, ha, _⟩ := hf hb0
      cases e'
      exact ⟨_, ha⟩
    obtain ⟨ad, rfl⟩ := hsome
    refine wp_append_lies w s x 22 hop base 3 i0 _ 1 8 Try.underlying22 hi hz0 hz1 hz2 rfl (by decide) _ n (ics A) hs hown ad k c (ics B) hx (by rw [ics_length, hk]; omega) (fun j u hu => ints_cells hin j u hu) (ics_one B) (by rw [hk]; exact List.length_pos_iff.2 hb0) (by unfold maxLen; omega) (by omega) hbase w.heap.size rfl ?_
    intro g' cap' w' h1 h2 _ _
    refine h g' cap' w' ?_ h2
    have hic : ics (A ++ B) = ics A ++ ics B := by simp [ics]
    rw [hic]
    exact h1
theorem step_app_ints6 (w : World) {ops : Array Oper} {o : Oper} {a : Act} {K : Act → World → Prop} {Q : Exit → Act → World → Prop} {E : Prop} (hgd : o.guard = none) (s x : Operand)
    (hop : o.op = .call { callee := .builtin .append, args := #[s, x], argTypes := #[22, 22] })
    (base g cap : Nat) (A B : List Int) (n k c : Nat) (hk : k = B.length) (hs : a.eval s = .slice (some ⟨g, 0, none⟩) n cap) (hown : w.ownsRow base 3 1 (.slice (some ⟨g, 0, none⟩) n cap) n (ics A))
    (ao : Option Addr) (hx : a.eval x = .slice ao k c) (hin : IntsAt w (.slice ao k c) B) (hroom : n + k ≤ 1000000) (hbase : base ≤ w.heap.size)
    (h : ∀ g' cap' w', w'.ownsRow base 3 1 (.slice (some ⟨g', 0, none⟩) (n + k) cap') (n + k) (ics (A ++ B)) → w.grownBy w' (some g) → K (a.put o.dst (.slice (some ⟨g', 0, none⟩) (n + k) cap')) w') :
    if Region.wanted o (yielded ops a.tmps) = true then Oper.wp Try.prog o a w K Q else E := by
  have hw : Region.wanted o (yielded ops a.tmps) = true := by simp [Region.wanted, hgd]
  rw [if_pos hw]
  exact wp_app_ints w s x hop base g cap A B n k c hk hs hown ao hx hin hroom hbase h

/-- The front of a list, and what is behind it. -/
theorem ents_take {w : World} {la : Option Addr} {n lc j : Nat} {l : List Mm.Ent} (h : EntsAt w (.slice la n lc) l) (hj : j ≤ l.length) (c' : Nat) : EntsAt w (.slice la j c') (l.take j) := by
  have hl : (l.take j).length = j := by rw [List.length_take]; omega
  refine ⟨⟨la, c', by rw [hl], fun h0 => ?_⟩⟩
  have hpos := List.length_pos_iff.2 h0
  rw [hl] at hpos
  obtain ⟨b, off, rfl⟩ := h.some (by omega)
  refine ⟨b, off, rfl, fun i hi => ?_⟩
  have := h.cells i (by omega)
  rw [List.getElem_take]
  exact this
theorem ints_take {w : World} {la : Option Addr} {n lc j : Nat} {l : List Int} (h : IntsAt w (.slice la n lc) l) (hj : j ≤ l.length) (c' : Nat) (hno : la = none → c' = 0) : IntsAt w (.slice la j c') (l.take j) := by
  have hl : (l.take j).length = j := by rw [List.length_take]; omega
  refine ⟨la, c', by rw [hl], fun e => ⟨?_, hno e⟩, fun h0 => ?_⟩
  · obtain ⟨a', cap', e', h1, _⟩ := h
    simp only [Value.slice.injEq] at e'
    have := (h1 (by rw [← e'.1]; exact e)).1
    rw [this]
    simp
  · have hpos := List.length_pos_iff.2 h0
    rw [hl] at hpos
    obtain ⟨b, off, rfl⟩ := ints_some h (by omega)
    refine ⟨b, off, rfl, fun i hi => ?_⟩
    have := ints_at h i (by omega)
    rw [List.getElem_take]
    exact this
theorem ents_drop {w : World} {g n lc j : Nat} {l : List Mm.Ent} (h : EntsAt w (.slice (some ⟨g, 0, none⟩) n lc) l) (hn : n = l.length) (hj : j ≤ n) (hc : n ≤ lc) : EntsAt w (.slice (if lc = j then some ⟨g, 0, none⟩ else some ⟨g, j * 4, none⟩) (n - j) (lc - j)) (l.drop j) := by
  refine ⟨⟨_, lc - j, by rw [List.length_drop, hn], fun h0 => ?_⟩⟩
  have hpos := List.length_pos_iff.2 h0
  rw [List.length_drop] at hpos
  rw [if_neg (by omega)]
  refine ⟨g, j * 4, rfl, fun i hi => ?_⟩
  rw [List.length_drop] at hi
  have := h.cells (j + i) (by omega)
  rw [show 0 + (j + i) * 4 = j * 4 + i * 4 by omega] at this
  rw [List.getElem_drop]
  exact this
theorem ints_drop {w : World} {g n lc j : Nat} {l : List Int} (h : IntsAt w (.slice (some ⟨g, 0, none⟩) n lc) l) (hn : n = l.length) (hj : j ≤ n) (hc : n ≤ lc) : IntsAt w (.slice (if lc = j then some ⟨g, 0, none⟩ else some ⟨g, j, none⟩) (n - j) (lc - j)) (l.drop j) := by
  refine ⟨_, lc - j, by rw [List.length_drop, hn], fun e => (by split at e <;> cases e), fun h0 => ?_⟩
  have hpos := List.length_pos_iff.2 h0
  rw [List.length_drop] at hpos
  rw [if_neg (by omega)]
  refine ⟨g, j, rfl, fun i hi => ?_⟩
  rw [List.length_drop] at hi
  have := ints_at h (j + i) (by omega)
  rw [show 0 + (j + i) = j + i by omega] at this
  rw [List.getElem_drop]
  exact this

def okR (x : Int) : Bool := decide (1 ≤ x) && decide (x ≤ 12)
def NewOut (w : World) (l : List Int) (e : Ending) (w' : World) : Prop := (l.all okR = true ∧ ∃ b hv, e = .returned (.tuple #[.pointer (some ⟨b, 0, none⟩), .int .i64 0]) ∧ w.heap.size ≤ b ∧ RtAt w.heap.size w' b hv (.slice none 0 0) (.slice none 0 0) l [] []) ∨ (l.all okR = false ∧ e = .returned (.tuple #[.pointer none, .int .i64 2]))
set_option maxRecDepth 100000 in
set_option maxHeartbeats 2000000 in
theorem rnew_any (w : World) (a : Option Addr) (n c : Nat) (l : List Int) (h : IntsAt w (.slice a n c) l) (hn : n = l.length) (hl : n ≤ 100000) : Calls Try.prog 9 #[.slice a n c] w fun e w' => NewOut w l e w' ∧ Below w.heap.size w w' := by
  have HN : Hid (n = l.length) := hn
  have H := hide h
  have b0 : Below w.heap.size w (w.alloc (.cells #[] 3)) := (Below.refl _ _).alloc (Nat.le_refl _) _
  have HA := hide (h.later b0)
  have L0 : Hid ((w.alloc (.cells #[] 3)).ownsRow w.heap.size 3 1 (.slice (some ⟨w.heap.size, 0, none⟩) 0 0) 0 (ics [])) := World.ownsRow_lit (size := 1) (e := 3) (base := w.heap.size) w #[] 0 (Nat.le_refl _) (by unfold maxLen; omega) rfl
  clear h hn b0
  go_enter Try.func9, Try.ntmps9
  go_wp2_with (fail)
  go_loopw [4] (fun i wr => wr = w ∧ ∃ j : Nat, j ≤ n ∧ i = .int .i64 (j : Int) ∧ Hid ((l.take j).all okR = true)) (fun i _ => n - (intOf i).toNat)
  case atStart => exact ⟨rfl, 0, Nat.zero_le _, rfl, by show _ = _; simp⟩
  case round =>
    obtain ⟨rfl, j, hj, rfl, HT⟩ := hrel
    by_cases hlt : j < n
    · have jl : j < l.length := by have := HN.out; omega
      obtain ⟨eb, off, rfl⟩ := ints_some H.out (by omega)
      have ct := ints_at H.out j jl
      have HX : Hid ((l.take (j + 1)).all okR = okR l[j]) := by
        show _ = _
        rw [List.take_succ_eq_append_getElem jl, List.all_append, HT.out]
        simp
      have HY : Hid (okR l[j] = false → l.all okR = false) := fun h => by
        rw [Bool.eq_false_iff]
        intro h2
        have := List.all_eq_true.1 h2 _ (List.getElem_mem jl)
        rw [h] at this
        cases this
      generalize l[j] = x at *
      have j1 : (j : Int) < (n : Int) := by omega
      have j0 : (0 : Int) ≤ (j : Int) := by omega
      clear HT jl
      by_cases h1 : x < 1
      · have HE : Hid (l.all okR = false) := HY.out (by unfold okR; simp; omega)
        clear HX HY
        go_wp2_with (fail)
        go_ret2
        exact ⟨.inr ⟨HE.out, rfl⟩, Below.refl _ _⟩
      · by_cases h2 : x > 12
        · have HE : Hid (l.all okR = false) := HY.out (by unfold okR; simp; omega)
          clear HX HY
          go_wp2_with (fail)
          go_ret2
          exact ⟨.inr ⟨HE.out, rfl⟩, Below.refl _ _⟩
        · have HE : Hid ((l.take (j + 1)).all okR = true) := by
            show _ = _
            rw [HX.out]
            unfold okR
            simp
            omega
          clear HX HY
          go_wp2_with (fail)
          exact ⟨⟨trivial, j + 1, by omega, by go_num, HE⟩, by simp [intOf]; omega⟩
    · have ej : j = n := by omega
      subst ej
      have j1 : ¬ (j : Int) < (j : Int) := by omega
      have HE : Hid (l.all okR = true) := by
        have := HT.out
        rw [List.take_of_length_le (by have := HN.out; omega)] at this
        exact this
      clear HT
      go_wp2_with (at_builtin; refine wpList_app_ints _ rfl _ _ rfl wr.heap.size wr.heap.size 0 [] l 0 j c rfl HN.out rfl L0.out a rfl HA.out (by omega) (by simp) ?_; intro g1 cap1 w2 o1 h1)
      have B1 : Below wr.heap.size wr w2 := ((Below.refl _ _).alloc (Nat.le_refl _) _).grown h1 (by simp) (fun k hk => by cases hk; exact Nat.le_refl _)
      simp only [Nat.zero_add, List.nil_append] at o1 ⊢
      go_ret2
      refine ⟨.inl ⟨HE.out, w2.heap.size, .slice (some ⟨g1, 0, none⟩) j cap1, rfl, B1.size, ?_⟩, B1.alloc B1.size _⟩
      refine ⟨World.alloc_heap_new w2 _, ?_, World.ownsRow_nil _ _ _ _, World.ownsRow_nil _ _ _ _, rfl, .inl ⟨rfl, rfl⟩⟩
      have := o1.alloc (.cells #[.bool true, .slice (some ⟨g1, 0, none⟩) j cap1, .slice none 0 0, .slice none 0 0] 43)
      rw [← HN.out]
      exact this
end Go.Proofs.Ytbdgdigpnfpnhaa.Q
namespace Go.Proofs.Ytbdgdigpnfpnhaa.Q
open Go.RowKit

namespace Mm
/-- How many entries stand ahead. -/
def posR (e : Ent) (es : List Ent) : Nat := (es.takeWhile fun x => ahead x e).length
def thereR (e : Ent) (es : List Ent) : Bool := match es[posR e es]? with
  | some y => decide (y.key = e.key) && decide (y.seq = e.seq)
  | none => false
def addRE (e : Ent) (es : List Ent) : Int := if may e then (if thereR e es then 9 else 0) else 2
def addRes (e : Ent) (es : List Ent) : List Ent := if may e && !thereR e es then es.take (posR e es) ++ e :: es.drop (posR e es) else es
def addRts (h : Int) (e : Ent) (es : List Ent) (ts : List Int) : List Int := if may e && !thereR e es then ts.take (posR e es) ++ h :: ts.drop (posR e es) else ts
def htR (hs : List Int) (n : Nat) : Int := if hs = [] then 1 else hs.getD (n % hs.length) 1
theorem pos_at {e : Ent} {es : List Ent} {j : Nat} (hj : j < es.length) (ha : ∀ x ∈ es.take j, ahead x e = true) (hn : ahead es[j] e = false) : posR e es = j := by
  unfold posR
  have h1 : es = es.take j ++ es[j] :: es.drop (j + 1) := by rw [← List.drop_eq_getElem_cons hj, List.take_append_drop]
  conv => lhs; rw [h1]
  rw [List.takeWhile_append_of_pos ha, List.takeWhile_cons, hn]
  simp
  omega
theorem pos_end {e : Ent} {es : List Ent} (ha : ∀ x ∈ es, ahead x e = true) : posR e es = es.length := by
  unfold posR
  have := List.takeWhile_append_of_pos (p := fun x => ahead x e) (l₁ := es) (l₂ := []) ha
  rw [List.append_nil] at this
  rw [this]
  simp
end Mm

def AddOut (base : Nat) (w : World) (b : Nat) (hv lv tv : Value) (hs : List Int) (es : List Mm.Ent) (ts : List Int) (e : Mm.Ent) (r : Ending) (w' : World) : Prop :=
  r = .returned (.int .i64 (Mm.addRE e es)) ∧ ∃ lv' tv', RtAt base w' b hv lv' tv' hs (Mm.addRes e es) (Mm.addRts (Mm.htR hs es.length) e es ts) ∧ (∀ g, lv'.ownBlock = some g → w.heap.size ≤ g ∨ lv.ownBlock = some g) ∧ (∀ g, tv'.ownBlock = some g → w.heap.size ≤ g ∨ tv.ownBlock = some g) ∧ w.grownBy w' (some b)

theorem row_not {w : World} {base e size n b t : Nat} {v : Value} {xs : List Value} {cs : Array Value} {fr : Nat × Nat} (o : w.ownsRow base e size v n xs) (hb : w.heap[b]? = some (.cells cs t fr)) (hne : e ≠ t) : v.ownBlock ≠ some b := by
  intro h
  rcases o.2 with ⟨rfl, _⟩ | ⟨g, cap, cur, rfl, _, h3, _⟩
  · cases h
  · have : g = b := Option.some.inj h
    subst this
    rw [hb] at h3
    simp only [Option.some.injEq, Obj.cells.injEq] at h3
    exact hne h3.2.1.symm

/-- Behind both stores. -/
theorem AddOut.done {base : Nat} {w : World} {b : Nat} {hv lv tv : Value} {hs : List Int} {es : List Mm.Ent} {ts : List Int} (h : RtAt base w b hv lv tv hs es ts) {e : Mm.Ent} (hm : Mm.may e = true) (ht : Mm.thereR e es = false) {j : Nat} (hj : Mm.posR e es = j) (hjl : j ≤ es.length) {w9 : World} (B : Below w.heap.size w w9) (g1 c1 g2 c2 n1 n2 : Nat) (H : Int) (hH : H = Mm.htR hs es.length)
    (hn1 : n1 = es.length + 1) (hn2 : n2 = es.length + 1) (ol : w9.ownsRow base 38 4 (.slice (some ⟨g1, 0, none⟩) n1 c1) n1 (ecs (es.take j ++ [e] ++ es.drop j))) (ot : w9.ownsRow base 3 1 (.slice (some ⟨g2, 0, none⟩) n2 c2) n2 (ics (ts.take j ++ [H] ++ ts.drop j))) (hg1 : w.heap.size ≤ g1) (hg2 : w.heap.size ≤ g2) : AddOut base w b hv lv tv hs es ts e (.returned (.int .i64 0)) ((w9.setCell ⟨b, 2, none⟩ (.slice (some ⟨g1, 0, none⟩) n1 c1)).setCell ⟨b, 3, none⟩ (.slice (some ⟨g2, 0, none⟩) n2 c2)) := by
  have h9 := h.later B
  have x1 : es.take j ++ [e] ++ es.drop j = Mm.addRes e es := by unfold Mm.addRes; rw [hm, ht, hj]; simp
  have x2 : ts.take j ++ [H] ++ ts.drop j = Mm.addRts (Mm.htR hs es.length) e es ts := by unfold Mm.addRts; rw [hm, ht, hj, hH]; simp
  have l1 : (Mm.addRes e es).length = es.length + 1 := by rw [← x1]; simp; omega
  have l2 : (Mm.addRts (Mm.htR hs es.length) e es ts).length = es.length + 1 := by rw [← x2]; have := h.len; simp; omega
  subst hn1 hn2
  rw [x1] at ol
  rw [x2] at ot
  have k1 := row_not ol h9.blk (by decide)
  have k2 := row_not ot h9.blk (by decide)
  have k3 := row_not h9.hh h9.blk (by decide)
  refine ⟨by unfold Mm.addRE; rw [hm, ht]; rfl, _, _, ⟨?_, ?_, ?_, ?_, by rw [l1, l2], .inr ⟨g1, c1, g2, c2, by rw [l1], by rw [l1]⟩⟩, fun g hg => .inl (by have : g1 = g := Option.some.inj hg; omega), fun g hg => .inl (by have : g2 = g := Option.some.inj hg; omega), ?_⟩
  · exact (Joins.block_setCell (Joins.block_setCell h9.blk _) _).trans rfl
  · exact ownsRow_setCell_other (ownsRow_setCell_other h9.hh (a := ⟨b, 2, none⟩) k3 _) (a := ⟨b, 3, none⟩) k3 _
  · rw [l1]
    exact ownsRow_setCell_other (ownsRow_setCell_other ol (a := ⟨b, 2, none⟩) k1 _) (a := ⟨b, 3, none⟩) k1 _
  · rw [l2]
    exact ownsRow_setCell_other (ownsRow_setCell_other ot (a := ⟨b, 2, none⟩) k2 _) (a := ⟨b, 3, none⟩) k2 _
  · refine ⟨B.os, B.tape, B.output, by rw [World.size_setCell, World.size_setCell]; exact B.size, fun k hk hne => ?_⟩
    have hb : k ≠ b := fun e => hne (by rw [e])
    rw [heap_setCell_other _ _ _ _ hb, heap_setCell_other _ _ _ _ hb]
    exact B.block k hk
theorem AddOut.same {base : Nat} {w : World} {b : Nat} {hv lv tv : Value} {hs : List Int} {es : List Mm.Ent} {ts : List Int} (h : RtAt base w b hv lv tv hs es ts) {e : Mm.Ent} (hm : (Mm.may e && !Mm.thereR e es) = false) {w9 : World} (B : Below w.heap.size w w9) (r : Int) (hr : r = Mm.addRE e es) : AddOut base w b hv lv tv hs es ts e (.returned (.int .i64 r)) w9 := by
  refine ⟨by rw [hr], lv, tv, ?_, fun g hg => .inr hg, fun g hg => .inr hg, grown_any B⟩
  unfold Mm.addRes Mm.addRts
  rw [hm]
  exact h.later B
end Go.Proofs.Ytbdgdigpnfpnhaa.Q
