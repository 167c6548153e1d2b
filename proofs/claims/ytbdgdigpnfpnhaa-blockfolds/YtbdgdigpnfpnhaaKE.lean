/-
  An entry with texts of its own: the call answers the same entry, and leaves all that was there as it was. .. and what follows from it.
-/
import Derived.Test.YtbdgdigpnfpnhaaJMem
import Derived.Test.YtbdgdigpnfpnhaaMShelf
import Derived.Laws.Bits64
import Derived.Laws.BitsAllLaws
namespace Go.Proofs.Ytbdgdigpnfpnhaa
open Go.RowKit

theorem setCell_id {w : World} {g i : Nat} {cs : Array Value} {t : TypeId} {v : Value} (hb : w.heap[g]? = some (.cells cs t (0, 0))) (hv : cs[i]? = some v) : w.setCell ⟨g, i, none⟩ v = w := by
  have hg := (Array.getElem?_eq_some_iff.1 hb).1
  have hi := (Array.getElem?_eq_some_iff.1 hv).1
  have hc : cs.setIfInBounds i v = cs := by
    apply Array.ext_getElem?
    intro l
    by_cases hl : i = l
    · subst hl; rw [Array.getElem?_setIfInBounds_self_of_lt hi, hv]
    · rw [Array.getElem?_setIfInBounds_ne hl]
  have h1 := heap_setCell_same w g i cs t v hb
  rw [hc] at h1
  have h2 : (w.setCell ⟨g, i, none⟩ v).heap = w.heap := by
    apply Array.ext_getElem?
    intro l
    by_cases hl : l = g
    · subst hl; rw [h1, hb]
    · exact heap_setCell_other w _ l v hl
  have h3 : w.setCell ⟨g, i, none⟩ v = { w with heap := (w.setCell ⟨g, i, none⟩ v).heap } := rfl
  rw [h3, h2]

theorem sclone_any (w : World) (s : Mm.Bs) (h : s.length ≤ 1000000) : Calls Try.prog 41 #[str s] w fun e w' => e = .returned (str s) ∧ Below w.heap.size w w' := by
  have C := Try.stringslite_Clone ⟨s.toArray⟩ w (by show s.toArray.size ≤ _; simp; omega)
  clear h
  go_enter Try.func41, Try.ntmps41
  go_wp2_with (go_at_call 72; refine C.mono ?_; rintro e w1 ⟨rfl, b1⟩)
  go_ret
  exact ⟨rfl, b1⟩

abbrev entO (e : Mm.Ent) : Obj := .cells #[str e.key, str e.value, .int .i64 e.seq, .bool e.del] 38 (0, 0)
set_option maxRecDepth 100000 in
set_option maxHeartbeats 4000000 in
theorem own_e (w : World) (e : Mm.Ent) (hk : e.key.length ≤ 1000000) (hv : e.value.length ≤ 1000000) : Calls Try.prog 63 #[entV e] w fun r w' => r = .returned (entV e) ∧ Below w.heap.size w w' := by
  have SC : Hid (∀ wx (s : Mm.Bs), s.length ≤ 1000000 → Calls Try.prog 41 #[str s] wx fun e w' => e = .returned (str s) ∧ Below wx.heap.size wx w') := fun wx s hs => sclone_any wx s hs
  obtain ⟨W, hW⟩ : ∃ W, W = (w.alloc (.cells #[str e.key, str e.value, .int .i64 e.seq, .bool e.del] 38)).alloc (.cells #[.string ⟨#[]⟩, .string ⟨#[]⟩, .int .i64 0, .bool false] 38) := ⟨_, rfl⟩
  have b0 : Below w.heap.size w W := by rw [hW]; exact ((Below.refl _ _).alloc (Nat.le_refl _) _).alloc (by simp) _
  have e0 : W.heap[w.heap.size]? = some (entO e) := by rw [hW]; exact (Below.heap_alloc _ _ _ (by simp)).trans (World.alloc_heap_new w _)
  have y0 : W.heap[w.heap.size + 1]? = some (entO ⟨[], [], 0, false⟩) := by
    rw [hW]
    have := World.alloc_heap_new (w.alloc (.cells #[str e.key, str e.value, .int .i64 e.seq, .bool e.del] 38)) (.cells #[.string ⟨#[]⟩, .string ⟨#[]⟩, .int .i64 0, .bool false] 38)
    rw [World.size_alloc] at this
    exact this
  have HE := hide e0
  have HY := hide y0
  have HB := hide b0
  obtain ⟨K, V, Q, D⟩ := e
  have HW : Hid (W = (w.alloc (.cells #[str K, str V, .int .i64 Q, .bool D] 38)).alloc (.cells #[.string ⟨#[]⟩, .string ⟨#[]⟩, .int .i64 0, .bool false] 38)) := hW
  simp only at hk hv
  clear hW e0 y0 b0
  go_enter Try.func63, Try.ntmps63
  go_wp2_with (fail)
  rw [← HW.out]
  have EH : Hid (∀ wx, Below W.heap.size W wx → wx.heap[w.heap.size]? = some (entO ⟨K, V, Q, D⟩) ∧ wx.cell? ⟨w.heap.size, 0, none⟩ = some (str K) ∧ wx.cell? ⟨w.heap.size, 1, none⟩ = some (str V) ∧ wx.frozen? ⟨w.heap.size, 0, none⟩ = false ∧ wx.frozen? ⟨w.heap.size, 1, none⟩ = false) := fun wx hw => by
    have := keepB hw HE.out
    exact ⟨this, Joins.cell_of_block this 0, Joins.cell_of_block this 1, Joins.unfrozen_of_block this 0, Joins.unfrozen_of_block this 1⟩
  have D3 : Below W.heap.size W W.drew := (Below.refl _ _).drew
  have P1 := EH.out _ D3
  go_region_held3 (fun w' => w'.heap[w.heap.size]? = some (entO ⟨K, V, Q, D⟩) ∧ w'.cell? ⟨w.heap.size, 0, none⟩ = some (str K) ∧ w'.cell? ⟨w.heap.size, 1, none⟩ = some (str V) ∧ w'.frozen? ⟨w.heap.size, 0, none⟩ = false ∧ w'.frozen? ⟨w.heap.size, 1, none⟩ = false)
    (first | exact P1 | exact P2 | exact P3 | (rw [q0]; exact P3) | (rw [q1]; exact P3) | (rw [q0, q1]; exact P3) | (rw [q1, q0]; exact P3))
    (first
      | (go_at_call 41; have g := D3; refine (SC.out _ _ (by first | exact hk | exact hv)).mono ?_; rintro r w4 ⟨rfl, b4⟩; have D4 := D3.trans (b4.mono D3.size); have P2 := EH.out _ D4; clear D3 g)
      | (go_at_call 41; have g := D4; refine (SC.out _ _ (by first | exact hk | exact hv)).mono ?_; rintro r w5 ⟨rfl, b5⟩; have D5 := D4.trans (b5.mono D4.size); have P3 := EH.out _ D5; have q0 : w5.setCell ⟨w.heap.size, 0, none⟩ (str K) = w5 := setCell_id P3.1 rfl; have q1 : w5.setCell ⟨w.heap.size, 1, none⟩ (str V) = w5 := setCell_id P3.1 rfl; clear D4 g))
  have e5 := P3.1
  have y5 := keepB D5 HY.out
  obtain ⟨c0, c1, c2, c3⟩ : w5.cell? ⟨w.heap.size, 0, none⟩ = some (str K) ∧ w5.cell? ⟨w.heap.size, 1, none⟩ = some (str V) ∧ w5.cell? ⟨w.heap.size, 2, none⟩ = some (.int .i64 Q) ∧ w5.cell? ⟨w.heap.size, 3, none⟩ = some (.bool D) := ⟨Joins.cell_of_block e5 0, Joins.cell_of_block e5 1, Joins.cell_of_block e5 2, Joins.cell_of_block e5 3⟩
  obtain ⟨x0, x1, x2, x3⟩ : w5.cell? ⟨w.heap.size + 1, 0, none⟩ = some (str []) ∧ w5.cell? ⟨w.heap.size + 1, 1, none⟩ = some (str []) ∧ w5.cell? ⟨w.heap.size + 1, 2, none⟩ = some (.int .i64 0) ∧ w5.cell? ⟨w.heap.size + 1, 3, none⟩ = some (.bool false) := ⟨Joins.cell_of_block y5 0, Joins.cell_of_block y5 1, Joins.cell_of_block y5 2, Joins.cell_of_block y5 3⟩
  have u0 := Joins.unfrozen_of_block y5 0
  have u1 := Joins.unfrozen_of_block y5 1
  have u2 := Joins.unfrozen_of_block y5 2
  have u3 := Joins.unfrozen_of_block y5 3
  have Y5 := hide y5
  have B5 : Below w.heap.size w w5 := HB.out.trans (D5.mono HB.out.size)
  clear P1 P2 P3 q0 q1 D5 EH SC e5 y5 HE HY b4 b5
  go_wp2_with (fail)
  have z5 : ((((w5.setCell ⟨w.heap.size + 1, 0, none⟩ (str K)).setCell ⟨w.heap.size + 1, 1, none⟩ (str V)).setCell ⟨w.heap.size + 1, 2, none⟩ (.int .i64 Q)).setCell ⟨w.heap.size + 1, 3, none⟩ (.bool D)).heap[w.heap.size + 1]? = some (entO ⟨K, V, Q, D⟩) := (Joins.block_setCell (Joins.block_setCell (Joins.block_setCell (Joins.block_setCell Y5.out _) _) _) _).trans rfl
  have m5 : ∀ (v : World) (i : Nat) (u : Value), Moved (fun j => j = w.heap.size + 1) v (v.setCell ⟨w.heap.size + 1, i, none⟩ u) := fun v i u => Moved.setCell (S := fun j => j = w.heap.size + 1) (Moved.refl _ v) (p := ⟨w.heap.size + 1, i, none⟩) (fun _ => rfl) u
  have m6 := (((m5 w5 0 (str K)).trans (m5 _ 1 (str V)) (fun _ _ h => h)).trans (m5 _ 2 (.int .i64 Q)) (fun _ _ h => h)).trans (m5 _ 3 (.bool D)) (fun _ _ h => h)
  have B6 := B5.trans (m6.under B5.size (fun i hi => by omega))
  have t0 := Joins.cell_of_block z5 0
  have t1 := Joins.cell_of_block z5 1
  have t2 := Joins.cell_of_block z5 2
  have t3 := Joins.cell_of_block z5 3
  refine bodyPost_ret (v := entV ⟨K, V, Q, D⟩) (by simp [results, Try.results63, go_sem, t0, t1, t2, t3]) rfl ?_
  exact ⟨rfl, B6⟩
end Go.Proofs.Ytbdgdigpnfpnhaa
namespace Go.Proofs.Ytbdgdigpnfpnhaa
open Go.RowKit

end Go.Proofs.Ytbdgdigpnfpnhaa
namespace Go.Proofs.Ytbdgdigpnfpnhaa
open Go.RowKit
namespace Mm
def inB (k lo hi : Bs) : Bool := !Op.bytesLess k lo && (decide (hi = []) || Op.bytesLess k hi)
end Mm
set_option maxRecDepth 10000 in
set_option maxHeartbeats 1600000 in
theorem in_any (w : World) (k lo hi : Mm.Bs) : Calls Try.prog 55 #[str k, .agg #[str lo, str hi]] w fun e w' => e = .returned (.bool (Mm.inB k lo hi)) ∧ Below w.heap.size w w' := by
  unfold Mm.inB
  cases h1 : Op.bytesLess k lo with
  | true =>
    go_enter Try.func55, Try.ntmps55
    go_wp2_with (fail)
    go_ret
    exact ⟨rfl, (Below.refl _ _).alloc (Nat.le_refl _) _⟩
  | false =>
    cases hi with
    | nil =>
      go_enter Try.func55, Try.ntmps55
      go_wp2_with (fail)
      go_ret
      exact ⟨rfl, (Below.refl _ _).alloc (Nat.le_refl _) _⟩
    | cons c r =>
      cases h2 : Op.bytesLess k (c :: r) with
      | true =>
        go_enter Try.func55, Try.ntmps55
        go_wp2_with (fail)
        go_ret
        exact ⟨by simp, (Below.refl _ _).alloc (Nat.le_refl _) _⟩
      | false =>
        go_enter Try.func55, Try.ntmps55
        go_wp2_with (fail)
        go_ret
        exact ⟨by simp, (Below.refl _ _).alloc (Nat.le_refl _) _⟩
namespace Mm
def Up (l : List Ent) : Prop := l.Pairwise fun a b => ahead a b = true
/-- One entry more is looked at. -/
def tell (seq : Int) (out : List Ent) (x : Ent) : List Ent := if x.seq ≤ seq ∧ (out.getLast?.map (·.key)) ≠ some x.key then out ++ [x] else out
def told (seq : Int) (l : List Ent) : List Ent := l.foldl (tell seq) []
theorem told_snoc (seq : Int) (l : List Ent) (x : Ent) : told seq (l ++ [x]) = tell seq (told seq l) x := by
  unfold told
  rw [List.foldl_append]
  rfl
structure Told (seq : Int) (l out : List Ent) : Prop where
  mem : ∀ y ∈ out, y ∈ l ∧ y.seq ≤ seq
  up : out.Pairwise fun a b => Op.bytesLess a.key b.key = true
  all : ∀ x ∈ l, x.seq ≤ seq → ∃ y ∈ out, y.key = x.key ∧ x.seq ≤ y.seq
theorem ahead_key {a b : Ent} (h : ahead a b = true) : a.key = b.key ∧ b.seq < a.seq ∨ Op.bytesLess a.key b.key = true := by
  unfold ahead at h
  split at h
  · rename_i hk
    exact .inl ⟨hk, of_decide_eq_true h⟩
  · exact .inr h
theorem told_ok (seq : Int) (l : List Ent) (h : Up l) : Told seq l (told seq l) := by
  suffices H : ∀ r : List Ent, Up r.reverse → Told seq r.reverse (told seq r.reverse) by
    have := H l.reverse (by rw [List.reverse_reverse]; exact h)
    rwa [List.reverse_reverse] at this
  intro r
  induction r with
  | nil => intro _; exact ⟨by simp [told], by simp [told], by simp⟩
  | cons x r ih =>
    intro hu
    rw [List.reverse_cons] at hu ⊢
    generalize r.reverse = m at ih hu ⊢
    obtain ⟨u1, _, u3⟩ := List.pairwise_append.1 hu
    obtain ⟨t1, t2, t3⟩ := ih u1
    rw [told_snoc]
    generalize told seq m = out at t1 t2 t3 ⊢
    have hax : ∀ y ∈ out, ahead y x = true := fun y hy => u3 y (t1 y hy).1 x (by simp)
    unfold tell
    by_cases hs : x.seq ≤ seq
    · by_cases hl : (out.getLast?.map (·.key)) = some x.key
      · rw [if_neg (by simp [hl])]
        refine ⟨fun y hy => ⟨List.mem_append_left _ (t1 y hy).1, (t1 y hy).2⟩, t2, fun z hz hzs => ?_⟩
        rcases List.mem_append.1 hz with hz | hz
        · exact t3 z hz hzs
        · obtain rfl := List.mem_singleton.1 hz
          cases hg : out.getLast? with
          | none => rw [hg] at hl; cases hl
          | some y =>
            rw [hg] at hl
            have hk : y.key = z.key := Option.some.inj hl
            have hy := List.mem_of_getLast? hg
            refine ⟨y, hy, hk, ?_⟩
            rcases ahead_key (hax y hy) with ⟨_, h2⟩ | h2
            · omega
            · rw [hk, bl_irrefl] at h2; cases h2
      · rw [if_pos ⟨hs, hl⟩]
        refine ⟨fun y hy => ?_, ?_, fun z hz hzs => ?_⟩
        · rcases List.mem_append.1 hy with hy | hy
          · exact ⟨List.mem_append_left _ (t1 y hy).1, (t1 y hy).2⟩
          · obtain rfl := List.mem_singleton.1 hy
            exact ⟨by simp, hs⟩
        · refine List.pairwise_append.2 ⟨t2, by simp, fun a ha b hb => ?_⟩
          obtain rfl := List.mem_singleton.1 hb
          rcases ahead_key (hax a ha) with ⟨h1, _⟩ | h2
          · exfalso
            rcases List.eq_nil_or_concat out with rfl | ⟨o', y, rfl⟩
            · cases ha
            · rw [List.concat_eq_append] at *
              have hg : (o' ++ [y]).getLast? = some y := by simp
              rw [hg] at hl
              have hne : ¬ y.key = b.key := fun e => hl (by simp [e])
              rcases List.mem_append.1 ha with ha | ha
              · have q1 := (List.pairwise_append.1 t2).2.2 a ha y (by simp)
                rcases ahead_key (hax y (by simp)) with ⟨h3, _⟩ | h3
                · exact hne h3
                · have := bl_trans q1 h3
                  rw [h1, bl_irrefl] at this
                  cases this
              · obtain rfl := List.mem_singleton.1 ha
                exact hne h1
          · exact h2
        · rcases List.mem_append.1 hz with hz | hz
          · obtain ⟨y, hy, h⟩ := t3 z hz hzs
            exact ⟨y, List.mem_append_left _ hy, h⟩
          · obtain rfl := List.mem_singleton.1 hz
            exact ⟨z, by simp, rfl, Int.le_refl _⟩
    · rw [if_neg (by omega)]
      refine ⟨fun y hy => ⟨List.mem_append_left _ (t1 y hy).1, (t1 y hy).2⟩, t2, fun z hz hzs => ?_⟩
      rcases List.mem_append.1 hz with hz | hz
      · exact t3 z hz hzs
      · obtain rfl := List.mem_singleton.1 hz
        exact absurd hzs hs
theorem told_len (seq : Int) (l : List Ent) : (told seq l).length ≤ l.length := by
  suffices H : ∀ (l out : List Ent), (l.foldl (tell seq) out).length ≤ out.length + l.length by
    have := H l []
    simpa [told] using this
  intro l
  induction l with
  | nil => intro out; simp
  | cons x r ih =>
    intro out
    have h1 := ih (tell seq out x)
    have h2 : (tell seq out x).length ≤ out.length + 1 := by unfold tell; split <;> simp
    rw [List.foldl_cons, List.length_cons]
    omega

theorem told_key {l : List Ent} (h : Up l) (i j : Nat) (hij : i ≤ j) (hj : j < l.length) (f : Bs) (hf : Op.bytesLess l[j].key f = true) : Op.bytesLess (l[i]'(by omega)).key f = true := by
  rcases Nat.lt_or_eq_of_le hij with h1 | h1
  · have := List.pairwise_iff_getElem.1 h i j (by omega) hj h1
    rcases ahead_key this with ⟨h2, _⟩ | h2
    · rw [h2]; exact hf
    · exact bl_trans h2 hf
  · subst h1; exact hf
/-- What is in a span. -/
def spanL (f t : Bs) (l : List Ent) : List Ent := l.filter fun x => inB x.key f t
theorem inB_mono {a b : Ent} {f t : Bs} (h : ahead a b = true) (hf : Op.bytesLess a.key f = false) (ha : inB a.key f t = false) : inB b.key f t = false := by
  unfold inB at ha ⊢
  rw [hf] at ha
  simp only [Bool.not_false, Bool.true_and, Bool.or_eq_false_iff, decide_eq_false_iff_not] at ha
  obtain ⟨h1, h2⟩ := ha
  have h3 : Op.bytesLess b.key t = false := by
    cases hc : Op.bytesLess b.key t with
    | false => rfl
    | true =>
      rcases ahead_key h with ⟨h4, _⟩ | h4
      · rw [h4, hc] at h2; cases h2
      · have := bl_trans h4 hc; rw [h2] at this; cases this
  rw [h3]
  simp [h1]
theorem span_from (f t : Bs) : ∀ (l : List Ent), Up l → (∀ x ∈ l, Op.bytesLess x.key f = false) → l.takeWhile (fun x => inB x.key f t) = spanL f t l := by
  intro l
  induction l with
  | nil => intro _ _; rfl
  | cons a r ih =>
    intro hu hf
    obtain ⟨u1, u2⟩ := List.pairwise_cons.1 hu
    unfold spanL
    rw [List.takeWhile_cons, List.filter_cons]
    cases hc : inB a.key f t with
    | true => simp only [if_true]; rw [ih u2 (fun x hx => hf x (by simp [hx]))]; rfl
    | false =>
      simp only [Bool.false_eq_true, if_false]
      symm
      rw [List.filter_eq_nil_iff]
      intro x hx
      rw [inB_mono (u1 x hx) (hf a (by simp)) hc]
      simp
theorem span_drop (f t : Bs) (l : List Ent) (hu : Up l) (r : Nat) (_hr : r ≤ l.length) (h1 : ∀ k (h : k < l.length), k < r → Op.bytesLess l[k].key f = true) (h2 : ∀ k (h : k < l.length), r ≤ k → Op.bytesLess l[k].key f = false) :
    (l.drop r).takeWhile (fun x => inB x.key f t) = spanL f t l := by
  rw [span_from f t _ (List.Pairwise.sublist (List.drop_sublist r l) hu) (fun x hx => by
    obtain ⟨k, hk, rfl⟩ := List.mem_iff_getElem.1 hx
    rw [List.getElem_drop]
    rw [List.length_drop] at hk
    exact h2 _ (by omega) (by omega))]
  unfold spanL
  conv => rhs; rw [← List.take_append_drop r l]
  rw [List.filter_append]
  have : (l.take r).filter (fun x => inB x.key f t) = [] := by
    rw [List.filter_eq_nil_iff]
    intro x hx
    obtain ⟨k, hk, rfl⟩ := List.mem_iff_getElem.1 hx
    rw [List.length_take] at hk
    rw [List.getElem_take]
    have := h1 k (by omega) (by omega)
    unfold inB
    rw [this]
    simp
  rw [this, List.nil_append]
end Mm
end Go.Proofs.Ytbdgdigpnfpnhaa
