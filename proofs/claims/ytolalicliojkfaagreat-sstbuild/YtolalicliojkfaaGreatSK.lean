/-
  An entry with texts of its own: the call answers the same entry, and leaves all that was there as it was. .. and what follows from it.
-/
import Derived.Test.YtolalicliojkfaaGreatSF
import Derived.Test.YtolalicliojkfaaGreatMShelf
import Derived.Laws.Bits64
import Derived.Laws.BitsAllLaws
import Derived.Test.YtolalicliojkfaaGreatSH
import Derived.Deep.Cut
import Derived.Deep.CutRange
namespace Go.Proofs.YtolalicliojkfaaGreat
open Go.RowKit

theorem setCell_id {w : World} {g i : Nat} {cs : Array Value} {t : TypeId} {v : Value} (hb : w.heap[g]? = some (.cells cs t (0, 0))) (hv : cs[i]? = some v) : w.setCell ⟨g, i, none⟩ v = w := by
  have hg := (Array.getElem?_eq_some_iff.1 hb).1
  have hi := (Array.getElem?_eq_some_iff.1 hv).1
  have hc : cs.setIfInBounds i v = cs := by
    apply Array.ext_getElem?
    intro l
    by_cases hl : i = l
    · subst hl; rw [Array.getElem?_setIfInBounds_self_of_lt hi, hv]
    · rw [Array.getElem?_setIfInBounds_ne hl]
  have h1 := heap_setCell_same w g i cs t v hb
  rw [hc] at h1
  have h2 : (w.setCell ⟨g, i, none⟩ v).heap = w.heap := by
    apply Array.ext_getElem?
    intro l
    by_cases hl : l = g
    · subst hl; rw [h1, hb]
    · exact heap_setCell_other w _ l v hl
  have h3 : w.setCell ⟨g, i, none⟩ v = { w with heap := (w.setCell ⟨g, i, none⟩ v).heap } := rfl
  rw [h3, h2]

theorem sclone_any (w : World) (s : Mm.Bs) (h : s.length ≤ 1000000) : Calls Tryz.prog 92 #[str s] w fun e w' => e = .returned (str s) ∧ Below w.heap.size w w' := by
  have C := Tryz.stringslite_Clone ⟨s.toArray⟩ w (by show s.toArray.size ≤ _; simp; omega)
  clear h
  go_enter Tryz.func92, Tryz.ntmps92
  go_wp2_with (go_at_call 104; refine C.mono ?_; rintro e w1 ⟨rfl, b1⟩)
  go_ret
  exact ⟨rfl, b1⟩

abbrev entO (e : Mm.Ent) : Obj := .cells #[str e.key, str e.value, .int .i64 e.seq, .bool e.del] 42 (0, 0)
set_option maxRecDepth 100000 in
set_option maxHeartbeats 4000000 in
theorem own_e (w : World) (e : Mm.Ent) (hk : e.key.length ≤ 1000000) (hv : e.value.length ≤ 1000000) : Calls Tryz.prog 80 #[entV e] w fun r w' => r = .returned (entV e) ∧ Below w.heap.size w w' := by
  have SC : Hid (∀ wx (s : Mm.Bs), s.length ≤ 1000000 → Calls Tryz.prog 92 #[str s] wx fun e w' => e = .returned (str s) ∧ Below wx.heap.size wx w') := fun wx s hs => sclone_any wx s hs
  obtain ⟨W, hW⟩ : ∃ W, W = (w.alloc (.cells #[str e.key, str e.value, .int .i64 e.seq, .bool e.del] 42)).alloc (.cells #[.string ⟨#[]⟩, .string ⟨#[]⟩, .int .i64 0, .bool false] 42) := ⟨_, rfl⟩
  have b0 : Below w.heap.size w W := by rw [hW]; exact ((Below.refl _ _).alloc (Nat.le_refl _) _).alloc (by simp) _
  have e0 : W.heap[w.heap.size]? = some (entO e) := by rw [hW]; exact (Below.heap_alloc _ _ _ (by simp)).trans (World.alloc_heap_new w _)
  have y0 : W.heap[w.heap.size + 1]? = some (entO ⟨[], [], 0, false⟩) := by
    rw [hW]
    have := World.alloc_heap_new (w.alloc (.cells #[str e.key, str e.value, .int .i64 e.seq, .bool e.del] 42)) (.cells #[.string ⟨#[]⟩, .string ⟨#[]⟩, .int .i64 0, .bool false] 42)
    rw [World.size_alloc] at this
    exact this
  have HE := hide e0
  have HY := hide y0
  have HB := hide b0
  obtain ⟨K, V, Q, D⟩ := e
  have HW : Hid (W = (w.alloc (.cells #[str K, str V, .int .i64 Q, .bool D] 42)).alloc (.cells #[.string ⟨#[]⟩, .string ⟨#[]⟩, .int .i64 0, .bool false] 42)) := hW
  simp only at hk hv
  clear hW e0 y0 b0
  go_enter Tryz.func80, Tryz.ntmps80
  go_wp2_with (fail)
  rw [← HW.out]
  have EH : Hid (∀ wx, Below W.heap.size W wx → wx.heap[w.heap.size]? = some (entO ⟨K, V, Q, D⟩) ∧ wx.cell? ⟨w.heap.size, 0, none⟩ = some (str K) ∧ wx.cell? ⟨w.heap.size, 1, none⟩ = some (str V) ∧ wx.frozen? ⟨w.heap.size, 0, none⟩ = false ∧ wx.frozen? ⟨w.heap.size, 1, none⟩ = false) := fun wx hw => by
    have := keepB hw HE.out
    exact ⟨this, Joins.cell_of_block this 0, Joins.cell_of_block this 1, Joins.unfrozen_of_block this 0, Joins.unfrozen_of_block this 1⟩
  have D3 : Below W.heap.size W W.drew := (Below.refl _ _).drew
  have P1 := EH.out _ D3
  go_region_held3 (fun w' => w'.heap[w.heap.size]? = some (entO ⟨K, V, Q, D⟩) ∧ w'.cell? ⟨w.heap.size, 0, none⟩ = some (str K) ∧ w'.cell? ⟨w.heap.size, 1, none⟩ = some (str V) ∧ w'.frozen? ⟨w.heap.size, 0, none⟩ = false ∧ w'.frozen? ⟨w.heap.size, 1, none⟩ = false)
    (first | exact P1 | exact P2 | exact P3 | (rw [q0]; exact P3) | (rw [q1]; exact P3) | (rw [q0, q1]; exact P3) | (rw [q1, q0]; exact P3))
    (first
      | (go_at_call 92; have g := D3; refine (SC.out _ _ (by first | exact hk | exact hv)).mono ?_; rintro r w4 ⟨rfl, b4⟩; have D4 := D3.trans (b4.mono D3.size); have P2 := EH.out _ D4; clear D3 g)
      | (go_at_call 92; have g := D4; refine (SC.out _ _ (by first | exact hk | exact hv)).mono ?_; rintro r w5 ⟨rfl, b5⟩; have D5 := D4.trans (b5.mono D4.size); have P3 := EH.out _ D5; have q0 : w5.setCell ⟨w.heap.size, 0, none⟩ (str K) = w5 := setCell_id P3.1 rfl; have q1 : w5.setCell ⟨w.heap.size, 1, none⟩ (str V) = w5 := setCell_id P3.1 rfl; clear D4 g))
  have e5 := P3.1
  have y5 := keepB D5 HY.out
  obtain ⟨c0, c1, c2, c3⟩ : w5.cell? ⟨w.heap.size, 0, none⟩ = some (str K) ∧ w5.cell? ⟨w.heap.size, 1, none⟩ = some (str V) ∧ w5.cell? ⟨w.heap.size, 2, none⟩ = some (.int .i64 Q) ∧ w5.cell? ⟨w.heap.size, 3, none⟩ = some (.bool D) := ⟨Joins.cell_of_block e5 0, Joins.cell_of_block e5 1, Joins.cell_of_block e5 2, Joins.cell_of_block e5 3⟩
  obtain ⟨x0, x1, x2, x3⟩ : w5.cell? ⟨w.heap.size + 1, 0, none⟩ = some (str []) ∧ w5.cell? ⟨w.heap.size + 1, 1, none⟩ = some (str []) ∧ w5.cell? ⟨w.heap.size + 1, 2, none⟩ = some (.int .i64 0) ∧ w5.cell? ⟨w.heap.size + 1, 3, none⟩ = some (.bool false) := ⟨Joins.cell_of_block y5 0, Joins.cell_of_block y5 1, Joins.cell_of_block y5 2, Joins.cell_of_block y5 3⟩
  have u0 := Joins.unfrozen_of_block y5 0
  have u1 := Joins.unfrozen_of_block y5 1
  have u2 := Joins.unfrozen_of_block y5 2
  have u3 := Joins.unfrozen_of_block y5 3
  have Y5 := hide y5
  have B5 : Below w.heap.size w w5 := HB.out.trans (D5.mono HB.out.size)
  clear P1 P2 P3 q0 q1 D5 EH SC e5 y5 HE HY b4 b5
  go_wp2_with (fail)
  have z5 : ((((w5.setCell ⟨w.heap.size + 1, 0, none⟩ (str K)).setCell ⟨w.heap.size + 1, 1, none⟩ (str V)).setCell ⟨w.heap.size + 1, 2, none⟩ (.int .i64 Q)).setCell ⟨w.heap.size + 1, 3, none⟩ (.bool D)).heap[w.heap.size + 1]? = some (entO ⟨K, V, Q, D⟩) := (Joins.block_setCell (Joins.block_setCell (Joins.block_setCell (Joins.block_setCell Y5.out _) _) _) _).trans rfl
  have m5 : ∀ (v : World) (i : Nat) (u : Value), Moved (fun j => j = w.heap.size + 1) v (v.setCell ⟨w.heap.size + 1, i, none⟩ u) := fun v i u => Moved.setCell (S := fun j => j = w.heap.size + 1) (Moved.refl _ v) (p := ⟨w.heap.size + 1, i, none⟩) (fun _ => rfl) u
  have m6 := (((m5 w5 0 (str K)).trans (m5 _ 1 (str V)) (fun _ _ h => h)).trans (m5 _ 2 (.int .i64 Q)) (fun _ _ h => h)).trans (m5 _ 3 (.bool D)) (fun _ _ h => h)
  have B6 := B5.trans (m6.under B5.size (fun i hi => by omega))
  have t0 := Joins.cell_of_block z5 0
  have t1 := Joins.cell_of_block z5 1
  have t2 := Joins.cell_of_block z5 2
  have t3 := Joins.cell_of_block z5 3
  refine bodyPost_ret (v := entV ⟨K, V, Q, D⟩) (by simp [results, Tryz.results80, go_sem, t0, t1, t2, t3]) rfl ?_
  exact ⟨rfl, B6⟩
end Go.Proofs.YtolalicliojkfaaGreat
namespace Go.Proofs.YtolalicliojkfaaGreat
open Go.RowKit

end Go.Proofs.YtolalicliojkfaaGreat
namespace Go.Proofs.YtolalicliojkfaaGreat
open Go.RowKit
namespace Mm
def inB (k lo hi : Bs) : Bool := !Op.bytesLess k lo && (decide (hi = []) || Op.bytesLess k hi)
end Mm
namespace Mm
def Up (l : List Ent) : Prop := l.Pairwise fun a b => ahead a b = true
/-- One entry more is looked at. -/
def tell (seq : Int) (out : List Ent) (x : Ent) : List Ent := if x.seq ≤ seq ∧ (out.getLast?.map (·.key)) ≠ some x.key then out ++ [x] else out
def told (seq : Int) (l : List Ent) : List Ent := l.foldl (tell seq) []
theorem told_snoc (seq : Int) (l : List Ent) (x : Ent) : told seq (l ++ [x]) = tell seq (told seq l) x := by
  unfold told
  rw [List.foldl_append]
  rfl
structure Told (seq : Int) (l out : List Ent) : Prop where
  mem : ∀ y ∈ out, y ∈ l ∧ y.seq ≤ seq
  up : out.Pairwise fun a b => Op.bytesLess a.key b.key = true
  all : ∀ x ∈ l, x.seq ≤ seq → ∃ y ∈ out, y.key = x.key ∧ x.seq ≤ y.seq
theorem ahead_key {a b : Ent} (h : ahead a b = true) : a.key = b.key ∧ b.seq < a.seq ∨ Op.bytesLess a.key b.key = true := by
  unfold ahead at h
  split at h
  · rename_i hk
    exact .inl ⟨hk, of_decide_eq_true h⟩
  · exact .inr h
theorem told_ok (seq : Int) (l : List Ent) (h : Up l) : Told seq l (told seq l) := by
  suffices H : ∀ r : List Ent, Up r.reverse → Told seq r.reverse (told seq r.reverse) by
    have := H l.reverse (by rw [List.reverse_reverse]; exact h)
    rwa [List.reverse_reverse] at this
  intro r
  induction r with
  | nil => intro _; exact ⟨by simp [told], by simp [told], by simp⟩
  | cons x r ih =>
    intro hu
    rw [List.reverse_cons] at hu ⊢
    generalize r.reverse = m at ih hu ⊢
    obtain ⟨u1, _, u3⟩ := List.pairwise_append.1 hu
    obtain ⟨t1, t2, t3⟩ := ih u1
    rw [told_snoc]
    generalize told seq m = out at t1 t2 t3 ⊢
    have hax : ∀ y ∈ out, ahead y x = true := fun y hy => u3 y (t1 y hy).1 x (by simp)
    unfold tell
    by_cases hs : x.seq ≤ seq
    · by_cases hl : (out.getLast?.map (·.key)) = some x.key
      · rw [if_neg (by simp [hl])]
        refine ⟨fun y hy => ⟨List.mem_append_left _ (t1 y hy).1, (t1 y hy).2⟩, t2, fun z hz hzs => ?_⟩
        rcases List.mem_append.1 hz with hz | hz
        · exact t3 z hz hzs
        · obtain rfl := List.mem_singleton.1 hz
          cases hg : out.getLast? with
          | none => rw [hg] at hl; cases hl
          | some y =>
            rw [hg] at hl
            have hk : y.key = z.key := Option.some.inj hl
            have hy := List.mem_of_getLast? hg
            refine ⟨y, hy, hk, ?_⟩
            rcases ahead_key (hax y hy) with ⟨_, h2⟩ | h2
            · omega
            · rw [hk, bl_irrefl] at h2; cases h2
      · rw [if_pos ⟨hs, hl⟩]
        refine ⟨fun y hy => ?_, ?_, fun z hz hzs => ?_⟩
        · rcases List.mem_append.1 hy with hy | hy
          · exact ⟨List.mem_append_left _ (t1 y hy).1, (t1 y hy).2⟩
          · obtain rfl := List.mem_singleton.1 hy
            exact ⟨by simp, hs⟩
        · refine List.pairwise_append.2 ⟨t2, by simp, fun a ha b hb => ?_⟩
          obtain rfl := List.mem_singleton.1 hb
          rcases ahead_key (hax a ha) with ⟨h1, _⟩ | h2
          · exfalso
            rcases List.eq_nil_or_concat out with rfl | ⟨o', y, rfl⟩
            · cases ha
            · rw [List.concat_eq_append] at *
              have hg : (o' ++ [y]).getLast? = some y := by simp
              rw [hg] at hl
              have hne : ¬ y.key = b.key := fun e => hl (by simp [e])
              rcases List.mem_append.1 ha with ha | ha
              · have q1 := (List.pairwise_append.1 t2).2.2 a ha y (by simp)
                rcases ahead_key (hax y (by simp)) with ⟨h3, _⟩ | h3
                · exact hne h3
                · have := bl_trans q1 h3
                  rw [h1, bl_irrefl] at this
                  cases this
              · obtain rfl := List.mem_singleton.1 ha
                exact hne h1
          · exact h2
        · rcases List.mem_append.1 hz with hz | hz
          · obtain ⟨y, hy, h⟩ := t3 z hz hzs
            exact ⟨y, List.mem_append_left _ hy, h⟩
          · obtain rfl := List.mem_singleton.1 hz
            exact ⟨z, by simp, rfl, Int.le_refl _⟩
    · rw [if_neg (by omega)]
      refine ⟨fun y hy => ⟨List.mem_append_left _ (t1 y hy).1, (t1 y hy).2⟩, t2, fun z hz hzs => ?_⟩
      rcases List.mem_append.1 hz with hz | hz
      · exact t3 z hz hzs
      · obtain rfl := List.mem_singleton.1 hz
        exact absurd hzs hs
theorem told_len (seq : Int) (l : List Ent) : (told seq l).length ≤ l.length := by
  suffices H : ∀ (l out : List Ent), (l.foldl (tell seq) out).length ≤ out.length + l.length by
    have := H l []
    simpa [told] using this
  intro l
  induction l with
  | nil => intro out; simp
  | cons x r ih =>
    intro out
    have h1 := ih (tell seq out x)
    have h2 : (tell seq out x).length ≤ out.length + 1 := by unfold tell; split <;> simp
    rw [List.foldl_cons, List.length_cons]
    omega

theorem told_key {l : List Ent} (h : Up l) (i j : Nat) (hij : i ≤ j) (hj : j < l.length) (f : Bs) (hf : Op.bytesLess l[j].key f = true) : Op.bytesLess (l[i]'(by omega)).key f = true := by
  rcases Nat.lt_or_eq_of_le hij with h1 | h1
  · have := List.pairwise_iff_getElem.1 h i j (by omega) hj h1
    rcases ahead_key this with ⟨h2, _⟩ | h2
    · rw [h2]; exact hf
    · exact bl_trans h2 hf
  · subst h1; exact hf
/-- What is in a span. -/
def spanL (f t : Bs) (l : List Ent) : List Ent := l.filter fun x => inB x.key f t
theorem inB_mono {a b : Ent} {f t : Bs} (h : ahead a b = true) (hf : Op.bytesLess a.key f = false) (ha : inB a.key f t = false) : inB b.key f t = false := by
  unfold inB at ha ⊢
  rw [hf] at ha
  simp only [Bool.not_false, Bool.true_and, Bool.or_eq_false_iff, decide_eq_false_iff_not] at ha
  obtain ⟨h1, h2⟩ := ha
  have h3 : Op.bytesLess b.key t = false := by
    cases hc : Op.bytesLess b.key t with
    | false => rfl
    | true =>
      rcases ahead_key h with ⟨h4, _⟩ | h4
      · rw [h4, hc] at h2; cases h2
      · have := bl_trans h4 hc; rw [h2] at this; cases this
  rw [h3]
  simp [h1]
theorem span_from (f t : Bs) : ∀ (l : List Ent), Up l → (∀ x ∈ l, Op.bytesLess x.key f = false) → l.takeWhile (fun x => inB x.key f t) = spanL f t l := by
  intro l
  induction l with
  | nil => intro _ _; rfl
  | cons a r ih =>
    intro hu hf
    obtain ⟨u1, u2⟩ := List.pairwise_cons.1 hu
    unfold spanL
    rw [List.takeWhile_cons, List.filter_cons]
    cases hc : inB a.key f t with
    | true => simp only [if_true]; rw [ih u2 (fun x hx => hf x (by simp [hx]))]; rfl
    | false =>
      simp only [Bool.false_eq_true, if_false]
      symm
      rw [List.filter_eq_nil_iff]
      intro x hx
      rw [inB_mono (u1 x hx) (hf a (by simp)) hc]
      simp
theorem span_drop (f t : Bs) (l : List Ent) (hu : Up l) (r : Nat) (_hr : r ≤ l.length) (h1 : ∀ k (h : k < l.length), k < r → Op.bytesLess l[k].key f = true) (h2 : ∀ k (h : k < l.length), r ≤ k → Op.bytesLess l[k].key f = false) :
    (l.drop r).takeWhile (fun x => inB x.key f t) = spanL f t l := by
  rw [span_from f t _ (List.Pairwise.sublist (List.drop_sublist r l) hu) (fun x hx => by
    obtain ⟨k, hk, rfl⟩ := List.mem_iff_getElem.1 hx
    rw [List.getElem_drop]
    rw [List.length_drop] at hk
    exact h2 _ (by omega) (by omega))]
  unfold spanL
  conv => rhs; rw [← List.take_append_drop r l]
  rw [List.filter_append]
  have : (l.take r).filter (fun x => inB x.key f t) = [] := by
    rw [List.filter_eq_nil_iff]
    intro x hx
    obtain ⟨k, hk, rfl⟩ := List.mem_iff_getElem.1 hx
    rw [List.length_take] at hk
    rw [List.getElem_take]
    have := h1 k (by omega) (by omega)
    unfold inB
    rw [this]
    simp
  rw [this, List.nil_append]
end Mm
end Go.Proofs.YtolalicliojkfaaGreat
namespace Go.Proofs.YtolalicliojkfaaGreat
open Go.RowKit

theorem EntsAt.drop {w : World} {a : Option Addr} {n c : Nat} {l : List Mm.Ent} (h : EntsAt w (.slice a n c) l) (r c' : Nat) : EntsAt w (.slice (a.map fun x => x.add (r * 4)) (n - r) c') (l.drop r) := by
  obtain ⟨⟨a', c2, e, hf⟩⟩ := h
  cases e
  refine ⟨⟨_, _, by rw [List.length_drop], fun h0 => ?_⟩⟩
  obtain ⟨b, off, rfl, hat⟩ := hf (fun e => h0 (by rw [e]; simp))
  have hadd : (⟨b, off, none⟩ : Addr).add (r * 4) = ⟨b, off + r * 4, none⟩ := by unfold Addr.add; split <;> simp_all
  refine ⟨b, off + r * 4, by show Option.some (Addr.add _ _) = _; rw [hadd], fun j hj => ?_⟩
  rw [List.length_drop] at hj
  have := hat (r + j) (by omega)
  rw [List.getElem_drop]
  rw [show off + r * 4 + j * 4 = off + (r + j) * 4 by rw [Nat.add_mul]; omega]
  exact this
theorem takeWhile_at {α : Type} (p : α → Bool) (l : List α) (j : Nat) (h : j < l.length) (h1 : ∀ x ∈ l.take j, p x = true) (h2 : p l[j] = false) : l.takeWhile p = l.take j := by
  have e : l = l.take j ++ l[j] :: l.drop (j + 1) := by rw [← List.drop_eq_getElem_cons h, List.take_append_drop]
  conv => lhs; rw [e]
  rw [List.takeWhile_append_of_pos h1, List.takeWhile_cons, h2]
  simp
theorem takeWhile_all {α : Type} (p : α → Bool) (l : List α) (h1 : ∀ x ∈ l, p x = true) : l.takeWhile p = l := by
  induction l with
  | nil => rfl
  | cons a r ih => rw [List.takeWhile_cons, h1 a (by simp), if_pos rfl, ih (fun x hx => h1 x (by simp [hx]))]
theorem own_someE {w : World} {base e size n : Nat} {v : Value} {xs : List Value} (h : w.ownsRow base e size v n xs) (h0 : n ≠ 0) : ∃ g cap, v = .slice (some ⟨g, 0, none⟩) n cap := by
  rcases h.2 with ⟨_, h1⟩ | ⟨g, cap, cur, rfl, _⟩
  · exact absurd h1 h0
  · exact ⟨g, cap, rfl⟩
theorem last_cell {w : World} {g n cap : Nat} {o : List Mm.Ent} {y : Mm.Ent} (h : EntsAt w (.slice (some ⟨g, 0, none⟩) n cap) (o ++ [y])) : w.cell? ⟨g, o.length * 4, none⟩ = some (str y.key) := by
  have := (h.cells o.length (by simp)).1
  rw [Nat.zero_add] at this
  simpa using this
/-- Is the key told already? -/
def toldB (out : List Mm.Ent) (x : Mm.Ent) : Bool := decide (out.getLast?.map (·.key) = some x.key)
theorem toldB_snoc (o : List Mm.Ent) (y x : Mm.Ent) : toldB (o ++ [y]) x = (y.key == x.key) := by
  have h : (o ++ [y]).getLast?.map (·.key) = some y.key := by simp
  by_cases e : y.key = x.key
  · rw [e]
    simp only [beq_self_eq_true]
    exact decide_eq_true (h.trans (by rw [e]))
  · rw [beq_eq_false_iff_ne.2 e]
    exact decide_eq_false (fun h2 => e (Option.some.inj (h.symm.trans h2)))
theorem tell_yes {seq : Int} {out : List Mm.Ent} {x : Mm.Ent} (h : x.seq ≤ seq) (ht : toldB out x = false) : Mm.tell seq out x = out ++ [x] := by
  unfold Mm.tell
  exact if_pos ⟨h, of_decide_eq_false ht⟩
theorem tell_no {seq : Int} {out : List Mm.Ent} {x : Mm.Ent} (h : ¬ x.seq ≤ seq ∨ toldB out x = true) : Mm.tell seq out x = out := by
  unfold Mm.tell
  refine if_neg (fun hc => ?_)
  rcases h with h | h
  · exact h hc.1
  · exact hc.2 (of_decide_eq_true h)

end Go.Proofs.YtolalicliojkfaaGreat
namespace Go.Proofs.YtolalicliojkfaaGreat
namespace Bk
open Mm (Ent Up told spanL inB)

/-! ### Lists in order -/
theorem up_same {l : List Ent} (h : Up l) {x y : Ent} (hx : x ∈ l) (hy : y ∈ l) (hk : x.key = y.key) (hs : x.seq = y.seq) : x = y := by
  obtain ⟨i, hi, rfl⟩ := List.mem_iff_getElem.1 hx
  obtain ⟨j, hj, rfl⟩ := List.mem_iff_getElem.1 hy
  rcases Nat.lt_trichotomy i j with h1 | h1 | h1
  · have := List.pairwise_iff_getElem.1 h i j hi hj h1
    rcases Mm.ahead_key this with ⟨_, h2⟩ | h2
    · omega
    · rw [hk, Mm.bl_irrefl] at h2; cases h2
  · subst h1; rfl
  · have := List.pairwise_iff_getElem.1 h j i hj hi h1
    rcases Mm.ahead_key this with ⟨_, h2⟩ | h2
    · omega
    · rw [hk, Mm.bl_irrefl] at h2; cases h2
theorem up_ext : ∀ (a b : List Ent), Up a → Up b → (∀ x, x ∈ a ↔ x ∈ b) → a = b := by
  intro a
  induction a with
  | nil =>
    intro b _ _ h
    cases b with
    | nil => rfl
    | cons y b => exact absurd ((h y).2 (by simp)) (by simp)
  | cons x a ih =>
    intro b ha hb h
    cases b with
    | nil => exact absurd ((h x).1 (by simp)) (by simp)
    | cons y b =>
      obtain ⟨a1, a2⟩ := List.pairwise_cons.1 ha
      obtain ⟨b1, b2⟩ := List.pairwise_cons.1 hb
      have hxy : x = y := by
        rcases List.mem_cons.1 ((h x).1 (by simp)) with h1 | h1
        · exact h1
        · rcases List.mem_cons.1 ((h y).2 (by simp)) with h2 | h2
          · exact h2.symm
          · have := Mm.ahead_trans (a1 y h2) (b1 x h1)
            rw [Mm.ahead_irrefl] at this; cases this
      subst hxy
      rw [ih b a2 b2 (fun z => ?_)]
      constructor
      · intro hz
        rcases List.mem_cons.1 ((h z).1 (by simp [hz])) with h1 | h1
        · have := a1 z hz; rw [h1, Mm.ahead_irrefl] at this; cases this
        · exact h1
      · intro hz
        rcases List.mem_cons.1 ((h z).2 (by simp [hz])) with h1 | h1
        · have := b1 z hz; rw [h1, Mm.ahead_irrefl] at this; cases this
        · exact h1

/-- x is the visible version of its key at s. -/
def Vis (s : Int) (l : List Ent) (x : Ent) : Prop := x ∈ l ∧ x.seq ≤ s ∧ ∀ y ∈ l, y.key = x.key → y.seq ≤ s → y.seq ≤ x.seq
theorem told_vis (s : Int) {l : List Ent} (h : Up l) (x : Ent) : x ∈ told s l ↔ Vis s l x := by
  obtain ⟨t1, t2, t3⟩ := Mm.told_ok s l h
  constructor
  · intro hx
    obtain ⟨h1, h2⟩ := t1 x hx
    refine ⟨h1, h2, fun y hy hk hs => ?_⟩
    obtain ⟨z, hz, hzk, hzs⟩ := t3 y hy hs
    have : z = x := by
      obtain ⟨i, hi, rfl⟩ := List.mem_iff_getElem.1 hz
      obtain ⟨j, hj, rfl⟩ := List.mem_iff_getElem.1 hx
      rcases Nat.lt_trichotomy i j with e | e | e
      · have := List.pairwise_iff_getElem.1 t2 i j hi hj e
        rw [hzk, hk, Mm.bl_irrefl] at this; cases this
      · subst e; rfl
      · have := List.pairwise_iff_getElem.1 t2 j i hj hi e
        rw [hzk, hk, Mm.bl_irrefl] at this; cases this
    rw [this] at hzs
    exact hzs
  · rintro ⟨h1, h2, h3⟩
    obtain ⟨y, hy, hk, hs⟩ := t3 x h1 h2
    obtain ⟨g1, g2⟩ := t1 y hy
    have := h3 y g1 hk g2
    have : y = x := up_same h g1 h1 hk (by omega)
    rw [← this]
    exact hy
theorem told_up (s : Int) {l : List Ent} (h : Up l) : Up (told s l) := by
  refine (Mm.told_ok s l h).up.imp fun {a b} hab => ?_
  unfold Mm.ahead
  rw [if_neg (fun e => by rw [e, Mm.bl_irrefl] at hab; cases hab)]
  exact hab
theorem span_up {f t : List UInt8} {l : List Ent} (h : Up l) : Up (spanL f t l) := List.Pairwise.sublist List.filter_sublist h
theorem span_vis {s : Int} {f t : List UInt8} {l : List Ent} {x : Ent} : Vis s (spanL f t l) x ↔ Vis s l x ∧ inB x.key f t = true := by
  unfold Vis spanL
  constructor
  · rintro ⟨h1, h2, h3⟩
    obtain ⟨g1, g2⟩ := List.mem_filter.1 h1
    exact ⟨⟨g1, h2, fun y hy hk => h3 y (List.mem_filter.2 ⟨hy, by rw [hk]; exact g2⟩) hk⟩, g2⟩
  · rintro ⟨⟨h1, h2, h3⟩, h4⟩
    exact ⟨List.mem_filter.2 ⟨h1, h4⟩, h2, fun y hy => h3 y (List.mem_filter.1 hy).1⟩
theorem vis_over {s : Int} {l : List Ent} (h : Up l) {x : Ent} (hx : x ∈ l) (hs : x.seq ≤ s) : ∃ y, Vis s l y ∧ y.key = x.key ∧ x.seq ≤ y.seq := by
  obtain ⟨y, hy, hk, hsq⟩ := (Mm.told_ok s l h).all x hx hs
  exact ⟨y, (told_vis s h y).1 hy, hk, hsq⟩

/-! ### What stays -/
def staysB (A : List Int) (prev : Option Ent) (x : Ent) : Bool := A.any fun s => decide (x.seq ≤ s) && (match prev with | none => true | some p => !decide (p.key = x.key) || decide (s < p.seq))
def foldR (A : List Int) (last : Bool) : Option Ent → List Ent → List Ent
  | _, [] => []
  | p, x :: r => if staysB A p x && !(last && !decide ((foldR A last (some x) r).head?.map (·.key) = some x.key) && x.del) then x :: foldR A last (some x) r else foldR A last (some x) r
theorem fold_sub (A : List Int) (last : Bool) : ∀ (l : List Ent) (p : Option Ent), (foldR A last p l).Sublist l
  | [], _ => List.Sublist.refl _
  | x :: r, p => by
    rw [foldR]
    split
    · exact (fold_sub A last r (some x)).cons_cons x
    · exact (fold_sub A last r (some x)).cons x
theorem stays_vis {A : List Int} {q r : List Ent} {x : Ent} (h : Up (q ++ x :: r)) {s : Int} (hs : s ∈ A) (hv : Vis s (q ++ x :: r) x) : staysB A q.getLast? x = true := by
  obtain ⟨h1, h2, h3⟩ := hv
  refine List.any_eq_true.2 ⟨s, hs, ?_⟩
  rw [decide_eq_true h2, Bool.true_and]
  cases hg : q.getLast? with
  | none => rfl
  | some p =>
    have hp := List.mem_of_getLast? hg
    simp only [Bool.or_eq_true, Bool.not_eq_true', decide_eq_false_iff_not, decide_eq_true_eq]
    by_cases hk : p.key = x.key
    · right
      have ha : Mm.ahead p x = true := (List.pairwise_append.1 h).2.2 p hp x (by simp)
      rcases Mm.ahead_key ha with ⟨_, h4⟩ | h4
      · have h5 := h3 p (by simp [hp]) hk
        by_cases h6 : p.seq ≤ s
        · have := h5 h6; omega
        · omega
      · rw [hk, Mm.bl_irrefl] at h4; cases h4
    · exact .inl hk
theorem last_snoc (q : List Ent) (x : Ent) : (q ++ [x]).getLast? = some x := by simp
theorem fold_keeps {A : List Int} {last : Bool} {s : Int} (hs : s ∈ A) : ∀ (m q : List Ent), Up (q ++ m) → ∀ x ∈ m, Vis s (q ++ m) x → (last = false ∨ x.del = false) → x ∈ foldR A last q.getLast? m := by
  intro m
  induction m with
  | nil => intro q _ x hx; cases hx
  | cons x0 r ih =>
    intro q hu x hx hv hd
    have e : q ++ x0 :: r = (q ++ [x0]) ++ r := by simp
    rw [foldR]
    rcases List.mem_cons.1 hx with rfl | hx
    · rw [stays_vis hu hs hv]
      have : (true && !(last && !decide ((foldR A last (some x) r).head?.map (·.key) = some x.key) && x.del)) = true := by
        rcases hd with hd | hd <;> rw [hd] <;> simp
      rw [this, if_pos rfl]
      simp
    · rw [e] at hu hv
      have := ih (q ++ [x0]) hu x hx hv hd
      rw [last_snoc] at this
      split
      · exact List.mem_cons_of_mem _ this
      · exact this
theorem fold_over {A : List Int} {last : Bool} {s : Int} (hs : s ∈ A) : ∀ (m q : List Ent), Up (q ++ m) → ∀ x ∈ m, Vis s (q ++ m) x → (∃ z ∈ foldR A last q.getLast? m, z.key = x.key ∧ z.seq < x.seq) → x ∈ foldR A last q.getLast? m := by
  intro m
  induction m with
  | nil => intro q _ x hx; cases hx
  | cons x0 r ih =>
    intro q hu x hx hv hz
    obtain ⟨z, hz, hzk, hzs⟩ := hz
    have e : q ++ x0 :: r = (q ++ [x0]) ++ r := by simp
    have hur : Up (x0 :: r) := (List.pairwise_append.1 hu).2.1
    obtain ⟨u1, u2⟩ := List.pairwise_cons.1 hur
    have hsub := fold_sub A last r (some x0)
    rcases List.mem_cons.1 hx with rfl | hx
    · have hzo : z ∈ foldR A last (some x) r := by
        rw [foldR] at hz
        split at hz
        · rcases List.mem_cons.1 hz with h1 | h1
          · rw [h1] at hzs; omega
          · exact h1
        · exact hz
      have hh : (foldR A last (some x) r).head?.map (·.key) = some x.key := by
        cases ho : foldR A last (some x) r with
        | nil => rw [ho] at hzo; cases hzo
        | cons h o =>
          rw [ho] at hzo hsub
          have hhr : h ∈ r := hsub.subset (by simp)
          have hxh := u1 h hhr
          have hk : h.key = x.key := by
            rcases Mm.ahead_key hxh with ⟨h1, _⟩ | h1
            · exact h1.symm
            · rcases List.mem_cons.1 hzo with h2 | h2
              · rw [← h2]; exact hzk
              · have hhz : Mm.ahead h z = true := (List.pairwise_cons.1 (List.Pairwise.sublist hsub u2)).1 z h2
                rcases Mm.ahead_key hhz with ⟨h3, _⟩ | h3
                · rw [h3]; exact hzk
                · have := Mm.bl_trans h1 h3
                  rw [hzk, Mm.bl_irrefl] at this; cases this
          simp [hk]
      rw [foldR, stays_vis hu hs hv, hh]
      simp
    · have hzo : z ∈ foldR A last (some x0) r := by
        rw [foldR] at hz
        split at hz
        · rcases List.mem_cons.1 hz with h1 | h1
          · have := u1 x hx
            rw [← h1] at this
            rcases Mm.ahead_key this with ⟨_, h2⟩ | h2
            · omega
            · rw [hzk, Mm.bl_irrefl] at h2; cases h2
          · exact h1
        · exact hz
      rw [e] at hu hv
      have := ih (q ++ [x0]) hu x hx hv
      rw [last_snoc] at this
      have := this ⟨z, hzo, hzk, hzs⟩
      rw [foldR]
      split
      · exact List.mem_cons_of_mem _ this
      · exact this

/-! ### Nothing is lost -/
theorem fold_vis_back {A : List Int} {last : Bool} {s : Int} (hs : s ∈ A) {l : List Ent} (h : Up l) {x : Ent} (hv : Vis s (foldR A last none l) x) : Vis s l x := by
  obtain ⟨h1, h2, h3⟩ := hv
  have hsub := fold_sub A last l none
  refine ⟨hsub.subset h1, h2, fun y hy hk hys => ?_⟩
  rcases Int.lt_or_le x.seq y.seq with hlt | hle
  · exfalso
    obtain ⟨z, hz, hzk, hzs⟩ := vis_over h hy hys
    have hmem : z ∈ foldR A last none l := by
      have := fold_over (last := last) hs l [] (by simpa using h) z hz.1 (by simpa using hz)
      exact this ⟨x, h1, by rw [hzk, hk], by omega⟩
    have := h3 z hmem (by rw [hzk, hk]) hz.2.1
    omega
  · exact hle
theorem fold_vis_to {A : List Int} {last : Bool} {s : Int} (hs : s ∈ A) {l : List Ent} (h : Up l) {x : Ent} (hv : Vis s l x) (hd : last = false ∨ x.del = false) : Vis s (foldR A last none l) x := by
  have hm := fold_keeps (last := last) hs l [] (by simpa using h) x hv.1 (by simpa using hv) hd
  exact ⟨hm, hv.2.1, fun y hy => hv.2.2 y ((fold_sub A last l none).subset hy)⟩
def putsL (l : List Ent) : List Ent := l.filter fun x => !x.del
theorem fold_all {A : List Int} {s : Int} (hs : s ∈ A) {l : List Ent} (h : Up l) (f t : List UInt8) : told s (spanL f t (foldR A false none l)) = told s (spanL f t l) := by
  have hF : Up (foldR A false none l) := List.Pairwise.sublist (fold_sub _ _ _ _) h
  refine up_ext _ _ (told_up s (span_up hF)) (told_up s (span_up h)) (fun x => ?_)
  rw [told_vis s (span_up hF), told_vis s (span_up h), span_vis, span_vis]
  exact ⟨fun ⟨a, b⟩ => ⟨fold_vis_back hs h a, b⟩, fun ⟨a, b⟩ => ⟨fold_vis_to hs h a (.inl rfl), b⟩⟩
theorem fold_puts {A : List Int} {last : Bool} {s : Int} (hs : s ∈ A) {l : List Ent} (h : Up l) (f t : List UInt8) : putsL (told s (spanL f t (foldR A last none l))) = putsL (told s (spanL f t l)) := by
  have hF : Up (foldR A last none l) := List.Pairwise.sublist (fold_sub _ _ _ _) h
  refine up_ext _ _ (List.Pairwise.sublist List.filter_sublist (told_up s (span_up hF))) (List.Pairwise.sublist List.filter_sublist (told_up s (span_up h))) (fun x => ?_)
  unfold putsL
  rw [List.mem_filter, List.mem_filter, told_vis s (span_up hF), told_vis s (span_up h), span_vis, span_vis]
  constructor
  · rintro ⟨⟨a, b⟩, c⟩
    exact ⟨⟨fold_vis_back hs h a, b⟩, c⟩
  · rintro ⟨⟨a, b⟩, c⟩
    exact ⟨⟨fold_vis_to hs h a (.inr (by simpa using c)), b⟩, c⟩

/-! ### What stays, asked of numbers in order -/
theorem cnt_split (x : Int) : ∀ (S : List Int), S.Pairwise (· ≤ ·) → ∀ j (h : j < S.length), (j < S.countP (· < x) ↔ S[j] < x) := by
  intro S
  induction S with
  | nil => intro _ j h; simp at h
  | cons a r ih =>
    intro hs j h
    obtain ⟨h1, h2⟩ := List.pairwise_cons.1 hs
    by_cases ha : a < x
    · rw [List.countP_cons_of_pos (by simpa using ha)]
      cases j with
      | zero => simp [ha]
      | succ j =>
        have := ih h2 j (by simpa using h)
        simp only [List.getElem_cons_succ]
        rw [← this]
        omega
    · have hz : (a :: r).countP (· < x) = 0 := by
        rw [List.countP_eq_zero]
        intro y hy
        rcases List.mem_cons.1 hy with rfl | hy
        · simpa using ha
        · have := h1 y hy
          simp; omega
      rw [hz]
      constructor
      · intro h; omega
      · intro hlt
        cases j with
        | zero => exact absurd hlt ha
        | succ j =>
          have hj : j < r.length := by simpa using h
          have := h1 r[j] (List.getElem_mem hj)
          simp only [List.getElem_cons_succ] at hlt
          omega
theorem stays_none {A S : List Int} (hp : S.Perm A) (hs : S.Pairwise (· ≤ ·)) (prev : Option Ent) (x : Ent) (h : S.countP (· < x.seq) = S.length) : staysB A prev x = false := by
  unfold staysB
  rw [List.any_eq_false]
  intro s hsA
  obtain ⟨j, hj, rfl⟩ := List.mem_iff_getElem.1 (hp.symm.subset hsA)
  have := (cnt_split x.seq S hs j hj).1 (by omega)
  rw [decide_eq_false (by omega)]
  simp
theorem stays_some {A S : List Int} (hp : S.Perm A) (hs : S.Pairwise (· ≤ ·)) (prev : Option Ent) (x : Ent) (h : S.countP (· < x.seq) < S.length) :
    staysB A prev x = (match prev with | none => true | some p => !decide (p.key = x.key) || decide (S[S.countP (· < x.seq)] < p.seq)) := by
  have hge : ¬ S[S.countP (· < x.seq)] < x.seq := fun hc => by
    have := (cnt_split x.seq S hs _ h).2 hc
    omega
  have hin : S[S.countP (· < x.seq)] ∈ A := hp.subset (List.getElem_mem h)
  unfold staysB
  cases prev with
  | none =>
    refine List.any_eq_true.2 ⟨_, hin, ?_⟩
    rw [decide_eq_true (by omega)]
    rfl
  | some p =>
    by_cases hk : p.key = x.key
    · simp only [hk, decide_true, Bool.not_true, Bool.false_or]
      by_cases hlt : S[S.countP (· < x.seq)] < p.seq
      · rw [decide_eq_true hlt]
        refine List.any_eq_true.2 ⟨_, hin, ?_⟩
        rw [decide_eq_true (by omega), decide_eq_true hlt]
        rfl
      · rw [decide_eq_false hlt]
        rw [List.any_eq_false]
        intro s hsA
        obtain ⟨j, hj, rfl⟩ := List.mem_iff_getElem.1 (hp.symm.subset hsA)
        by_cases hx : x.seq ≤ S[j]
        · have hjc : ¬ j < S.countP (· < x.seq) := fun hc => by
            have := (cnt_split x.seq S hs j hj).1 hc
            omega
          have hle : S[S.countP (· < x.seq)] ≤ S[j] := by
            rcases Nat.lt_or_eq_of_le (Nat.le_of_not_lt hjc) with h1 | h1
            · exact List.pairwise_iff_getElem.1 hs _ j h hj h1
            · have : S[S.countP (· < x.seq)] = S[j] := by congr 1
              omega
          rw [decide_eq_true hx, decide_eq_false (show ¬ S[j] < p.seq by omega)]
          simp
        · rw [decide_eq_false hx]; simp
    · simp only [hk, decide_false, Bool.not_false, Bool.true_or]
      refine List.any_eq_true.2 ⟨_, hin, ?_⟩
      rw [decide_eq_true (by omega)]
      rfl
end Bk
end Go.Proofs.YtolalicliojkfaaGreat
namespace Go.Proofs.YtolalicliojkfaaGreat
open Go.RowKit

set_option maxRecDepth 100000 in
set_option maxHeartbeats 4000000 in
theorem search_find (w : World) (n : Nat) (hn : n ≤ 1000000) (c1 c2 : Value) (p : Nat → Bool) (hp : ∀ i j, i ≤ j → p i = true → p j = true)
    (F : Hid (∀ wx, Below w.heap.size w wx → ∀ i : Nat, i < n → Calls Tryz.prog 79 #[.int .i64 (i : Int), c1, c2] wx fun e w' => e = .returned (.bool (p i)) ∧ Below wx.heap.size wx w')) :
    Calls Tryz.prog 75 #[.int .i64 (n : Int), .func (.func 79) #[] #[c1, c2]] w fun e w' => ∃ r : Nat, e = .returned (.int .i64 (r : Int)) ∧ r ≤ n ∧ (∀ k, k < r → p k = false) ∧ (∀ k, r ≤ k → k < n → p k = true) ∧ Below w.heap.size w w' := by
  have HP : Hid (∀ i j, i ≤ j → p i = true → p j = true) := hp
  clear hp
  go_enter Tryz.func75, Tryz.ntmps75
  go_wp2_with (fail)
  go_loopw [5, 6] (fun i j wr => ∃ lo hi : Nat, i = .int .i64 (lo : Int) ∧ j = .int .i64 (hi : Int) ∧ lo ≤ hi ∧ hi ≤ n ∧ Hid (∀ k, k < lo → p k = false) ∧ Hid (∀ k, hi ≤ k → k < n → p k = true) ∧ Below w.heap.size w wr) (fun i j _ => (intOf j).toNat - (intOf i).toNat)
  case atStart => exact ⟨0, n, rfl, rfl, Nat.zero_le _, Nat.le_refl _, fun k h => absurd h (by omega), fun k h1 h2 => absurd h1 (by omega), Below.refl _ _⟩
  case round =>
    obtain ⟨lo, hi, rfl, rfl, hlh, hhn, HL, HH, bx⟩ := hrel
    by_cases hlt : lo < hi
    · have FM := hide (F.out wr bx ((lo + hi) / 2) (by omega))
      have m1 : lo ≤ (lo + hi) / 2 := by omega
      have m2 : (lo + hi) / 2 < hi := by omega
      have FL : Hid (p ((lo + hi) / 2) = false → ∀ k, k < (lo + hi) / 2 + 1 → p k = false) := fun h0 k hk => by
        cases hc : p k with
        | false => rfl
        | true => have := HP.out k ((lo + hi) / 2) (by omega) hc; rw [h0] at this; cases this
      have FH : Hid (p ((lo + hi) / 2) = true → ∀ k, (lo + hi) / 2 ≤ k → k < n → p k = true) := fun h0 k hk _ => HP.out _ k hk h0
      obtain ⟨b, hb⟩ : ∃ b, b = p ((lo + hi) / 2) := ⟨_, rfl⟩
      rw [← hb] at FM FL FH
      clear hb
      have HI : Hid ((((lo + hi) / 2 : Nat) : Int) = ((lo : Int) + (hi : Int)) / 2) := by show _ = _; omega
      rw [HI.out] at FM
      have q1 : (0 : Int) ≤ ((lo : Int) + (hi : Int)) / 2 := by omega
      have q2 : ((lo : Int) + (hi : Int)) / 2 < 1000000 := by omega
      cases b with
      | true =>
        have FQ := hide (FH.out rfl)
        clear FL FH
        go_wp2_with (first
          | (go_at_call 79; refine FM.out.mono ?_; rintro e w1 ⟨rfl, b1⟩))
        exact ⟨⟨lo, (lo + hi) / 2, rfl, by rw [HI.out], m1, by omega, HL, FQ, bx.trans (b1.mono bx.size)⟩, by simp [intOf]; omega⟩
      | false =>
        have FQ := hide (FL.out rfl)
        clear FL FH
        go_wp2_with (first
          | (go_at_call 79; refine FM.out.mono ?_; rintro e w1 ⟨rfl, b1⟩))
        exact ⟨⟨(lo + hi) / 2 + 1, hi, by rw [Int.natCast_add, HI.out]; rfl, rfl, by omega, hhn, FQ, HH, bx.trans (b1.mono bx.size)⟩, by simp [intOf]; omega⟩
    · have e : lo = hi := by omega
      subst e
      have i3 : ¬ (lo : Int) < (lo : Int) := by omega
      go_wp2_with (fail)
      go_ret
      exact ⟨lo, rfl, hhn, HL.out, HH.out, bx⟩


set_option maxRecDepth 100000 in
set_option maxHeartbeats 4000000 in
theorem find_asks (w : World) (a : Option Addr) (c n : Nat) (l : List Mm.Ent) (h : EntsAt w (.slice a n c) l) (hn : n = l.length) (A B : Nat) (k : List UInt8) (q : Int) (hA : w.cell? ⟨A, 0, none⟩ = some (.slice a n c)) (hB : w.heap[B]? = some (eO ⟨k, [], q, false⟩)) (i : Nat) (hi : i < l.length) (hi6 : l.length ≤ 1000000) :
    Calls Tryz.prog 79 #[.int .i64 (i : Int), .pointer (some ⟨A, 0, none⟩), .pointer (some ⟨B, 0, none⟩)] w fun e w' => e = .returned (.bool (!Mm.ahead l[i] ⟨k, [], q, false⟩)) ∧ Below w.heap.size w w' := by
  obtain ⟨b, off, rfl⟩ := h.some (by omega)
  have KC : Hid (∀ wx, Below w.heap.size w wx → ((wx.cell? ⟨b, off + i * 4, none⟩ = some (str l[i].key) ∧ wx.cell? ⟨b, off + i * 4 + 1, none⟩ = some (str l[i].value) ∧ wx.cell? ⟨b, off + i * 4 + 2, none⟩ = some (.int .i64 l[i].seq) ∧ wx.cell? ⟨b, off + i * 4 + 3, none⟩ = some (.bool l[i].del)) ∧ wx.cell? ⟨A, 0, none⟩ = some (.slice (some ⟨b, off, none⟩) n c)) ∧ wx.cell? ⟨B, 0, none⟩ = some (str k) ∧ wx.cell? ⟨B, 1, none⟩ = some (str []) ∧ wx.cell? ⟨B, 2, none⟩ = some (.int .i64 q) ∧ wx.cell? ⟨B, 3, none⟩ = some (.bool false)) := fun wx hw => by
    have hb := keepB hw hB
    exact ⟨⟨(h.later hw).cells i hi, keepC hw hA⟩, Joins.cell_of_block hb 0, Joins.cell_of_block hb 1, Joins.cell_of_block hb 2, Joins.cell_of_block hb 3⟩
  have AH := hide (fun wx => ahead_any wx l[i] ⟨k, [], q, false⟩)
  have i1 : (i : Int) < (n : Int) := by omega
  have i2 : (0 : Int) ≤ (i : Int) := by omega
  have P1 := KC.out w.drew (Below.refl _ _).drew
  generalize Mm.ahead l[i] ⟨k, [], q, false⟩ = R at *
  generalize l[i] = x at *
  clear h hn hA hB
  go_enter Tryz.func79, Tryz.ntmps79
  go_wp2_with (fail)
  go_region_held3 (fun wx => ((wx.cell? ⟨b, off + i * 4, none⟩ = some (str x.key) ∧ wx.cell? ⟨b, off + i * 4 + 1, none⟩ = some (str x.value) ∧ wx.cell? ⟨b, off + i * 4 + 2, none⟩ = some (.int .i64 x.seq) ∧ wx.cell? ⟨b, off + i * 4 + 3, none⟩ = some (.bool x.del)) ∧ wx.cell? ⟨A, 0, none⟩ = some (.slice (some ⟨b, off, none⟩) n c)) ∧ wx.cell? ⟨B, 0, none⟩ = some (str k) ∧ wx.cell? ⟨B, 1, none⟩ = some (str []) ∧ wx.cell? ⟨B, 2, none⟩ = some (.int .i64 q) ∧ wx.cell? ⟨B, 3, none⟩ = some (.bool false))
    (first | exact P1 | exact P2)
    (first
      | (go_at_call 48; refine (AH.out _).mono ?_; rintro r w8 ⟨rfl, b8⟩; have D8 := (Below.refl w.heap.size w).drew.trans b8; have P2 := KC.out _ D8))
  go_wp2_with (fail)
  go_ret
  exact ⟨rfl, D8⟩

/-- What Find answers. -/
def findE (l : List Mm.Ent) (k : List UInt8) (q : Int) : Option Mm.Ent :=
  match (l.dropWhile fun x => Mm.ahead x ⟨k, [], q, false⟩).head? with
  | none => none
  | some x => if x.key = k then some x else none
theorem drop_ahead {l : List Mm.Ent} (W : Mm.Ent) (r : Nat) (hr : r ≤ l.length) (h1 : ∀ k (h : k < l.length), k < r → Mm.ahead l[k] W = true) (h2 : ∀ h : r < l.length, Mm.ahead l[r] W = false) : l.dropWhile (fun x => Mm.ahead x W) = l.drop r := by
  have e : l = l.take r ++ l.drop r := (List.take_append_drop r l).symm
  conv => lhs; rw [e]
  rw [List.dropWhile_append_of_pos (fun x hx => by
    obtain ⟨k, hk, rfl⟩ := List.mem_iff_getElem.1 hx
    rw [List.length_take] at hk
    rw [List.getElem_take]
    exact h1 k (by omega) (by omega))]
  by_cases hlt : r < l.length
  · rw [List.drop_eq_getElem_cons hlt, List.dropWhile_cons, h2 hlt]
    simp
  · rw [List.drop_eq_nil_of_le (by omega)]
    rfl
abbrev foundV : Option Mm.Ent → Value
  | none => .tuple #[entV ⟨[], [], 0, false⟩, .bool false]
  | some x => .tuple #[entV x, .bool true]

set_option maxRecDepth 100000 in
set_option maxHeartbeats 8000000 in
theorem find_any (w : World) (a : Option Addr) (c n : Nat) (l : List Mm.Ent) (h : EntsAt w (.slice a n c) l) (hn : n = l.length) (hl : n ≤ 1000000) (hk : ∀ x ∈ l, x.key.length ≤ 1000000 ∧ x.value.length ≤ 1000000) (hu : Mm.Up l) (k : List UInt8) (q : Int) :
    Calls Tryz.prog 51 #[.slice a n c, str k, .int .i64 q] w fun e w' => e = .returned (foundV (findE l k q)) ∧ Below w.heap.size w w' := by
  obtain ⟨W, hW⟩ : ∃ W, W = ((w.alloc (.cells #[.slice a n c] 22)).alloc (.cells #[.string ⟨#[]⟩, .string ⟨#[]⟩, .int .i64 0, .bool false] 42)).alloc (.cells #[str k, .string ⟨#[]⟩, .int .i64 q, .bool false] 42) := ⟨_, rfl⟩
  have b0 : Below w.heap.size w W := by rw [hW]; exact (((Below.refl _ _).alloc (Nat.le_refl _) _).alloc (by simp) _).alloc (by simp; omega) _
  have e0 : W.heap[w.heap.size]? = some (.cells #[.slice a n c] 22 (0, 0)) := by rw [hW]; exact (Below.heap_alloc _ _ _ (by simp; omega)).trans ((Below.heap_alloc _ _ _ (by simp)).trans (World.alloc_heap_new w _))
  have y0 : W.heap[w.heap.size + 1]? = some (eO ⟨[], [], 0, false⟩) := by
    rw [hW]
    refine (Below.heap_alloc _ _ _ (by simp)).trans ?_
    have := World.alloc_heap_new (w.alloc (.cells #[.slice a n c] 22)) (.cells #[.string ⟨#[]⟩, .string ⟨#[]⟩, .int .i64 0, .bool false] 42)
    rw [World.size_alloc] at this
    exact this
  have z0 : W.heap[w.heap.size + 2]? = some (eO ⟨k, [], q, false⟩) := by
    rw [hW]
    have := World.alloc_heap_new ((w.alloc (.cells #[.slice a n c] 22)).alloc (.cells #[.string ⟨#[]⟩, .string ⟨#[]⟩, .int .i64 0, .bool false] 42)) (.cells #[str k, .string ⟨#[]⟩, .int .i64 q, .bool false] 42)
    rw [World.size_alloc, World.size_alloc] at this
    exact this
  have SR : Hid (Calls Tryz.prog 75 #[.int .i64 (n : Int), .func (.func 79) #[] #[.pointer (some ⟨w.heap.size, 0, none⟩), .pointer (some ⟨w.heap.size + 2, 0, none⟩)]] W fun e w' => ∃ r : Nat, e = .returned (.int .i64 (r : Int)) ∧ Hid (r ≤ n ∧ l.dropWhile (fun x => Mm.ahead x ⟨k, [], q, false⟩) = l.drop r) ∧ Below W.heap.size W w') := by
    refine (search_find W n hl _ _ (fun i => if h : i < l.length then !Mm.ahead l[i] ⟨k, [], q, false⟩ else true) ?_ ?_).mono ?_
    · intro i j hij hp
      by_cases hj : j < l.length
      · rw [dif_pos hj]
        rw [dif_pos (by omega)] at hp
        rcases Nat.lt_or_eq_of_le hij with h1 | h1
        · cases hc : Mm.ahead l[j] ⟨k, [], q, false⟩ with
          | false => rfl
          | true =>
            have := Mm.ahead_trans (List.pairwise_iff_getElem.1 hu i j (by omega) hj h1) hc
            rw [this] at hp; cases hp
        · subst h1; exact hp
      · rw [dif_neg hj]
    · intro wx hx i hi
      have hil : i < l.length := by omega
      refine (find_asks wx a c n l ((h.later b0).later hx) hn w.heap.size (w.heap.size + 2) k q (keepC hx (Joins.cell_of_block e0 0)) (keepB hx z0) i hil (by omega)).mono ?_
      rintro e w' ⟨rfl, b⟩
      refine ⟨?_, b⟩
      rw [dif_pos hil]
    · rintro e w' ⟨r, rfl, hr, h1, h2, b⟩
      refine ⟨r, rfl, ⟨hr, drop_ahead _ r (by omega) (fun j hj hjr => ?_) (fun hj => ?_)⟩, b⟩
      · have := h1 j hjr
        rw [dif_pos hj] at this
        simpa using this
      · have := h2 r (Nat.le_refl _) (by omega)
        rw [dif_pos hj] at this
        simpa using this
  have OW : Hid (∀ wx, ∀ x ∈ l, Calls Tryz.prog 80 #[entV x] wx fun e w' => e = .returned (entV x) ∧ Below wx.heap.size wx w') := fun wx x hx => own_e wx x (hk x hx).1 (hk x hx).2
  have HE := hide e0
  have HY := hide y0
  have HB := hide b0
  have HA := hide (h.later b0)
  have HN : Hid (n = l.length) := hn
  have HW : Hid (W = ((w.alloc (.cells #[.slice a n c] 22)).alloc (.cells #[.string ⟨#[]⟩, .string ⟨#[]⟩, .int .i64 0, .bool false] 42)).alloc (.cells #[str k, .string ⟨#[]⟩, .int .i64 q, .bool false] 42)) := hW
  rw [hW] at SR
  clear h hk hu hW e0 y0 z0 b0 hn
  go_enter Tryz.func51, Tryz.ntmps51
  go_wp2_with (fail)
  refine SR.out.mono ?_
  rintro e w1 ⟨r, rfl, HR, b1⟩
  rw [← HW.out] at b1
  clear SR
  have hrn := HR.out.1
  have A1 := hide (HA.out.later b1)
  have E1 := hide (keepB b1 HE.out)
  have y1 := keepB b1 HY.out
  have B1 : Below w.heap.size w w1 := HB.out.trans (b1.mono HB.out.size)
  have x0 : w1.cell? ⟨w.heap.size, 0, none⟩ = some (.slice a n c) := Joins.cell_of_block E1.out 0
  obtain ⟨p0, p1, p2, p3, f0, f1, f2, f3⟩ := slot4 y1
  have HD : Hid (findE l k q = match (l.drop r).head? with | none => none | some x => if x.key = k then some x else none) := by show _ = _; unfold findE; rw [HR.out.2]
  have Y1 := hide y1
  have FIN : Hid (∀ (wx : World) (e : Mm.Ent), wx.heap[w.heap.size + 1]? = some (eO ⟨[], [], 0, false⟩) → Below w.heap.size w wx → (((((wx.setCell ⟨w.heap.size + 1, 0, none⟩ (str e.key)).setCell ⟨w.heap.size + 1, 1, none⟩ (str e.value)).setCell ⟨w.heap.size + 1, 2, none⟩ (.int .i64 e.seq)).setCell ⟨w.heap.size + 1, 3, none⟩ (.bool e.del)).heap[w.heap.size + 1]? = some (eO e) ∧ Below w.heap.size w ((((wx.setCell ⟨w.heap.size + 1, 0, none⟩ (str e.key)).setCell ⟨w.heap.size + 1, 1, none⟩ (str e.value)).setCell ⟨w.heap.size + 1, 2, none⟩ (.int .i64 e.seq)).setCell ⟨w.heap.size + 1, 3, none⟩ (.bool e.del)))) := fun wx e hy hb => by
    have m5 : ∀ (v : World) (i : Nat) (u : Value), Moved (fun j => j = w.heap.size + 1) v (v.setCell ⟨w.heap.size + 1, i, none⟩ u) := fun v i u => Moved.setCell (S := fun j => j = w.heap.size + 1) (Moved.refl _ v) (p := ⟨w.heap.size + 1, i, none⟩) (fun _ => rfl) u
    have m6 := (((m5 wx 0 (str e.key)).trans (m5 _ 1 (str e.value)) (fun _ _ h => h)).trans (m5 _ 2 (.int .i64 e.seq)) (fun _ _ h => h)).trans (m5 _ 3 (.bool e.del)) (fun _ _ h => h)
    exact ⟨(Joins.block_setCell (Joins.block_setCell (Joins.block_setCell (Joins.block_setCell hy _) _) _) _).trans rfl, hb.trans (m6.under hb.size (fun i hi => by omega))⟩
  clear HA HE HY HB HW HR b1 y1
  by_cases hlt : r < n
  · have rl : r < l.length := by have := HN.out; omega
    have hd : (l.drop r).head? = some l[r] := by rw [List.drop_eq_getElem_cons rl]; rfl
    obtain ⟨b, off, rfl⟩ := (A1.out).some (by omega)
    obtain ⟨c0, c1, c2, c3⟩ := A1.out.cells r rl
    have OX := hide (fun wx => OW.out wx l[r] (List.getElem_mem rl))
    rw [hd] at HD
    have r1 : (r : Int) < (n : Int) := by omega
    have r2 : (0 : Int) ≤ (r : Int) := by omega
    have r3 : ((r : Int) == (n : Int)) = false := by simp; omega
    generalize l[r] = x at *
    obtain ⟨K, V, Q, D⟩ := x
    simp only at c0 c1 c2 c3 HD
    clear hd OW A1 HN
    by_cases hkk : K = k
    · subst hkk
      have HF : Hid (findE l K q = some ⟨K, V, Q, D⟩) := by show _ = _; rw [HD.out]; simp
      clear HD
      go_wp2_with (first
        | (go_at_call 80; refine (OX.out _).mono ?_; rintro e w2 ⟨rfl, b2⟩; have y2 := keepB b2 Y1.out; obtain ⟨p0, p1, p2, p3, f0, f1, f2, f3⟩ := slot4 y2; have B2 := B1.trans (b2.mono B1.size); clear OX))
      obtain ⟨F1, F2⟩ := FIN.out w2 ⟨K, V, Q, D⟩ y2 B2
      obtain ⟨t0, t1, t2, t3, _⟩ := slot4 F1
      refine bodyPost_ret (v := foundV (some ⟨K, V, Q, D⟩)) (by simp [results, Tryz.results51, go_sem, t0, t1, t2, t3]) rfl ?_
      rw [HF.out]
      exact ⟨rfl, F2⟩
    · have hb : (!K == k) = true := by simp [hkk]
      have HF : Hid (findE l k q = none) := by show _ = _; rw [HD.out]; simp [hkk]
      clear HD OX
      go_wp2_with (fail)
      obtain ⟨F1, F2⟩ := FIN.out w1 ⟨[], [], 0, false⟩ Y1.out B1
      obtain ⟨t0, t1, t2, t3, _⟩ := slot4 F1
      refine bodyPost_ret (v := foundV none) (by simp [results, Tryz.results51, go_sem, t0, t1, t2, t3]) rfl ?_
      rw [HF.out]
      exact ⟨rfl, F2⟩
  · have e : r = n := by omega
    subst e
    have HF : Hid (findE l k q = none) := by
      show _ = _
      rw [HD.out, List.drop_eq_nil_of_le (by have := HN.out; omega)]
      rfl
    clear HD OW A1
    go_wp2_with (fail)
    obtain ⟨F1, F2⟩ := FIN.out w1 ⟨[], [], 0, false⟩ Y1.out B1
    obtain ⟨t0, t1, t2, t3, _⟩ := slot4 F1
    refine bodyPost_ret (v := foundV none) (by simp [results, Tryz.results51, go_sem, t0, t1, t2, t3]) rfl ?_
    rw [HF.out]
    exact ⟨rfl, F2⟩
end Go.Proofs.YtolalicliojkfaaGreat
