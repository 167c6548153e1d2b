/-
  An entry with texts of its own: the call answers the same entry, and leaves all that was there as it was. .. and what follows from it.
-/
import Derived.Test.YtbdgdigpnfpnhaaJMem
import Derived.Test.YtbdgdigpnfpnhaaKS
import Derived.Laws.Bits64
import Derived.Laws.BitsAllLaws
namespace Go.Proofs.Ytbdgdigpnfpnhaa.Q
open Go.RowKit

theorem setCell_id {w : World} {g i : Nat} {cs : Array Value} {t : TypeId} {v : Value} (hb : w.heap[g]? = some (.cells cs t (0, 0))) (hv : cs[i]? = some v) : w.setCell ⟨g, i, none⟩ v = w := by
  have hg := (Array.getElem?_eq_some_iff.1 hb).1
  have hi := (Array.getElem?_eq_some_iff.1 hv).1
  have hc : cs.setIfInBounds i v = cs := by
    apply Array.ext_getElem?
    intro l
    by_cases hl : i = l
    · subst hl; rw [Array.getElem?_setIfInBounds_self_of_lt hi, hv]
    · rw [Array.getElem?_setIfInBounds_ne hl]
  have h1 := heap_setCell_same w g i cs t v hb
  rw [hc] at h1
  have h2 : (w.setCell ⟨g, i, none⟩ v).heap = w.heap := by
    apply Array.ext_getElem?
    intro l
    by_cases hl : l = g
    · subst hl; rw [h1, hb]
    · exact heap_setCell_other w _ l v hl
  have h3 : w.setCell ⟨g, i, none⟩ v = { w with heap := (w.setCell ⟨g, i, none⟩ v).heap } := rfl
  rw [h3, h2]

theorem sclone_any (w : World) (s : Mm.Bs) (h : s.length ≤ 1000000) : Calls Try.prog 41 #[str s] w fun e w' => e = .returned (str s) ∧ Below w.heap.size w w' := by
  have C := Try.stringslite_Clone ⟨s.toArray⟩ w (by show s.toArray.size ≤ _; simp; omega)
  clear h
  go_enter Try.func41, Try.ntmps41
  go_wp2_with (go_at_call 72; refine C.mono ?_; rintro e w1 ⟨rfl, b1⟩)
  go_ret
  exact ⟨rfl, b1⟩

abbrev entO (e : Mm.Ent) : Obj := .cells #[str e.key, str e.value, .int .i64 e.seq, .bool e.del] 38 (0, 0)
set_option maxRecDepth 100000 in
set_option maxHeartbeats 4000000 in
theorem own_e (w : World) (e : Mm.Ent) (hk : e.key.length ≤ 1000000) (hv : e.value.length ≤ 1000000) : Calls Try.prog 63 #[entV e] w fun r w' => r = .returned (entV e) ∧ Below w.heap.size w w' := by
  have SC : Hid (∀ wx (s : Mm.Bs), s.length ≤ 1000000 → Calls Try.prog 41 #[str s] wx fun e w' => e = .returned (str s) ∧ Below wx.heap.size wx w') := fun wx s hs => sclone_any wx s hs
  obtain ⟨W, hW⟩ : ∃ W, W = (w.alloc (.cells #[str e.key, str e.value, .int .i64 e.seq, .bool e.del] 38)).alloc (.cells #[.string ⟨#[]⟩, .string ⟨#[]⟩, .int .i64 0, .bool false] 38) := ⟨_, rfl⟩
  have b0 : Below w.heap.size w W := by rw [hW]; exact ((Below.refl _ _).alloc (Nat.le_refl _) _).alloc (by simp) _
  have e0 : W.heap[w.heap.size]? = some (entO e) := by rw [hW]; exact (Below.heap_alloc _ _ _ (by simp)).trans (World.alloc_heap_new w _)
  have y0 : W.heap[w.heap.size + 1]? = some (entO ⟨[], [], 0, false⟩) := by
    rw [hW]
    have := World.alloc_heap_new (w.alloc (.cells #[str e.key, str e.value, .int .i64 e.seq, .bool e.del] 38)) (.cells #[.string ⟨#[]⟩, .string ⟨#[]⟩, .int .i64 0, .bool false] 38)
    rw [World.size_alloc] at this
    exact this
  have HE := hide e0
  have HY := hide y0
  have HB := hide b0
  obtain ⟨K, V, Q, D⟩ := e
  have HW : Hid (W = (w.alloc (.cells #[str K, str V, .int .i64 Q, .bool D] 38)).alloc (.cells #[.string ⟨#[]⟩, .string ⟨#[]⟩, .int .i64 0, .bool false] 38)) := hW
  simp only at hk hv
  clear hW e0 y0 b0
  go_enter Try.func63, Try.ntmps63
  go_wp2_with (fail)
  rw [← HW.out]
  have EH : Hid (∀ wx, Below W.heap.size W wx → wx.heap[w.heap.size]? = some (entO ⟨K, V, Q, D⟩) ∧ wx.cell? ⟨w.heap.size, 0, none⟩ = some (str K) ∧ wx.cell? ⟨w.heap.size, 1, none⟩ = some (str V) ∧ wx.frozen? ⟨w.heap.size, 0, none⟩ = false ∧ wx.frozen? ⟨w.heap.size, 1, none⟩ = false) := fun wx hw => by
    have := keepB hw HE.out
    exact ⟨this, Joins.cell_of_block this 0, Joins.cell_of_block this 1, Joins.unfrozen_of_block this 0, Joins.unfrozen_of_block this 1⟩
  have D3 : Below W.heap.size W W.drew := (Below.refl _ _).drew
  have P1 := EH.out _ D3
  go_region_held3 (fun w' => w'.heap[w.heap.size]? = some (entO ⟨K, V, Q, D⟩) ∧ w'.cell? ⟨w.heap.size, 0, none⟩ = some (str K) ∧ w'.cell? ⟨w.heap.size, 1, none⟩ = some (str V) ∧ w'.frozen? ⟨w.heap.size, 0, none⟩ = false ∧ w'.frozen? ⟨w.heap.size, 1, none⟩ = false)
    (first | exact P1 | exact P2 | exact P3 | (rw [q0]; exact P3) | (rw [q1]; exact P3) | (rw [q0, q1]; exact P3) | (rw [q1, q0]; exact P3))
    (first
      | (go_at_call 41; have g := D3; refine (SC.out _ _ (by first | exact hk | exact hv)).mono ?_; rintro r w4 ⟨rfl, b4⟩; have D4 := D3.trans (b4.mono D3.size); have P2 := EH.out _ D4; clear D3 g)
      | (go_at_call 41; have g := D4; refine (SC.out _ _ (by first | exact hk | exact hv)).mono ?_; rintro r w5 ⟨rfl, b5⟩; have D5 := D4.trans (b5.mono D4.size); have P3 := EH.out _ D5; have q0 : w5.setCell ⟨w.heap.size, 0, none⟩ (str K) = w5 := setCell_id P3.1 rfl; have q1 : w5.setCell ⟨w.heap.size, 1, none⟩ (str V) = w5 := setCell_id P3.1 rfl; clear D4 g))
  have e5 := P3.1
  have y5 := keepB D5 HY.out
  obtain ⟨c0, c1, c2, c3⟩ : w5.cell? ⟨w.heap.size, 0, none⟩ = some (str K) ∧ w5.cell? ⟨w.heap.size, 1, none⟩ = some (str V) ∧ w5.cell? ⟨w.heap.size, 2, none⟩ = some (.int .i64 Q) ∧ w5.cell? ⟨w.heap.size, 3, none⟩ = some (.bool D) := ⟨Joins.cell_of_block e5 0, Joins.cell_of_block e5 1, Joins.cell_of_block e5 2, Joins.cell_of_block e5 3⟩
  obtain ⟨x0, x1, x2, x3⟩ : w5.cell? ⟨w.heap.size + 1, 0, none⟩ = some (str []) ∧ w5.cell? ⟨w.heap.size + 1, 1, none⟩ = some (str []) ∧ w5.cell? ⟨w.heap.size + 1, 2, none⟩ = some (.int .i64 0) ∧ w5.cell? ⟨w.heap.size + 1, 3, none⟩ = some (.bool false) := ⟨Joins.cell_of_block y5 0, Joins.cell_of_block y5 1, Joins.cell_of_block y5 2, Joins.cell_of_block y5 3⟩
  have u0 := Joins.unfrozen_of_block y5 0
  have u1 := Joins.unfrozen_of_block y5 1
  have u2 := Joins.unfrozen_of_block y5 2
  have u3 := Joins.unfrozen_of_block y5 3
  have Y5 := hide y5
  have B5 : Below w.heap.size w w5 := HB.out.trans (D5.mono HB.out.size)
  clear P1 P2 P3 q0 q1 D5 EH SC e5 y5 HE HY b4 b5
  go_wp2_with (fail)
  have z5 : ((((w5.setCell ⟨w.heap.size + 1, 0, none⟩ (str K)).setCell ⟨w.heap.size + 1, 1, none⟩ (str V)).setCell ⟨w.heap.size + 1, 2, none⟩ (.int .i64 Q)).setCell ⟨w.heap.size + 1, 3, none⟩ (.bool D)).heap[w.heap.size + 1]? = some (entO ⟨K, V, Q, D⟩) := (Joins.block_setCell (Joins.block_setCell (Joins.block_setCell (Joins.block_setCell Y5.out _) _) _) _).trans rfl
  have m5 : ∀ (v : World) (i : Nat) (u : Value), Moved (fun j => j = w.heap.size + 1) v (v.setCell ⟨w.heap.size + 1, i, none⟩ u) := fun v i u => Moved.setCell (S := fun j => j = w.heap.size + 1) (Moved.refl _ v) (p := ⟨w.heap.size + 1, i, none⟩) (fun _ => rfl) u
  have m6 := (((m5 w5 0 (str K)).trans (m5 _ 1 (str V)) (fun _ _ h => h)).trans (m5 _ 2 (.int .i64 Q)) (fun _ _ h => h)).trans (m5 _ 3 (.bool D)) (fun _ _ h => h)
  have B6 := B5.trans (m6.under B5.size (fun i hi => by omega))
  have t0 := Joins.cell_of_block z5 0
  have t1 := Joins.cell_of_block z5 1
  have t2 := Joins.cell_of_block z5 2
  have t3 := Joins.cell_of_block z5 3
  refine bodyPost_ret (v := entV ⟨K, V, Q, D⟩) (by simp [results, Try.results63, go_sem, t0, t1, t2, t3]) rfl ?_
  exact ⟨rfl, B6⟩
end Go.Proofs.Ytbdgdigpnfpnhaa.Q
namespace Go.Proofs.Ytbdgdigpnfpnhaa.Q
open Go.RowKit

end Go.Proofs.Ytbdgdigpnfpnhaa.Q
