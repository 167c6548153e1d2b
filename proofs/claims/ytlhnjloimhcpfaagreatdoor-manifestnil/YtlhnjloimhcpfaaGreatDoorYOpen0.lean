/-
  Open of a file system that holds no manifest, where all goes well. (Written by wip/gen/open10.py.)
-/
import Derived.Test.YtlhnjloimhcpfaaGreatDoorYBegin
namespace Go.Proofs.YtlhnjloimhcpfaaGreatDoor
open Go.RowKit

/-- A manifest over its file system, beside protected blocks; its own block, and its tables', are among them. -/
structure MfIn (P : Nat → Prop) (base : Nat) (w : World) (c b : Nat) (σ : Vf.St) (f : Mf.Bs) (v : Mf.Vn) (br : Bool) : Prop where
  fs : FsK P base w b σ
  blk : ∃ ta tc, w.heap[c]? = some (mfO c b f (.slice ta v.tabs.length tc) v.log v.seq v.next br) ∧ MtsAt w (.slice ta v.tabs.length tc) v.tabs ∧ (v.tabs ≠ [] → ∀ ad, ta = some ad → P ad.block)
  pc : P c
  new : base ≤ c

section
variable {P : Nat → Prop} {base : Nat}
theorem first_any (w : World) : Calls Tryz.prog 95 #[] w fun e w' => e = .returned (vv (.slice none 0 0) 1 0 1) ∧ Below w.heap.size w w' := by
  have P5 := World.alloc_heap_new w (vO (.slice none 0 0) 1 0 1)
  obtain ⟨q0, q1, q2, q3, _⟩ := slot4 P5
  go_enter Tryz.func95, Tryz.ntmps95
  go_wp2_with (fail)
  refine bodyPost_ret (v := vv (.slice none 0 0) 1 0 1) (by simp [results, Tryz.results95, go_sem]) rfl ?_
  exact ⟨rfl, (Below.refl _ _).alloc (Nat.le_refl _) _⟩

set_option maxRecDepth 100000 in
set_option maxHeartbeats 2000000 in
theorem read_none (w : World) (b : Nat) (σ : Vf.St) (h : FsK P base w b σ) (hs : σ.steps ≤ 90000000) (hm : Vf.findE σ Mf.cur = 4) :
    Calls Tryz.prog 47 #[.pointer (some ⟨b, 0, none⟩)] w fun e w' => e = .returned (.tuple #[vv (.slice none 0 0) 1 0 1, .int .i64 0, .int .i64 0]) ∧ Below w.heap.size w w' := by
  have B0 : Below w.heap.size w (w.alloc (vO (.slice none 0 0) 0 0 0)) := (Below.refl _ _).alloc (Nat.le_refl _) _
  have P0 := hide (World.alloc_heap_new w (vO (.slice none 0 0) 0 0 0))
  have RD : Hid (Calls Tryz.prog 93 #[.pointer (some ⟨b, 0, none⟩), str Mf.cur] (w.alloc (vO (.slice none 0 0) 0 0 0)) fun e w' => ∃ va vn vc, e = .returned (.tuple #[.slice va vn vc, .int .i64 4]) ∧ Below (w.alloc (vO (.slice none 0 0) 0 0 0)).heap.size (w.alloc (vO (.slice none 0 0) 0 0 0)) w') := by
    have := readf_k (h.later B0) hs Mf.cur (by decide)
    rw [hm] at this
    refine this.mono ?_
    rintro e w' ⟨v', rfl, o, b'⟩
    obtain ⟨va, vc, rfl⟩ := row_shp o
    exact ⟨va, _, vc, rfl, b'⟩
  have FV := hide first_any
  unfold Mf.cur at RD
  clear h hs hm
  go_enter Tryz.func47, Tryz.ntmps47
  go_wp2_with (first
    | (go_at_call 93; refine RD.out.mono ?_; rintro e w1 ⟨va, vn, vc, rfl, b1⟩; clear RD)
    | (go_at_call 95; refine (FV.out _).mono ?_; rintro e w2 ⟨rfl, b2⟩; have D2 := hide (b1.trans (b2.mono b1.size)); have p2 := (D2.out.block _ (by simp)).trans P0.out; obtain ⟨y0, y1, y2, y3, u0, u1, u2, u3, lt2⟩ := slot4 p2; have HP2 := hide p2; clear p2 FV))
  obtain ⟨P5, G5⟩ := store4 HP2.out (.slice none 0 0) (.int .i64 1) (.int .i64 0) (.int .i64 1)
  have D1 := B0.trans (D2.out.mono B0.size)
  have B5 : Below w.heap.size w _ := D1.grown G5 D1.size (fun k hk => by cases hk; exact Nat.le_refl _)
  generalize ((((w2.setCell ⟨w.heap.size, 0, none⟩ (.slice none 0 0)).setCell ⟨w.heap.size, 1, none⟩ (.int .i64 1)).setCell ⟨w.heap.size, 2, none⟩ (.int .i64 0)).setCell ⟨w.heap.size, 3, none⟩ (.int .i64 1)) = W5 at P5 B5 ⊢
  obtain ⟨q0, q1, q2, q3, _⟩ := slot4 P5
  refine bodyPost_ret (v := .tuple #[vv (.slice none 0 0) 1 0 1, .int .i64 0, .int .i64 0]) (by simp [results, Tryz.results47, go_sem, q0, q1, q2, q3]) rfl ?_
  exact ⟨rfl, B5⟩

theorem rec_first : (Mf.recB (Mf.fromV Mf.first)).length ≤ 1048576 := by decide +kernel
theorem bnd_first : Mf.bounds (Mf.fromV Mf.first) = true := by decide +kernel

set_option maxRecDepth 100000 in
set_option maxHeartbeats 4000000 in
theorem open_new (w : World) (b : Nat) (σ : Vf.St) (h : FsK P base w b σ) (hs : σ.steps ≤ 30000000) (hm : Vf.findE σ Mf.cur = 4) (hok : Mf.BegOk σ (Mf.nm 1) (frm (Mf.recB (Mf.fromV Mf.first)))) :
    Calls Tryz.prog 10 #[.pointer (some ⟨b, 0, none⟩)] w fun e w' => ∃ c Q, e = .returned (.tuple #[.pointer (some ⟨c, 0, none⟩), .int .i64 0]) ∧ MfIn Q base w' c b (Mf.b5 σ (Mf.nm 1) (frm (Mf.recB (Mf.fromV Mf.first)))) (Mf.nm 1) Mf.first false ∧ (∀ i, P i → Q i) ∧ Kp P base w w' := by
  have RD := read_none w b σ h (by omega) hm
  have NM : Hid (∀ wx, Calls Tryz.prog 48 #[.int .i64 1] wx fun e w' => e = .returned (str (Mf.nm 1)) ∧ Below wx.heap.size wx w') := fun wx => nameOf_any wx 1 (by decide)
  have BG : Hid (∀ wx, Below w.heap.size w wx → Calls Tryz.prog 49 #[.pointer (some ⟨wx.heap.size, 0, none⟩)] (wx.alloc (mfO wx.heap.size b (Mf.nm 1) (.slice none 0 0) 1 0 1 false)) fun e w' => e = .returned (.int .i64 0) ∧ (∃ Q, MfIn Q base w' wx.heap.size b (Mf.b5 σ (Mf.nm 1) (frm (Mf.recB (Mf.fromV Mf.first)))) (Mf.nm 1) Mf.first false ∧ (∀ i, P i → Q i)) ∧ Kp P base w w') := fun wx hx => by
    have bx : Below w.heap.size w (wx.alloc (mfO wx.heap.size b (Mf.nm 1) (.slice none 0 0) 1 0 1 false)) := hx.trans ((Below.refl w.heap.size wx).alloc hx.size _)
    have fk := h.add bx
    have hp : (fun i => P i ∨ (w.heap.size ≤ i ∧ i < (wx.alloc (mfO wx.heap.size b (Mf.nm 1) (.slice none 0 0) 1 0 1 false)).heap.size)) wx.heap.size := .inr ⟨hx.size, by simp⟩
    have hc := World.alloc_heap_new wx (mfO wx.heap.size b (Mf.nm 1) (.slice none 0 0) 1 0 1 false)
    refine (begin_ok _ b wx.heap.size σ (Mf.nm 1) none 0 Mf.first false fk hc hp (MtsAt.nil _ _ _) (by decide) bnd_first rec_first (by decide) hs hok).mono ?_
    rintro e w' ⟨rfl, f1, k1⟩
    refine ⟨rfl, ⟨_, ⟨f1, ⟨none, 0, (k1.keep _ hp).trans hc, MtsAt.nil _ _ _, fun h0 => absurd rfl h0⟩, hp, Nat.le_trans h.low hx.size⟩, fun i hi => .inl hi⟩, (h.kp bx).trans (k1.narrow (fun i hi => .inl hi))⟩
  generalize Mf.b5 σ (Mf.nm 1) (frm (Mf.recB (Mf.fromV Mf.first))) = τ at BG ⊢
  generalize Mf.nm 1 = f at NM BG ⊢
  have w11 : IntKind.i64.wrap 1 = 1 := by decide
  clear h hs hm hok
  go_enter Tryz.func10, Tryz.ntmps10
  go_wp2_with (go_at_call 47; refine RD.mono ?_; rintro e w1 ⟨rfl, b1⟩; clear RD)
  obtain ⟨W1, hW1⟩ : ∃ W1, W1 = w1.alloc (vO (.slice none 0 0) 1 0 1) := ⟨_, rfl⟩
  have HW1 := hide hW1
  have p1 : W1.heap[w1.heap.size]? = some (vO (.slice none 0 0) 1 0 1) := by rw [hW1]; exact World.alloc_heap_new w1 _
  have B1 : Below w.heap.size w W1 := by rw [hW1]; exact b1.trans ((Below.refl _ _).alloc b1.size _)
  have KS : Hid (∀ wx, Below W1.heap.size W1 wx → wx.cell? ⟨w1.heap.size, 0, none⟩ = some (.slice none 0 0) ∧ wx.cell? ⟨w1.heap.size, 1, none⟩ = some (.int .i64 1) ∧ wx.cell? ⟨w1.heap.size, 2, none⟩ = some (.int .i64 0) ∧ wx.cell? ⟨w1.heap.size, 3, none⟩ = some (.int .i64 1)) := fun wx hx => by
    obtain ⟨q0, q1, q2, q3, _⟩ := slot4 ((hx.block _ (Array.getElem?_eq_some_iff.1 p1).1).trans p1)
    exact ⟨q0, q1, q2, q3⟩
  have P0 := KS.out _ (Below.refl _ W1).drew
  rw [← hW1]
  clear hW1 p1
  refine wp_region_held_drew (S := (fun wx => wx.cell? ⟨w1.heap.size, 0, none⟩ = some (.slice none 0 0) ∧ wx.cell? ⟨w1.heap.size, 1, none⟩ = some (.int .i64 1) ∧ wx.cell? ⟨w1.heap.size, 2, none⟩ = some (.int .i64 0) ∧ wx.cell? ⟨w1.heap.size, 3, none⟩ = some (.int .i64 1))) (by kernel_rfl) P0 (fun hHeld => ?_)
  refine takeH (oi := ?oih1) 0 21 (.pointer (some ⟨b, 0, none⟩)) ?hih1 ?hdh1 ?hwh1 ?hyh1 (by kernel_rfl) (by kernel_rfl) (by kernel_rfl) ?hQh1 (by assumption) ?_
  case hih1 => simp only [List.getElem?_toArray, List.getElem?_cons_zero]; rfl
  case hdh1 => rfl
  case hwh1 => rfl
  case hyh1 => (intro w hSw; (try dsimp only at hSw); go_simp)
  case hQh1 => exact fun _ _ _ h => h
  simp only [Act.put, List.setIfInBounds_toArray, List.set_cons_zero, List.set_cons_succ]
  refine takeH (oi := ?oih2) 1 22 (.int .i64 0) ?hih2 ?hdh2 ?hwh2 ?hyh2 (by kernel_rfl) (by kernel_rfl) (by kernel_rfl) ?hQh2 (by assumption) ?_
  case hih2 => simp only [List.getElem?_toArray, List.getElem?_cons_zero, List.getElem?_cons_succ]; rfl
  case hdh2 => rfl
  case hwh2 => rfl
  case hyh2 => (intro w hSw; (try dsimp only at hSw); go_simp)
  case hQh2 => exact fun _ _ _ h => h
  simp only [Act.put, List.setIfInBounds_toArray, List.set_cons_zero, List.set_cons_succ]
  refine takeH (oi := ?oih3) 2 23 (.int .i64 1) ?hih3 ?hdh3 ?hwh3 ?hyh3 (by kernel_rfl) (by kernel_rfl) (by kernel_rfl) ?hQh3 (by assumption) ?_
  case hih3 => simp only [List.getElem?_toArray, List.getElem?_cons_zero, List.getElem?_cons_succ]; rfl
  case hdh3 => rfl
  case hwh3 => rfl
  case hyh3 => (intro w hSw; (try dsimp only at hSw); go_simp)
  case hQh3 => exact fun _ _ _ h => h
  simp only [Act.put, List.setIfInBounds_toArray, List.set_cons_zero, List.set_cons_succ]
  refine takeH (oi := ?oih4) 4 25 (.agg #[.slice none 0 0, .int .i64 1, .int .i64 0, .int .i64 1]) ?hih4 ?hdh4 ?hwh4 ?hyh4 (by kernel_rfl) (by kernel_rfl) (by kernel_rfl) ?hQh4 (by assumption) ?_
  case hih4 => simp only [List.getElem?_toArray, List.getElem?_cons_zero, List.getElem?_cons_succ]; rfl
  case hdh4 => rfl
  case hwh4 => rfl
  case hyh4 => (intro w hSw; (try dsimp only at hSw); go_simp)
  case hQh4 => exact fun _ _ _ h => h
  simp only [Act.put, List.setIfInBounds_toArray, List.set_cons_zero, List.set_cons_succ]
  refine wpAnyH_ready (rs := [3]) (by kernel_rfl) (by simp) ?_
  refine AllReadyH.cons rfl (fun KK hK => ?_) AllReadyH.nil
  go_simp
  refine (NM.out _).mono ?_
  rintro r w2 ⟨rfl, b2⟩
  have D2 : Below W1.heap.size W1 w2 := (Below.refl _ _).drew.trans b2
  go_wp2_with (fail)
  refine hK.out _ _ (KS.out _ D2) (fun hHeld => ?_)
  clear hK KK
  refine takeH (oi := ?oih5) 5 26 (.agg #[.pointer none, .pointer (some ⟨b, 0, none⟩), str f, .slice none 0 0, .int .i64 1, .int .i64 0, .int .i64 1, .bool false]) ?hih5 ?hdh5 ?hwh5 ?hyh5 (by kernel_rfl) (by kernel_rfl) (by kernel_rfl) ?hQh5 (by assumption) ?_
  case hih5 => simp only [List.getElem?_toArray, List.getElem?_cons_zero, List.getElem?_cons_succ]; rfl
  case hdh5 => rfl
  case hwh5 => rfl
  case hyh5 => (intro w hSw; (try dsimp only at hSw); go_simp)
  case hQh5 => exact fun _ _ _ h => h
  simp only [Act.put, List.setIfInBounds_toArray, List.set_cons_zero, List.set_cons_succ]
  refine wpAnyH_ready (rs := [6]) (by kernel_rfl) (by simp) ?_
  refine AllReadyH.cons rfl (fun KK hK => ?_) AllReadyH.nil
  go_simp
  go_wp2_with (fail)
  have F3 := KS.out _ (D2.trans ((Below.refl W1.heap.size w2).alloc D2.size (.cells #[.pointer none, .pointer (some ⟨b, 0, none⟩), str f, .slice none 0 0, .int .i64 1, .int .i64 0, .int .i64 1, .bool false] 79)))
  refine hK.out _ _ F3 (fun hHeld => ?_)
  clear hK KK
  refine takeH (oi := ?oih6) 7 7 (.pointer (some ⟨w2.heap.size, 0, none⟩)) ?hih6 ?hdh6 ?hwh6 ?hyh6 (by kernel_rfl) (by kernel_rfl) (by kernel_rfl) ?hQh6 (by assumption) ?_
  case hih6 => simp only [List.getElem?_toArray, List.getElem?_cons_zero, List.getElem?_cons_succ]; rfl
  case hdh6 => rfl
  case hwh6 => rfl
  case hyh6 => (intro w hSw; (try dsimp only at hSw); go_simp)
  case hQh6 => exact fun _ _ _ h => h
  simp only [Act.put, List.setIfInBounds_toArray, List.set_cons_zero, List.set_cons_succ]
  refine wpAnyH_done (by kernel_rfl) ?_ _
  have E2 := B1.trans (D2.mono B1.size)
  clear KS P0 F3 hHeld NM
  go_wp2_with (go_at_call 49; refine (BG.out w2 E2).mono ?_; rintro r w3 ⟨rfl, M3, k3⟩; clear BG)
  go_ret2
  obtain ⟨Q, M3, hQ⟩ := M3
  exact ⟨_, Q, rfl, M3, hQ, k3⟩
end
end Go.Proofs.YtlhnjloimhcpfaaGreatDoor
