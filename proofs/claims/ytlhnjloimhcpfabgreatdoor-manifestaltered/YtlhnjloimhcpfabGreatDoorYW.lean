/-
  Open of a file system that holds a manifest: where all goes well, and where it can't be read. (Written by wip/gen/opent10.py.) .. and what follows from it.
-/
import Derived.Test.YtlhnjloimhcpfabGreatDoorYU
import Derived.Test.YtlhnjloimhcpfabGreatDoorYQ
import Derived.Test.YtlhnjloimhcpfabGreatDoorYK
namespace Go.Proofs.YtlhnjloimhcpfabGreatDoor
open Go.RowKit

section
variable {P : Nat → Prop} {base : Nat}
theorem MfIn.after {w w' : World} {c b : Nat} {σ τ : Vf.St} {f : Mf.Bs} {v : Mf.Vn} {br : Bool} (h : MfIn P base w c b σ f v br) (hf : FsK P base w' b τ) (hk : Kp P base w w') : MfIn P base w' c b τ f v br := by
  obtain ⟨ta, tc, h1, h2, h3⟩ := h.blk
  exact ⟨hf, ⟨ta, tc, (hk.keep _ h.pc).trans h1, mts_same h2 (fun h0 ad e => hk.keep _ (h3 h0 ad e)), h3⟩, h.pc, h.new⟩

set_option maxRecDepth 100000 in
set_option maxHeartbeats 400000 in
/-- What is written down can't be read: so says Open. -/
theorem open_bad (w : World) (b : Nat) (E : Int) (h0 : E ≠ 0) (RD : Calls Tryz.prog 19 #[.pointer (some ⟨b, 0, none⟩)] w fun e w' => ∃ k, e = .returned (.tuple #[vv (.slice none 0 0) 0 0 0, .int .i64 k, .int .i64 E]) ∧ Below w.heap.size w w') :
    Calls Tryz.prog 6 #[.pointer (some ⟨b, 0, none⟩)] w fun e w' => e = .returned (.tuple #[.pointer none, .int .i64 E]) ∧ Below w.heap.size w w' := by
  have HR := hide RD
  have e0 : (E == 0) = false := by simpa using h0
  clear RD h0
  go_enter Tryz.func6, Tryz.ntmps6
  go_wp2_with (go_at_call 19; refine HR.out.mono ?_; rintro e w1 ⟨k, rfl, b1⟩; clear HR)
  go_ret2
  exact ⟨rfl, b1.trans ((Below.refl _ _).alloc b1.size _)⟩

set_option maxRecDepth 100000 in
set_option maxHeartbeats 4000000 in
theorem open_there (w : World) (b : Nat) (σ : Vf.St) (h : FsK P base w b σ) (hs : σ.steps ≤ 30000000) (k : Nat) (h1 : 1 ≤ k) (h2 : k < 99) (hm : Vf.findE σ Mf.cur = 0) (hc : Vf.read σ Mf.cur = frm (Mf.nm k)) (hf : Vf.findE σ (Mf.nm k) = 0) (hL : (Vf.read σ (Mf.nm k)).length ≤ 1000000000) (v : Mf.Vn) (hv : Mf.fileV (Vf.read σ (Mf.nm k)) = some v) (hvb : Mf.bounds (Mf.fromV v) = true) (hvl : v.tabs.length ≤ 1024) (hvr : (Mf.recB (Mf.fromV v)).length ≤ 1048576)
    (hok : Mf.BegOk σ (Mf.nm (k + 1)) (frm (Mf.recB (Mf.fromV v)))) (hs2 : (Mf.b5 σ (Mf.nm (k + 1)) (frm (Mf.recB (Mf.fromV v)))).steps ≤ 90000000) (hrm : Vf.removeE (Mf.b5 σ (Mf.nm (k + 1)) (frm (Mf.recB (Mf.fromV v)))) (Mf.nm k) = 0) :
    Calls Tryz.prog 6 #[.pointer (some ⟨b, 0, none⟩)] w fun e w' => ∃ c Q, e = .returned (.tuple #[.pointer (some ⟨c, 0, none⟩), .int .i64 0]) ∧ MfIn Q base w' c b (Vf.remove (Mf.b5 σ (Mf.nm (k + 1)) (frm (Mf.recB (Mf.fromV v)))) (Mf.nm k)) (Mf.nm (k + 1)) v false ∧ (∀ i, P i → Q i) ∧ Kp P base w w' := by
  obtain ⟨N, hN⟩ : ∃ N, N = v.tabs.length := ⟨_, rfl⟩
  have RD : Hid (Calls Tryz.prog 19 #[.pointer (some ⟨b, 0, none⟩)] w fun e w' => ∃ ta tc, e = .returned (.tuple #[vv (.slice ta N tc) v.log v.seq v.next, .int .i64 (k : Int), .int .i64 0]) ∧ Hid (w'.ownsRow w.heap.size 43 5 (.slice ta N tc) N (mcs v.tabs)) ∧ Below w.heap.size w w') := by
    refine (read_there w b σ h (by omega) k h1 (by omega) hm hc hf hL).mono ?_
    rintro e w' ⟨ta, tn, tc, lo, se, ne, E, rfl, ho, bb⟩
    rcases ho.out with ⟨u, h1, rfl, rfl, rfl, rfl, rfl, o⟩ | ⟨h1, _⟩
    · rw [hv] at h1
      obtain rfl := Option.some.inj h1
      rw [hN]
      exact ⟨ta, tc, rfl, o, bb⟩
    · rw [hv] at h1; cases h1
  have NM1 : Hid (∀ wx, Calls Tryz.prog 20 #[.int .i64 ((k : Int) + 1)] wx fun e w' => e = .returned (str (Mf.nm (k + 1))) ∧ Below wx.heap.size wx w') := fun wx => by
    have := nameOf_any wx (k + 1) (by omega)
    rw [show (((k + 1 : Nat)) : Int) = (k : Int) + 1 by omega] at this
    exact this
  have NM0 : Hid (∀ wx, Calls Tryz.prog 20 #[.int .i64 (k : Int)] wx fun e w' => e = .returned (str (Mf.nm k)) ∧ Below wx.heap.size wx w') := fun wx => nameOf_any wx k (by omega)
  obtain ⟨τ, hτ⟩ : ∃ τ, τ = Mf.b5 σ (Mf.nm (k + 1)) (frm (Mf.recB (Mf.fromV v))) := ⟨_, rfl⟩
  rw [← hτ] at hs2 hrm
  have BG : Hid (∀ wx ta tc, Below w.heap.size w wx → Hid (wx.ownsRow w.heap.size 43 5 (.slice ta N tc) N (mcs v.tabs)) → Calls Tryz.prog 21 #[.pointer (some ⟨wx.heap.size, 0, none⟩)] (wx.alloc (mfO wx.heap.size b (Mf.nm (k + 1)) (.slice ta N tc) v.log v.seq v.next false)) fun e w' => e = .returned (.int .i64 0) ∧ Hid (∃ Q, MfIn Q base w' wx.heap.size b τ (Mf.nm (k + 1)) v false ∧ (∀ i, P i → Q i) ∧ Kp P base w w')) := fun wx ta tc hx ho => by
    subst hN
    have bx : Below w.heap.size w (wx.alloc (mfO wx.heap.size b (Mf.nm (k + 1)) (.slice ta v.tabs.length tc) v.log v.seq v.next false)) := hx.trans ((Below.refl w.heap.size wx).alloc hx.size _)
    have fk := h.add bx
    have hp : (fun i => P i ∨ (w.heap.size ≤ i ∧ i < (wx.alloc (mfO wx.heap.size b (Mf.nm (k + 1)) (.slice ta v.tabs.length tc) v.log v.seq v.next false)).heap.size)) wx.heap.size := .inr ⟨hx.size, by simp⟩
    have hc := World.alloc_heap_new wx (mfO wx.heap.size b (Mf.nm (k + 1)) (.slice ta v.tabs.length tc) v.log v.seq v.next false)
    have ho' := ho.out.alloc (mfO wx.heap.size b (Mf.nm (k + 1)) (.slice ta v.tabs.length tc) v.log v.seq v.next false)
    have mt := MtsAt.own (l := v.tabs) ho'
    have tb : v.tabs ≠ [] → ∀ ad, ta = some ad → (fun i => P i ∨ (w.heap.size ≤ i ∧ i < (wx.alloc (mfO wx.heap.size b (Mf.nm (k + 1)) (.slice ta v.tabs.length tc) v.log v.seq v.next false)).heap.size)) ad.block := fun _ ad e => by
      subst e
      have := ho'.lt ad.block rfl
      exact .inr this
    refine (begin_ok _ b wx.heap.size σ (Mf.nm (k + 1)) ta tc v false fk hc hp mt hvl hvb hvr (by rw [Mf.nm_length]; decide) hs hok).mono ?_
    rintro e w' ⟨rfl, f1, k1⟩
    rw [← hτ] at f1
    refine ⟨rfl, ⟨_, ⟨f1, ⟨ta, tc, (k1.keep _ hp).trans hc, mts_same mt (fun h0 ad e => k1.keep _ (tb h0 ad e)), tb⟩, hp, Nat.le_trans h.low hx.size⟩, fun i hi => .inl hi, (h.kp bx).trans (k1.narrow (fun i hi => .inl hi))⟩⟩
  have RM : Hid (∀ wx c, Hid (∃ Q, MfIn Q base wx c b τ (Mf.nm (k + 1)) v false ∧ (∀ i, P i → Q i) ∧ Kp P base w wx) → Calls Tryz.prog 22 #[.pointer (some ⟨b, 0, none⟩), str (Mf.nm k)] wx fun e w' => e = .returned (.int .i64 0) ∧ Hid (∃ Q, MfIn Q base w' c b (Vf.remove τ (Mf.nm k)) (Mf.nm (k + 1)) v false ∧ (∀ i, P i → Q i) ∧ Kp P base w w')) := fun wx c hq => by
    obtain ⟨Q, m1, q1, k1⟩ := hq.out
    have := remove_k m1.fs hs2 (Mf.nm k) (by rw [Mf.nm_length]; decide)
    rw [hrm] at this
    refine this.mono ?_
    rintro e w' ⟨rfl, f2, k2⟩
    exact ⟨rfl, ⟨Q, m1.after f2 k2, q1, k1.trans (k2.narrow q1)⟩⟩
  have RL : Hid (∀ wx wy ta tc, wx.ownsRow w.heap.size 43 5 (.slice ta N tc) N (mcs v.tabs) → Below wx.heap.size wx wy → wy.ownsRow w.heap.size 43 5 (.slice ta N tc) N (mcs v.tabs)) := fun wx wy ta tc ho hb => ho.kept (row := none) ⟨hb.os, hb.tape, hb.output, hb.size, fun i hi _ => hb.block i hi⟩ (none_kept _)
  rw [← hτ]
  generalize Vf.remove τ (Mf.nm k) = τ2 at RM ⊢
  generalize Mf.nm (k + 1) = f at NM1 BG RM ⊢
  generalize Mf.nm k = f0 at NM0 RM
  have wk : IntKind.i64.wrap ((k : Int) + 1) = (k : Int) + 1 := by rw [IntKind.wrap_i64]; omega
  have ik : ((k : Int) == 999999) = false := by simp; omega
  have i0 : ((k : Int) == 0) = false := by simp; omega
  clear h hs hm hc hf hL hv hvb hvl hvr hok hs2 hrm hτ hN h1 h2
  go_enter Tryz.func6, Tryz.ntmps6
  go_wp2_with (go_at_call 19; refine RD.out.mono ?_; rintro e w1 ⟨ta, tc, rfl, HO, b1⟩; clear RD)
  obtain ⟨W1, hW1⟩ : ∃ W1, W1 = w1.alloc (vO (.slice ta N tc) v.log v.seq v.next) := ⟨_, rfl⟩
  have HW1 := hide hW1
  have p1 : W1.heap[w1.heap.size]? = some (vO (.slice ta N tc) v.log v.seq v.next) := by rw [hW1]; exact World.alloc_heap_new w1 _
  have B1 : Below w.heap.size w W1 := by rw [hW1]; exact b1.trans ((Below.refl _ _).alloc b1.size _)
  have HO1 : Hid (W1.ownsRow w.heap.size 43 5 (.slice ta N tc) N (mcs v.tabs)) := by show World.ownsRow _ _ _ _ _ _ _; rw [hW1]; exact HO.out.alloc _
  have KS : Hid (∀ wx, Below W1.heap.size W1 wx → wx.cell? ⟨w1.heap.size, 0, none⟩ = some (.slice ta N tc) ∧ wx.cell? ⟨w1.heap.size, 1, none⟩ = some (.int .i64 v.log) ∧ wx.cell? ⟨w1.heap.size, 2, none⟩ = some (.int .i64 v.seq) ∧ wx.cell? ⟨w1.heap.size, 3, none⟩ = some (.int .i64 v.next)) := fun wx hx => by
    obtain ⟨q0, q1, q2, q3, _⟩ := slot4 ((hx.block _ (Array.getElem?_eq_some_iff.1 p1).1).trans p1)
    exact ⟨q0, q1, q2, q3⟩
  have P0 := KS.out _ (Below.refl _ W1).drew
  rw [← hW1]
  clear hW1 p1 HO
  refine wp_region_held_drew (S := (fun wx => wx.cell? ⟨w1.heap.size, 0, none⟩ = some (.slice ta N tc) ∧ wx.cell? ⟨w1.heap.size, 1, none⟩ = some (.int .i64 v.log) ∧ wx.cell? ⟨w1.heap.size, 2, none⟩ = some (.int .i64 v.seq) ∧ wx.cell? ⟨w1.heap.size, 3, none⟩ = some (.int .i64 v.next))) (by kernel_rfl) P0 (fun hHeld => ?_)
  refine takeH (oi := ?oih1) 0 21 (.pointer (some ⟨b, 0, none⟩)) ?hih1 ?hdh1 ?hwh1 ?hyh1 (by kernel_rfl) (by kernel_rfl) (by kernel_rfl) ?hQh1 (by assumption) ?_
  case hih1 => simp only [List.getElem?_toArray, List.getElem?_cons_zero]; rfl
  case hdh1 => rfl
  case hwh1 => rfl
  case hyh1 => (intro w hSw; (try dsimp only at hSw); go_simp)
  case hQh1 => exact fun _ _ _ h => h
  simp only [Act.put, List.setIfInBounds_toArray, List.set_cons_zero, List.set_cons_succ]
  refine takeH (oi := ?oih2) 1 22 (.int .i64 (k : Int)) ?hih2 ?hdh2 ?hwh2 ?hyh2 (by kernel_rfl) (by kernel_rfl) (by kernel_rfl) ?hQh2 (by assumption) ?_
  case hih2 => simp only [List.getElem?_toArray, List.getElem?_cons_zero, List.getElem?_cons_succ]; rfl
  case hdh2 => rfl
  case hwh2 => rfl
  case hyh2 => (intro w hSw; (try dsimp only at hSw); go_simp)
  case hQh2 => exact fun _ _ _ h => h
  simp only [Act.put, List.setIfInBounds_toArray, List.set_cons_zero, List.set_cons_succ]
  refine takeH (oi := ?oih3) 2 23 (.int .i64 ((k : Int) + 1)) ?hih3 ?hdh3 ?hwh3 ?hyh3 (by kernel_rfl) (by kernel_rfl) (by kernel_rfl) ?hQh3 (by assumption) ?_
  case hih3 => simp only [List.getElem?_toArray, List.getElem?_cons_zero, List.getElem?_cons_succ]; rfl
  case hdh3 => rfl
  case hwh3 => rfl
  case hyh3 => (intro w hSw; (try dsimp only at hSw); go_simp)
  case hQh3 => exact fun _ _ _ h => h
  simp only [Act.put, List.setIfInBounds_toArray, List.set_cons_zero, List.set_cons_succ]
  refine takeH (oi := ?oih4) 4 25 (.agg #[.slice ta N tc, .int .i64 v.log, .int .i64 v.seq, .int .i64 v.next]) ?hih4 ?hdh4 ?hwh4 ?hyh4 (by kernel_rfl) (by kernel_rfl) (by kernel_rfl) ?hQh4 (by assumption) ?_
  case hih4 => simp only [List.getElem?_toArray, List.getElem?_cons_zero, List.getElem?_cons_succ]; rfl
  case hdh4 => rfl
  case hwh4 => rfl
  case hyh4 => (intro w hSw; (try dsimp only at hSw); go_simp)
  case hQh4 => exact fun _ _ _ h => h
  simp only [Act.put, List.setIfInBounds_toArray, List.set_cons_zero, List.set_cons_succ]
  refine wpAnyH_ready (rs := [3]) (by kernel_rfl) (by simp) ?_
  refine AllReadyH.cons rfl (fun KK hK => ?_) AllReadyH.nil
  go_simp
  refine (NM1.out _).mono ?_
  rintro r w2 ⟨rfl, b2⟩
  have D2 : Below W1.heap.size W1 w2 := (Below.refl _ _).drew.trans b2
  go_wp2_with (fail)
  refine hK.out _ _ (KS.out _ D2) (fun hHeld => ?_)
  clear hK KK
  refine takeH (oi := ?oih5) 5 26 (.agg #[.pointer none, .pointer (some ⟨b, 0, none⟩), str f, .slice ta N tc, .int .i64 v.log, .int .i64 v.seq, .int .i64 v.next, .bool false]) ?hih5 ?hdh5 ?hwh5 ?hyh5 (by kernel_rfl) (by kernel_rfl) (by kernel_rfl) ?hQh5 (by assumption) ?_
  case hih5 => simp only [List.getElem?_toArray, List.getElem?_cons_zero, List.getElem?_cons_succ]; rfl
  case hdh5 => rfl
  case hwh5 => rfl
  case hyh5 => (intro w hSw; (try dsimp only at hSw); go_simp)
  case hQh5 => exact fun _ _ _ h => h
  simp only [Act.put, List.setIfInBounds_toArray, List.set_cons_zero, List.set_cons_succ]
  refine wpAnyH_ready (rs := [6]) (by kernel_rfl) (by simp) ?_
  refine AllReadyH.cons rfl (fun KK hK => ?_) AllReadyH.nil
  go_simp
  go_wp2_with (fail)
  have F3 := KS.out _ (D2.trans ((Below.refl W1.heap.size w2).alloc D2.size (.cells #[.pointer none, .pointer (some ⟨b, 0, none⟩), str f, .slice ta N tc, .int .i64 v.log, .int .i64 v.seq, .int .i64 v.next, .bool false] 64)))
  refine hK.out _ _ F3 (fun hHeld => ?_)
  clear hK KK
  refine takeH (oi := ?oih6) 7 7 (.pointer (some ⟨w2.heap.size, 0, none⟩)) ?hih6 ?hdh6 ?hwh6 ?hyh6 (by kernel_rfl) (by kernel_rfl) (by kernel_rfl) ?hQh6 (by assumption) ?_
  case hih6 => simp only [List.getElem?_toArray, List.getElem?_cons_zero, List.getElem?_cons_succ]; rfl
  case hdh6 => rfl
  case hwh6 => rfl
  case hyh6 => (intro w hSw; (try dsimp only at hSw); go_simp)
  case hQh6 => exact fun _ _ _ h => h
  simp only [Act.put, List.setIfInBounds_toArray, List.set_cons_zero, List.set_cons_succ]
  refine wpAnyH_done (by kernel_rfl) ?_ _
  have E2 := B1.trans (D2.mono B1.size)
  have HO2 := hide (RL.out _ _ _ _ HO1.out D2)
  clear KS P0 F3 hHeld NM1 RL HO1
  go_wp2_with (first
    | (go_at_call 21; refine (BG.out w2 _ _ E2 HO2).mono ?_; rintro r w3 ⟨rfl, M3⟩; clear BG)
    | (go_at_call 20; refine (NM0.out _).mono ?_; rintro r w4 ⟨rfl, b4⟩; have M4 : Hid (∃ Q, MfIn Q base w4 w2.heap.size b τ f v false ∧ (∀ i, P i → Q i) ∧ Kp P base w w4) := (by obtain ⟨Q, m1, q1, k1⟩ := M3.out; exact ⟨Q, m1.later b4, q1, k1.trans ((m1.fs.kp b4).narrow q1)⟩); clear NM0 M3)
    | (go_at_call 22; refine (RM.out _ _ M4).mono ?_; rintro r w5 ⟨rfl, M5⟩; clear RM M4))
  go_ret2
  obtain ⟨Q, m5, hQ, k5⟩ := M5.out
  exact ⟨_, Q, rfl, m5, hQ, k5⟩
end
end Go.Proofs.YtlhnjloimhcpfabGreatDoor
namespace Go.Proofs.YtlhnjloimhcpfabGreatDoor
open Go.RowKit

section
variable {P : Nat → Prop} {base : Nat}
theorem bad_store {X wx : World} {B : Nat} (hb : wx.heap[B]? = some (vO (.slice none 0 0) 0 0 0)) (hB : X.heap.size ≤ B) (hx : Below X.heap.size X wx) (t : Value) (x y z : Int) :
    Below X.heap.size X ((((wx.setCell ⟨B, 0, none⟩ t).setCell ⟨B, 1, none⟩ (.int .i64 x)).setCell ⟨B, 2, none⟩ (.int .i64 y)).setCell ⟨B, 3, none⟩ (.int .i64 z)) := by
  obtain ⟨_, G⟩ := store4 hb t (.int .i64 x) (.int .i64 y) (.int .i64 z)
  exact hx.grown G hx.size (fun k hk => by cases hk; exact hB)

set_option maxRecDepth 100000 in
set_option maxHeartbeats 8000000 in
theorem add_arg (w : World) (b c : Nat) (σ : Vf.St) (f : Mf.Bs) (v : Mf.Vn) (e : Mf.Ed) (a2 a3 : Option Addr) (cap2 cap3 : Nat) (h : MfIn P base w c b σ f v false) (hon : σ.on = true) (hd : IzAt w (.slice a2 e.drops.length cap2) e.drops) (ha : MtsAt w (.slice a3 e.adds.length cap3) e.adds) (hm : ∀ x ∈ e.adds, MtFit x) (hvm : ∀ x ∈ v.tabs, MtFit x) (hvl : v.tabs.length ≤ 1000000) (he : Mf.encE e = 0) (hg : Mf.goes v e = false) :
    Calls Tryz.prog 10 #[.pointer (some ⟨c, 0, none⟩), ev (.slice a2 e.drops.length cap2) (.slice a3 e.adds.length cap3) e.log e.seq e.next] w fun r w' => r = .returned (.int .i64 2) ∧ Below w.heap.size w w' := by
  obtain ⟨ta, tc, hc, ht, htp⟩ := h.blk
  have hlow := h.fs.low
  have hal : e.adds.length ≤ 1024 ∧ e.drops.length ≤ 1024 := by
    unfold Mf.encE at he
    split at he
    · cases he
    · omega
  obtain ⟨M, hM⟩ : ∃ M, M = e.drops.length := ⟨_, rfl⟩
  obtain ⟨K, hK⟩ : ∃ K, K = e.adds.length := ⟨_, rfl⟩
  obtain ⟨L, hL⟩ : ∃ L, L = v.tabs.length := ⟨_, rfl⟩
  rw [← hM] at hd hal ⊢
  rw [← hK] at ha hal ⊢
  rw [← hL] at hc ht hvl
  have clt := (Array.getElem?_eq_some_iff.1 hc).1
  have MD : Hid (∀ wx, Below w.heap.size w wx → Calls Tryz.prog 25 #[.pointer (some ⟨c, 0, none⟩)] wx fun e w' => e = .returned (.bool true) ∧ w' = wx) := fun wx hx => made_yes ((hx.block _ clt).trans hc)
  have ON : Hid (∀ wx, Below w.heap.size w wx → Calls Tryz.prog 27 #[.pointer (some ⟨b, 0, none⟩)] wx fun e w' => e = .returned (.bool true) ∧ w' = wx) := fun wx hx => by
    have := on_k (h.fs.later hx)
    rw [hon] at this
    exact this
  have KC : Hid (∀ wx, Below w.heap.size w wx → (wx.cell? ⟨c, 1, none⟩ = some (.pointer (some ⟨b, 0, none⟩)) ∧ wx.cell? ⟨c, 2, none⟩ = some (str f) ∧ wx.cell? ⟨c, 3, none⟩ = some (.slice ta L tc) ∧ wx.cell? ⟨c, 4, none⟩ = some (.int .i64 v.log) ∧ wx.cell? ⟨c, 5, none⟩ = some (.int .i64 v.seq) ∧ wx.cell? ⟨c, 6, none⟩ = some (.int .i64 v.next)) ∧ wx.cell? ⟨c, 7, none⟩ = some (.bool false)) := fun wx hx => by
    have := (hx.block _ clt).trans hc
    exact ⟨mf_cells this, Joins.cell_of_block this 7⟩
  have EN : Hid (∀ wx, Below w.heap.size w wx → Calls Tryz.prog 29 #[ev (.slice a2 M cap2) (.slice a3 K cap3) e.log e.seq e.next] wx fun r w' => ∃ g n cc, r = .returned (.tuple #[.slice (some ⟨g, 0, none⟩) n cc, .int .i64 0]) ∧ Hid (n = (Mf.recB e).length) ∧ Hid (w'.ownsRow (wx.heap.size + 1) 5 1 (.slice (some ⟨g, 0, none⟩) n cc) (Mf.recB e).length (bc (Mf.recB e))) ∧ Below wx.heap.size wx w') := fun wx hx => by
    have := encode_ok wx a2 a3 cap2 cap3 e (by rw [← hM]; exact hd.later hx) (by rw [← hK]; exact ha.later hx) hm he
    rw [← hM, ← hK] at this
    exact this
  have CP : Hid (∀ wx, Below w.heap.size w wx → Calls Tryz.prog 26 #[.slice a3 K cap3] wx fun r w' => ∃ t2 c2, r = .returned (.slice t2 K c2) ∧ Hid (w'.ownsRow wx.heap.size 43 5 (.slice t2 K c2) K (mcs e.adds)) ∧ Below wx.heap.size wx w') := fun wx hx => by
    have := copied_any wx a3 cap3 e.adds (by rw [← hK]; exact ha.later hx) (by omega) (fun x hx => (hm x hx).2)
    rw [← hK] at this
    refine this.mono ?_
    rintro r w' ⟨u, rfl, o, bb⟩
    obtain ⟨t2, c2, rfl⟩ := row_shp o
    exact ⟨t2, c2, rfl, o, bb⟩
  have BH : Hid (∀ wx t2 c2, Below w.heap.size w wx → MtsAt wx (.slice t2 K c2) e.adds → Calls Tryz.prog 30 #[.agg #[.slice ta L tc, .int .i64 v.log, .int .i64 v.seq, .int .i64 v.next], .agg #[.slice a2 M cap2, .slice t2 K c2, .int .i64 e.log, .int .i64 e.seq, .int .i64 e.next]] wx fun r w' => ∃ t4 n4 c4 x4 y4 z4, r = .returned (.tuple #[vv (.slice t4 n4 c4) x4 y4 z4, .bool false]) ∧ Below wx.heap.size wx w') := fun wx t2 c2 hx hx2 => by
    have := behind_any wx ta a2 t2 tc cap2 c2 v e (by rw [← hL]; exact ht.later hx) (by rw [← hM]; exact hd.later hx) (by rw [← hK]; exact hx2) (by omega) (by omega) (by omega) hvm (fun n hn => by
      have h1 : Mf.bounds e = true := by
        unfold Mf.encE at he
        split at he
        · cases he
        · split at he
          · assumption
          · cases he
      unfold Mf.bounds at h1
      rw [Bool.and_eq_true, Bool.and_eq_true, List.all_eq_true] at h1
      have h2 := h1.1.1 n hn
      simp [Mf.inB] at h2
      exact ⟨by omega, by omega⟩) hm
    rw [← hL, ← hM, ← hK] at this
    refine this.mono ?_
    rintro r w' ⟨t4, n4, c4, x, y, z, g, rfl, I⟩
    obtain rfl : g = false := by rw [I.goes, hg]
    exact ⟨t4, n4, c4, x, y, z, rfl, I.bel⟩
  have E0 := hide (EdIn.new w (.slice a2 M cap2) (.slice a3 K cap3) e.log e.seq e.next)
  obtain ⟨⟨m1, m2, m3, m4, m5, m6⟩, m7⟩ := KC.out _ E0.out.bel
  obtain ⟨k0, k1, k2, k3, k4⟩ := E0.out.cells
  clear h hon hd ha hm hvm hvl he hg ht htp hc hal hL hM hK
  go_enter Tryz.func10, Tryz.ntmps10
  go_wp2_with (first
    | (go_at_call 25; refine still (MD.out _ E0.out.bel) ?_)
    | (go_at_call 27; refine still (ON.out _ E0.out.bel) ?_)
    | (go_at_call 29; refine (EN.out _ E0.out.bel).mono ?_; rintro r w2 ⟨g2, n2, cc2, rfl, HN2, HO2, b2⟩; have E2 := hide (E0.out.later b2); clear m1 m2 m3 m4 m5 m6 m7 k0 k1 k2 k3 k4; obtain ⟨k0, k1, k2, k3, k4⟩ := E2.out.cells; have z2 := E2.out.bel.size; clear EN)
    | (go_at_call 26; refine (CP.out _ E2.out.bel).mono ?_; rintro r w3 ⟨t2, c2, rfl, HO3, b3⟩; have E3 := hide (E2.out.later b3); clear k0 k1 k2 k3 k4; obtain ⟨k0, k1, k2, k3, k4⟩ := E3.out.cells; have u1 := Joins.unfrozen_of_block E3.out.blk 1; have z3 := E3.out.bel.size; clear CP))
  obtain ⟨X3, hX3⟩ : ∃ X3, X3 = w3.setCell ⟨w.heap.size, 1, none⟩ (.slice t2 K c2) := ⟨_, rfl⟩
  have g3 : w3.grownBy X3 (some w.heap.size) := by rw [hX3]; exact grown_setc _ _ _ _
  have p3 : X3.heap[w.heap.size]? = some (eO (.slice a2 M cap2) (.slice t2 K c2) e.log e.seq e.next) := by rw [hX3]; exact (Joins.block_setCell E3.out.blk _).trans rfl
  have B3 : Below w.heap.size w X3 := E3.out.bel.grown g3 E3.out.bel.size (fun k hk => by cases hk; exact Nat.le_refl _)
  have y1 := (Array.getElem?_eq_some_iff.1 E0.out.blk).1
  have y2 := b2.size
  have offK : ∀ {b' e' s' n' : Nat} {u : Value} {xs : List Value}, w.heap.size < b' → w3.ownsRow b' e' s' u n' xs → X3.ownsRow b' e' s' u n' xs := fun {b' e' s' n' u xs} hb ho => ho.kept g3 (by
    cases hu : u.ownBlock with
    | none => exact .inl rfl
    | some g => exact .inr (by have := (ho.lt g hu).1; simp; omega))
  have A3 : Hid (MtsAt X3 (.slice t2 K c2) e.adds) := by
    have o := offK (by omega) HO3.out
    have hk : K = e.adds.length := by have := o.1; rw [mcs_length] at this; omega
    rw [hk] at o ⊢
    exact MtsAt.own o
  have HB3 := hide B3
  have KS : Hid (∀ wx, Below X3.heap.size X3 wx → (wx.cell? ⟨c, 1, none⟩ = some (.pointer (some ⟨b, 0, none⟩)) ∧ wx.cell? ⟨c, 2, none⟩ = some (str f) ∧ wx.cell? ⟨c, 3, none⟩ = some (.slice ta L tc) ∧ wx.cell? ⟨c, 4, none⟩ = some (.int .i64 v.log) ∧ wx.cell? ⟨c, 5, none⟩ = some (.int .i64 v.seq) ∧ wx.cell? ⟨c, 6, none⟩ = some (.int .i64 v.next)) ∧ (wx.cell? ⟨w.heap.size, 0, none⟩ = some (.slice a2 M cap2) ∧ wx.cell? ⟨w.heap.size, 1, none⟩ = some (.slice t2 K c2) ∧ wx.cell? ⟨w.heap.size, 2, none⟩ = some (.int .i64 e.log) ∧ wx.cell? ⟨w.heap.size, 3, none⟩ = some (.int .i64 e.seq) ∧ wx.cell? ⟨w.heap.size, 4, none⟩ = some (.int .i64 e.next))) := fun wx hx => by
    have q := (hx.block _ (Array.getElem?_eq_some_iff.1 p3).1).trans p3
    obtain ⟨r0, r1, r2, r3, r4, _⟩ := slot5 q
    exact ⟨(KC.out _ (B3.trans (hx.mono B3.size))).1, r0, r1, r2, r3, r4⟩
  have P0 := KS.out _ (Below.refl _ X3).drew
  have s3 := B3.size
  rw [← hX3]
  clear hX3 g3 p3 offK HO2 HO3 k0 k1 k2 k3 k4 u1 E2 E3 b2 b3 y1 y2 E0 B3
  go_cut [7, 8] from 40 to 48 (fun _ y wx => y = .bool false ∧ Below X3.heap.size X3 wx)
  case first =>
    refine wp_region_held_drew (S := (fun wx => (wx.cell? ⟨c, 1, none⟩ = some (.pointer (some ⟨b, 0, none⟩)) ∧ wx.cell? ⟨c, 2, none⟩ = some (str f) ∧ wx.cell? ⟨c, 3, none⟩ = some (.slice ta L tc) ∧ wx.cell? ⟨c, 4, none⟩ = some (.int .i64 v.log) ∧ wx.cell? ⟨c, 5, none⟩ = some (.int .i64 v.seq) ∧ wx.cell? ⟨c, 6, none⟩ = some (.int .i64 v.next)) ∧ (wx.cell? ⟨w.heap.size, 0, none⟩ = some (.slice a2 M cap2) ∧ wx.cell? ⟨w.heap.size, 1, none⟩ = some (.slice t2 K c2) ∧ wx.cell? ⟨w.heap.size, 2, none⟩ = some (.int .i64 e.log) ∧ wx.cell? ⟨w.heap.size, 3, none⟩ = some (.int .i64 e.seq) ∧ wx.cell? ⟨w.heap.size, 4, none⟩ = some (.int .i64 e.next)))) (by kernel_rfl) P0 (fun hHeld => ?_)
    refine takeH (oi := ?oii1) 0 41 (.pointer (some ⟨c, 0, none⟩)) ?hii1 ?hdi1 ?hwi1 ?hyi1 (by kernel_rfl) (by kernel_rfl) (by kernel_rfl) ?hQi1 (by assumption) ?_
    case hii1 => simp only [List.getElem?_toArray, List.getElem?_cons_zero]; rfl
    case hdi1 => rfl
    case hwi1 => rfl
    case hyi1 => (intro w hSw; (try dsimp only at hSw); go_simp)
    case hQi1 => exact fun _ _ _ h => h
    simp only [Act.put, List.setIfInBounds_toArray, List.set_cons_zero, List.set_cons_succ]
    refine takeH (oi := ?oii2) 1 42 (.pointer (some ⟨c, 0, none⟩)) ?hii2 ?hdi2 ?hwi2 ?hyi2 (by kernel_rfl) (by kernel_rfl) (by kernel_rfl) ?hQi2 (by assumption) ?_
    case hii2 => simp only [List.getElem?_toArray, List.getElem?_cons_zero, List.getElem?_cons_succ]; rfl
    case hdi2 => rfl
    case hwi2 => rfl
    case hyi2 => (intro w hSw; (try dsimp only at hSw); go_simp)
    case hQi2 => exact fun _ _ _ h => h
    simp only [Act.put, List.setIfInBounds_toArray, List.set_cons_zero, List.set_cons_succ]
    refine takeH (oi := ?oii3) 2 43 (.pointer (some ⟨c, 3, none⟩)) ?hii3 ?hdi3 ?hwi3 ?hyi3 (by kernel_rfl) (by kernel_rfl) (by kernel_rfl) ?hQi3 (by assumption) ?_
    case hii3 => simp only [List.getElem?_toArray, List.getElem?_cons_zero, List.getElem?_cons_succ]; rfl
    case hdi3 => rfl
    case hwi3 => rfl
    case hyi3 => (intro w hSw; (try dsimp only at hSw); go_simp)
    case hQi3 => exact fun _ _ _ h => h
    simp only [Act.put, List.setIfInBounds_toArray, List.set_cons_zero, List.set_cons_succ]
    refine takeH (oi := ?oii4) 3 44 (.agg #[.slice ta L tc, .int .i64 v.log, .int .i64 v.seq, .int .i64 v.next]) ?hii4 ?hdi4 ?hwi4 ?hyi4 (by kernel_rfl) (by kernel_rfl) (by kernel_rfl) ?hQi4 (by assumption) ?_
    case hii4 => simp only [List.getElem?_toArray, List.getElem?_cons_zero, List.getElem?_cons_succ]; rfl
    case hdi4 => rfl
    case hwi4 => rfl
    case hyi4 => (intro w hSw; (try dsimp only at hSw); go_simp)
    case hQi4 => exact fun _ _ _ h => h
    simp only [Act.put, List.setIfInBounds_toArray, List.set_cons_zero, List.set_cons_succ]
    refine takeH (oi := ?oii5) 4 45 (.agg #[.slice a2 M cap2, .slice t2 K c2, .int .i64 e.log, .int .i64 e.seq, .int .i64 e.next]) ?hii5 ?hdi5 ?hwi5 ?hyi5 (by kernel_rfl) (by kernel_rfl) (by kernel_rfl) ?hQi5 (by assumption) ?_
    case hii5 => simp only [List.getElem?_toArray, List.getElem?_cons_zero, List.getElem?_cons_succ]; rfl
    case hdi5 => rfl
    case hwi5 => rfl
    case hyi5 => (intro w hSw; (try dsimp only at hSw); go_simp)
    case hQi5 => exact fun _ _ _ h => h
    simp only [Act.put, List.setIfInBounds_toArray, List.set_cons_zero, List.set_cons_succ]
    refine wpAnyH_ready (rs := [5, 9]) (by kernel_rfl) (by simp) ?_
    refine AllReadyH.cons rfl (fun KK hK => ?_) (AllReadyH.cons rfl (fun KK hK => ?_) AllReadyH.nil)
    · go_simp
      refine (BH.out _ _ _ (HB3.out.trans ((Below.refl _ X3).drew.mono HB3.out.size)) (A3.out.later (Below.refl _ X3).drew)).mono ?_
      rintro r w4 ⟨t4, n4, c4, x4, y4, z4, rfl, b4⟩
      have D4 : Below X3.heap.size X3 w4 := (Below.refl _ _).drew.trans b4
      have F4 := KS.out _ D4
      go_wp2_with (fail)
      refine hK.out _ _ F4 (fun hHeld => ?_)
      clear hK KK
      refine takeH (oi := ?oii6) 6 40 (.tuple #[.agg #[.slice t4 n4 c4, .int .i64 x4, .int .i64 y4, .int .i64 z4], .bool false]) ?hii6 ?hdi6 ?hwi6 ?hyi6 (by kernel_rfl) (by kernel_rfl) (by kernel_rfl) ?hQi6 (by assumption) ?_
      case hii6 => simp only [List.getElem?_toArray, List.getElem?_cons_zero, List.getElem?_cons_succ]; rfl
      case hdi6 => rfl
      case hwi6 => rfl
      case hyi6 => (intro w hSw; (try dsimp only at hSw); go_simp)
      case hQi6 => exact fun _ _ _ h => h
      simp only [Act.put, List.setIfInBounds_toArray, List.set_cons_zero, List.set_cons_succ]
      refine takeH (oi := ?oii7) 7 47 (.agg #[.slice t4 n4 c4, .int .i64 x4, .int .i64 y4, .int .i64 z4]) ?hii7 ?hdi7 ?hwi7 ?hyi7 (by kernel_rfl) (by kernel_rfl) (by kernel_rfl) ?hQi7 (by assumption) ?_
      case hii7 => simp only [List.getElem?_toArray, List.getElem?_cons_zero, List.getElem?_cons_succ]; rfl
      case hdi7 => rfl
      case hwi7 => rfl
      case hyi7 => (intro w hSw; (try dsimp only at hSw); go_simp)
      case hQi7 => exact fun _ _ _ h => h
      simp only [Act.put, List.setIfInBounds_toArray, List.set_cons_zero, List.set_cons_succ]
      refine takeH (oi := ?oii8) 8 48 (.bool false) ?hii8 ?hdi8 ?hwi8 ?hyi8 (by kernel_rfl) (by kernel_rfl) (by kernel_rfl) ?hQi8 (by assumption) ?_
      case hii8 => simp only [List.getElem?_toArray, List.getElem?_cons_zero, List.getElem?_cons_succ]; rfl
      case hdi8 => rfl
      case hwi8 => rfl
      case hyi8 => (intro w hSw; (try dsimp only at hSw); go_simp)
      case hQi8 => exact fun _ _ _ h => h
      simp only [Act.put, List.setIfInBounds_toArray, List.set_cons_zero, List.set_cons_succ]
      refine wpAnyH_ready (rs := [9]) (by kernel_rfl) (by simp) ?_
      refine AllReadyH.cons rfl (fun KK hK => ?_) AllReadyH.nil
      go_simp
      obtain ⟨W5, hW5⟩ : ∃ W5, W5 = w4.alloc (vO (.slice none 0 0) 0 0 0) := ⟨_, rfl⟩
      have D5 : Below X3.heap.size X3 W5 := by rw [hW5]; exact D4.trans ((Below.refl X3.heap.size w4).alloc D4.size _)
      have F5 := KS.out _ D5
      have n5 : W5.heap[w4.heap.size]? = some (vO (.slice none 0 0) 0 0 0) := by rw [hW5]; exact World.alloc_heap_new w4 _
      have EN5 := bad_store n5 D4.size D5 (.slice t4 n4 c4) x4 y4 z4
      have F6 := KS.out _ EN5
      obtain ⟨y0, y1, y2, y3, u0, u1, u2, u3, lt5⟩ := slot4 n5
      clear n5
      go_wp2_with (fail)
      rw [← hW5]
      refine hK.out _ _ F5 (fun hHeld => ?_)
      clear hK KK hW5
      refine wpAnyH_ready (rs := [10]) (by kernel_rfl) (by simp) ?_
      refine AllReadyH.cons rfl (fun KK hK => ?_) AllReadyH.nil
      go_simp
      go_wp2_with (fail)
      refine hK.out _ _ F6 (fun hHeld => ?_)
      clear hK KK
      refine takeH (oi := ?oii9) 11 8 (.bool false) ?hii9 ?hdi9 ?hwi9 ?hyi9 (by kernel_rfl) (by kernel_rfl) (by kernel_rfl) ?hQi9 (by assumption) ?_
      case hii9 => simp only [List.getElem?_toArray, List.getElem?_cons_zero, List.getElem?_cons_succ]; rfl
      case hdi9 => rfl
      case hwi9 => rfl
      case hyi9 => (intro w hSw; (try dsimp only at hSw); go_simp)
      case hQi9 => exact fun _ _ _ h => h
      simp only [Act.put, List.setIfInBounds_toArray, List.set_cons_zero, List.set_cons_succ]
      refine wpAnyH_done (by kernel_rfl) ?_ _
      go_wp2_with (fail)
      go_meet
      case rel => exact ⟨rfl, EN5⟩
    · go_simp
      obtain ⟨W5, hW5⟩ : ∃ W5, W5 = X3.drew.alloc (vO (.slice none 0 0) 0 0 0) := ⟨_, rfl⟩
      have D5 : Below X3.heap.size X3 W5 := by rw [hW5]; exact (Below.refl X3.heap.size X3).drew.trans ((Below.refl X3.heap.size X3.drew).alloc (Nat.le_refl _) _)
      have F5 := KS.out _ D5
      have n5 : Hid (W5.heap[X3.heap.size]? = some (vO (.slice none 0 0) 0 0 0)) := by show _ = _; rw [hW5]; exact World.alloc_heap_new X3.drew _
      have z5 : Hid (X3.heap.size + 1 ≤ W5.heap.size) := by show _ ≤ _; rw [hW5]; simp
      go_wp2_with (fail)
      have hW6 : (X3.alloc (vO (.slice none 0 0) 0 0 0)).drew = W5 := by rw [hW5]; rfl
      rw [hW6]
      refine hK.out _ _ F5 (fun hHeld => ?_)
      clear hK KK hW5 hW6
      refine wpAnyH_ready (rs := [5]) (by kernel_rfl) (by simp) ?_
      refine AllReadyH.cons rfl (fun KK hK => ?_) AllReadyH.nil
      go_simp
      refine (BH.out _ _ _ (HB3.out.trans (D5.mono HB3.out.size)) (A3.out.later D5)).mono ?_
      rintro r w4 ⟨t4, n4, c4, x4, y4, z4, rfl, b4⟩
      have D4 : Below X3.heap.size X3 w4 := D5.trans (b4.mono D5.size)
      have F4 := KS.out _ D4
      have n4' := (b4.block _ (Array.getElem?_eq_some_iff.1 n5.out).1).trans n5.out
      have EN5 := bad_store n4' (Nat.le_refl _) D4 (.slice t4 n4 c4) x4 y4 z4
      have F6 := KS.out _ EN5
      obtain ⟨y0, y1, y2, y3, u0, u1, u2, u3, lt5⟩ := slot4 n4'
      clear n4'
      go_wp2_with (fail)
      refine hK.out _ _ F4 (fun hHeld => ?_)
      clear hK KK
      refine takeH (oi := ?oii10) 6 40 (.tuple #[.agg #[.slice t4 n4 c4, .int .i64 x4, .int .i64 y4, .int .i64 z4], .bool false]) ?hii10 ?hdi10 ?hwi10 ?hyi10 (by kernel_rfl) (by kernel_rfl) (by kernel_rfl) ?hQi10 (by assumption) ?_
      case hii10 => simp only [List.getElem?_toArray, List.getElem?_cons_zero, List.getElem?_cons_succ]; rfl
      case hdi10 => rfl
      case hwi10 => rfl
      case hyi10 => (intro w hSw; (try dsimp only at hSw); go_simp)
      case hQi10 => exact fun _ _ _ h => h
      simp only [Act.put, List.setIfInBounds_toArray, List.set_cons_zero, List.set_cons_succ]
      refine takeH (oi := ?oii11) 7 47 (.agg #[.slice t4 n4 c4, .int .i64 x4, .int .i64 y4, .int .i64 z4]) ?hii11 ?hdi11 ?hwi11 ?hyi11 (by kernel_rfl) (by kernel_rfl) (by kernel_rfl) ?hQi11 (by assumption) ?_
      case hii11 => simp only [List.getElem?_toArray, List.getElem?_cons_zero, List.getElem?_cons_succ]; rfl
      case hdi11 => rfl
      case hwi11 => rfl
      case hyi11 => (intro w hSw; (try dsimp only at hSw); go_simp)
      case hQi11 => exact fun _ _ _ h => h
      simp only [Act.put, List.setIfInBounds_toArray, List.set_cons_zero, List.set_cons_succ]
      refine takeH (oi := ?oii12) 8 48 (.bool false) ?hii12 ?hdi12 ?hwi12 ?hyi12 (by kernel_rfl) (by kernel_rfl) (by kernel_rfl) ?hQi12 (by assumption) ?_
      case hii12 => simp only [List.getElem?_toArray, List.getElem?_cons_zero, List.getElem?_cons_succ]; rfl
      case hdi12 => rfl
      case hwi12 => rfl
      case hyi12 => (intro w hSw; (try dsimp only at hSw); go_simp)
      case hQi12 => exact fun _ _ _ h => h
      simp only [Act.put, List.setIfInBounds_toArray, List.set_cons_zero, List.set_cons_succ]
      refine wpAnyH_ready (rs := [10]) (by kernel_rfl) (by simp) ?_
      refine AllReadyH.cons rfl (fun KK hK => ?_) AllReadyH.nil
      go_simp
      go_wp2_with (fail)
      refine hK.out _ _ F6 (fun hHeld => ?_)
      clear hK KK
      refine takeH (oi := ?oii13) 11 8 (.bool false) ?hii13 ?hdi13 ?hwi13 ?hyi13 (by kernel_rfl) (by kernel_rfl) (by kernel_rfl) ?hQi13 (by assumption) ?_
      case hii13 => simp only [List.getElem?_toArray, List.getElem?_cons_zero, List.getElem?_cons_succ]; rfl
      case hdi13 => rfl
      case hwi13 => rfl
      case hyi13 => (intro w hSw; (try dsimp only at hSw); go_simp)
      case hQi13 => exact fun _ _ _ h => h
      simp only [Act.put, List.setIfInBounds_toArray, List.set_cons_zero, List.set_cons_succ]
      refine wpAnyH_done (by kernel_rfl) ?_ _
      go_wp2_with (fail)
      go_meet
      case rel => exact ⟨rfl, EN5⟩
  case rest =>
    obtain ⟨rfl, BX⟩ := hcut
    go_wp2_with (fail)
    go_ret
    exact ⟨rfl, HB3.out.trans (BX.mono HB3.out.size)⟩

set_option maxRecDepth 100000 in
set_option maxHeartbeats 1000000 in
theorem add_enc (w : World) (b c : Nat) (σ : Vf.St) (f : Mf.Bs) (v : Mf.Vn) (e : Mf.Ed) (a2 a3 : Option Addr) (cap2 cap3 : Nat) (h : MfIn P base w c b σ f v false) (hon : σ.on = true) (hd : IzAt w (.slice a2 e.drops.length cap2) e.drops) (ha : MtsAt w (.slice a3 e.adds.length cap3) e.adds) (hm : ∀ x ∈ e.adds, MtFit x) (he : Mf.encE e ≠ 0) :
    Calls Tryz.prog 10 #[.pointer (some ⟨c, 0, none⟩), ev (.slice a2 e.drops.length cap2) (.slice a3 e.adds.length cap3) e.log e.seq e.next] w fun r w' => r = .returned (.int .i64 (Mf.encE e)) ∧ Below w.heap.size w w' := by
  obtain ⟨ta, tc, hc, ht, htp⟩ := h.blk
  have clt := (Array.getElem?_eq_some_iff.1 hc).1
  have MD : Hid (∀ wx, Below w.heap.size w wx → Calls Tryz.prog 25 #[.pointer (some ⟨c, 0, none⟩)] wx fun e w' => e = .returned (.bool true) ∧ w' = wx) := fun wx hx => made_yes ((hx.block _ clt).trans hc)
  have ON : Hid (∀ wx, Below w.heap.size w wx → Calls Tryz.prog 27 #[.pointer (some ⟨b, 0, none⟩)] wx fun e w' => e = .returned (.bool true) ∧ w' = wx) := fun wx hx => by
    have := on_k (h.fs.later hx)
    rw [hon] at this
    exact this
  have EN : Hid (∀ wx, Below w.heap.size w wx → Calls Tryz.prog 29 #[ev (.slice a2 e.drops.length cap2) (.slice a3 e.adds.length cap3) e.log e.seq e.next] wx fun r w' => r = .returned (.tuple #[.slice none 0 0, .int .i64 (Mf.encE e)]) ∧ Below wx.heap.size wx w') := fun wx hx => encode_bad wx a2 a3 cap2 cap3 e (hd.later hx) (ha.later hx) hm he
  have E0 := hide (EdIn.new w (.slice a2 e.drops.length cap2) (.slice a3 e.adds.length cap3) e.log e.seq e.next)
  have e0 : (Mf.encE e == 0) = false := by simpa using he
  generalize Mf.encE e = E at EN e0 ⊢
  obtain ⟨M, hM⟩ : ∃ M, M = e.drops.length := ⟨_, rfl⟩
  obtain ⟨K, hK⟩ : ∃ K, K = e.adds.length := ⟨_, rfl⟩
  rw [← hM, ← hK] at EN E0 ⊢
  have mc := (E0.out.bel.block _ clt).trans hc
  have m1 := (mf_cells mc).1
  have m7 := Joins.cell_of_block mc 7
  obtain ⟨k0, k1, k2, k3, k4⟩ := E0.out.cells
  clear h hon hd ha hm he ht htp hc hM hK mc
  go_enter Tryz.func10, Tryz.ntmps10
  go_wp2_with (first
    | (go_at_call 25; refine still (MD.out _ E0.out.bel) ?_)
    | (go_at_call 27; refine still (ON.out _ E0.out.bel) ?_)
    | (go_at_call 29; refine (EN.out _ E0.out.bel).mono ?_; rintro r w2 ⟨rfl, b2⟩; clear EN))
  go_ret
  exact ⟨rfl, E0.out.bel.trans (b2.mono E0.out.bel.size)⟩
end
end Go.Proofs.YtlhnjloimhcpfabGreatDoor
