/-
  Whether each number and text of an edit is within its bounds. .. and what follows from it.
-/
import Derived.Test.YtlhnjloimhcpfabGreatDoorYBehind
import Derived.Test.YtlhnjloimhcpfabGreatDoorYPR
namespace Go.Proofs.YtlhnjloimhcpfabGreatDoor
open Go.RowKit

theorem all_upto {α : Type} {l : List α} {p : α → Bool} (h : ∀ j (hj : j < l.length), p l[j] = true) : l.all p = true := by
  rw [List.all_eq_true]
  intro x hx
  obtain ⟨j, hj, rfl⟩ := List.getElem_of_mem hx
  exact h j hj
theorem all_bad {α : Type} {l : List α} {p : α → Bool} {j : Nat} (hj : j < l.length) (h : p l[j] = false) : l.all p = false := by
  cases k : l.all p with
  | false => rfl
  | true => rw [List.all_eq_true] at k; rw [k _ (List.getElem_mem hj)] at h; cases h

/-- The block of an edit, and all that was there. -/
structure EdIn (w wr : World) (d a : Value) (lo se ne : Int) : Prop where
  blk : wr.heap[w.heap.size]? = some (eO d a lo se ne)
  bel : Below w.heap.size w wr
theorem EdIn.later {w wr wx : World} {d a : Value} {lo se ne : Int} (h : EdIn w wr d a lo se ne) (b : Below wr.heap.size wr wx) : EdIn w wx d a lo se ne := ⟨(b.block _ (Array.getElem?_eq_some_iff.1 h.blk).1).trans h.blk, h.bel.trans (b.mono h.bel.size)⟩
theorem EdIn.new (w : World) (d a : Value) (lo se ne : Int) : EdIn w (w.alloc (eO d a lo se ne)) d a lo se ne := ⟨World.alloc_heap_new w _, (Below.refl _ _).alloc (Nat.le_refl _) _⟩
theorem EdIn.cells {w wr : World} {d a : Value} {lo se ne : Int} (h : EdIn w wr d a lo se ne) : wr.cell? ⟨w.heap.size, 0, none⟩ = some d ∧ wr.cell? ⟨w.heap.size, 1, none⟩ = some a ∧ wr.cell? ⟨w.heap.size, 2, none⟩ = some (.int .i64 lo) ∧ wr.cell? ⟨w.heap.size, 3, none⟩ = some (.int .i64 se) ∧ wr.cell? ⟨w.heap.size, 4, none⟩ = some (.int .i64 ne) :=
  ⟨Joins.cell_of_block h.blk 0, Joins.cell_of_block h.blk 1, Joins.cell_of_block h.blk 2, Joins.cell_of_block h.blk 3, Joins.cell_of_block h.blk 4⟩

set_option maxRecDepth 100000 in
set_option maxHeartbeats 8000000 in
theorem bounds_any (w : World) (a2 a3 : Option Addr) (cap2 cap3 : Nat) (e : Mf.Ed) (hd : IzAt w (.slice a2 e.drops.length cap2) e.drops) (ha : MtsAt w (.slice a3 e.adds.length cap3) e.adds) (hdl : e.drops.length ≤ 1000000) (hal : e.adds.length ≤ 1000000) (hm : ∀ x ∈ e.adds, MtFit x) :
    Calls Tryz.prog 53 #[ev (.slice a2 e.drops.length cap2) (.slice a3 e.adds.length cap3) e.log e.seq e.next] w fun r w' => r = .returned (.bool (Mf.bounds e)) ∧ Below w.heap.size w w' := by
  have HD := hide hd
  have HA := hide ha
  have HM : Hid (∀ x ∈ e.adds, MtFit x) := hm
  have WI := hide within_any
  have WD := hide words_any
  have NB := hide (fun wx => numbers_any wx e.log e.seq e.next)
  obtain ⟨R, hR⟩ : ∃ R, R = Mf.bounds e := ⟨_, rfl⟩
  have HR : Hid (R = (e.drops.all (fun n => Mf.inB n 1 999999) && e.adds.all Mf.words && Mf.nums e.log e.seq e.next)) := hR
  rw [← hR]
  obtain ⟨ds, hds⟩ : ∃ ds, ds = e.drops := ⟨_, rfl⟩
  obtain ⟨ads, has⟩ : ∃ ads, ads = e.adds := ⟨_, rfl⟩
  rw [← hds] at HD HR hdl ⊢
  rw [← has] at HA HR hal HM ⊢
  obtain ⟨M, hM⟩ : ∃ M, M = ds.length := ⟨_, rfl⟩
  have HMM := hide hM
  obtain ⟨K, hK⟩ : ∃ K, K = ads.length := ⟨_, rfl⟩
  have HK := hide hK
  rw [← hM] at HD hdl ⊢
  rw [← hK] at HA hal ⊢
  have E0 := hide (EdIn.new w (.slice a2 M cap2) (.slice a3 K cap3) e.log e.seq e.next)
  clear hd ha hm hR hds has hM hK
  go_enter Tryz.func53, Tryz.ntmps53
  go_wp2_with (fail)
  go_loopw [10] (fun i wr => ∃ j : Nat, j ≤ M ∧ i = .int .i64 j ∧ (∀ k (hk : k < ds.length), k < j → Mf.inB ds[k] 1 999999 = true) ∧ EdIn w wr (.slice a2 M cap2) (.slice a3 K cap3) e.log e.seq e.next) (fun i _ => M - (intOf i).toNat)
  case atStart => exact ⟨0, Nat.zero_le _, rfl, fun k hk h => by omega, E0.out⟩
  case round =>
    obtain ⟨j, hj, rfl, G, E⟩ := hrel
    clear E0
    by_cases hlt : j < M
    · have jl : j < ds.length := by have := HMM.out; omega
      have j1 : (j : Int) < (M : Int) := by omega
      have j2 : (0 : Int) ≤ (j : Int) := by omega
      obtain ⟨B, off, rfl⟩ := HD.out.some (by omega)
      have c0 := (HD.out.later E.bel).cell j jl
      have HG : Hid (∀ k (hk : k < ds.length), k < j → Mf.inB ds[k] 1 999999 = true) := G
      have BAD := fun hb => hide (all_bad (p := fun n => Mf.inB n 1 999999) jl hb)
      have NX : Hid (Mf.inB ds[j] 1 999999 = true → ∀ k (hk : k < ds.length), k < j + 1 → Mf.inB ds[k] 1 999999 = true) := fun hb k hk hkj => by
        by_cases e : k = j
        · subst e; exact hb
        · exact HG.out k hk (by omega)
      have WX := hide (fun wx => WI.out wx ds[j] 1 999999)
      have EE := hide E
      cases hb : Mf.inB ds[j] 1 999999 with
      | false =>
        have HRF : Hid (R = false) := by show _ = _; rw [HR.out, (BAD hb).out]; rfl
        rw [hb] at WX
        generalize ds[j] = x at c0 WX
        clear hb BAD NX G HG HD HA HM WI WD NB HR E
        go_wp2_with (go_at_call 85; refine still (WX.out _) ?_)
        go_ret
        exact ⟨by rw [HRF.out]; rfl, EE.out.bel⟩
      | true =>
        have NX2 := hide (NX.out hb)
        rw [hb] at WX
        generalize ds[j] = x at c0 WX
        clear hb BAD NX G HG HD HA HM WI WD NB HR E
        go_wp2_with (go_at_call 85; refine still (WX.out _) ?_)
        exact ⟨⟨j + 1, by omega, by go_num, NX2.out, EE.out⟩, by simp [intOf]; omega⟩
    · have e9 : j = M := by omega
      subst e9
      have i3 : ¬ (j : Int) < (j : Int) := by omega
      have HD1 : Hid (ds.all (fun n => Mf.inB n 1 999999) = true) := all_upto (p := fun n => Mf.inB n 1 999999) fun k hk => G k hk (by have := HMM.out; omega)
      have HR2 : Hid (R = (ads.all Mf.words && Mf.nums e.log e.seq e.next)) := by show _ = _; rw [HR.out, HD1.out]; rfl
      obtain ⟨s0, s1, s2, s3, s4⟩ := E.cells
      have EE := hide E
      clear G HD WI HR HD1 E hlt hj
      go_wp2_with (fail)
      go_loopw [21] (fun i wx => ∃ k : Nat, k ≤ K ∧ i = .int .i64 k ∧ (∀ q (hq : q < ads.length), q < k → Mf.words ads[q] = true) ∧ EdIn w wx (.slice a2 j cap2) (.slice a3 K cap3) e.log e.seq e.next) (fun i _ => K - (intOf i).toNat)
      case atStart => exact ⟨0, Nat.zero_le _, rfl, fun k hk h => by omega, EE.out⟩
      case round =>
        obtain ⟨k, hk, rfl, G, E⟩ := hrel
        clear EE s0 s1 s2 s3 s4
        by_cases hlt : k < K
        · have kl : k < ads.length := by have := HK.out; omega
          have k1 : (k : Int) < (K : Int) := by omega
          have k2 : (0 : Int) ≤ (k : Int) := by omega
          obtain ⟨B, off, rfl⟩ := HA.out.some (by omega)
          obtain ⟨c0, c1, c2, c3, c4⟩ := (HA.out.later E.bel).cells k kl
          have HG : Hid (∀ q (hq : q < ads.length), q < k → Mf.words ads[q] = true) := G
          have BAD := fun hb => hide (all_bad (p := Mf.words) kl hb)
          have NX : Hid (Mf.words ads[k] = true → ∀ q (hq : q < ads.length), q < k + 1 → Mf.words ads[q] = true) := fun hb q hq hqk => by
            by_cases e : q = k
            · subst e; exact hb
            · exact HG.out q hq (by omega)
          have hfit := HM.out _ (List.getElem_mem kl)
          have WX := hide (fun wx => WD.out wx ads[k] (by have := hfit.2.1; omega) (by have := hfit.2.2; omega))
          have EE : Hid (∀ o wx, Below (wr.alloc o).heap.size (wr.alloc o) wx → EdIn w wx (.slice a2 j cap2) (.slice (some ⟨B, off, none⟩) K cap3) e.log e.seq e.next) := fun o wx hb => E.later (((Below.refl wr.heap.size wr).alloc (Nat.le_refl _) o).trans (hb.mono (by simp)))
          cases hb : Mf.words ads[k] with
          | false =>
            have HRF : Hid (R = false) := by show _ = _; rw [HR2.out, (BAD hb).out]; rfl
            rw [hb] at WX
            generalize ads[k] = x at c0 c1 c2 c3 c4 WX
            obtain ⟨n, v, c, f, la⟩ := x
            simp only at c0 c1 c2 c3 c4
            clear hb BAD NX G HG HA HM WD NB HR2 E hfit
            go_wp2_with (go_at_call 86; refine (WX.out _).mono ?_; rintro r w3 ⟨rfl, b3⟩)
            go_ret
            exact ⟨by rw [HRF.out]; rfl, (EE.out _ _ b3).bel⟩
          | true =>
            have NX2 := hide (NX.out hb)
            rw [hb] at WX
            generalize ads[k] = x at c0 c1 c2 c3 c4 WX
            obtain ⟨n, v, c, f, la⟩ := x
            simp only at c0 c1 c2 c3 c4
            clear hb BAD NX G HG HA HM WD NB HR2 E hfit
            go_wp2_with (go_at_call 86; refine (WX.out _).mono ?_; rintro r w3 ⟨rfl, b3⟩)
            exact ⟨⟨k + 1, by omega, by go_num, NX2.out, EE.out _ _ b3⟩, by simp [intOf]; omega⟩
        · have e8 : k = K := by omega
          subst e8
          have i4 : ¬ (k : Int) < (k : Int) := by omega
          have HA1 : Hid (ads.all Mf.words = true) := all_upto fun q hq => G q hq (by have := HK.out; omega)
          have HR3 : Hid (R = Mf.nums e.log e.seq e.next) := by show _ = _; rw [HR2.out, HA1.out]; rfl
          obtain ⟨s0, s1, s2, s3, s4⟩ := E.cells
          have BL := E.bel
          clear G HA WD HR2 HA1 E HM
          go_wp2_with (go_at_call 87; refine still (NB.out _) ?_)
          go_ret
          exact ⟨by rw [HR3.out]; rfl, BL⟩
end Go.Proofs.YtlhnjloimhcpfabGreatDoor
namespace Go.Proofs.YtlhnjloimhcpfabGreatDoor
open Go.RowKit

theorem store5 {w : World} {B : Nat} {x y z u v : Value} {t : TypeId} (h : w.heap[B]? = some (.cells #[x, y, z, u, v] t (0, 0))) (x' y' z' u' v' : Value) :
    (((((w.setCell ⟨B, 0, none⟩ x').setCell ⟨B, 1, none⟩ y').setCell ⟨B, 2, none⟩ z').setCell ⟨B, 3, none⟩ u').setCell ⟨B, 4, none⟩ v').heap[B]? = some (.cells #[x', y', z', u', v'] t (0, 0)) ∧ w.grownBy (((((w.setCell ⟨B, 0, none⟩ x').setCell ⟨B, 1, none⟩ y').setCell ⟨B, 2, none⟩ z').setCell ⟨B, 3, none⟩ u').setCell ⟨B, 4, none⟩ v') (some B) :=
  ⟨(Joins.block_setCell (Joins.block_setCell (Joins.block_setCell (Joins.block_setCell (Joins.block_setCell h _) _) _) _) _).trans rfl, grownBy_trans (grownBy_trans (grownBy_trans (grownBy_trans (grown_setc _ B _ _) (grown_setc _ B _ _) (.inl rfl)) (grown_setc _ B _ _) (.inl rfl)) (grown_setc _ B _ _) (.inl rfl)) (grown_setc _ B _ _) (.inl rfl)⟩
theorem slot5 {w : World} {B : Nat} {x y z u v : Value} {t : TypeId} (h : w.heap[B]? = some (.cells #[x, y, z, u, v] t (0, 0))) : w.cell? ⟨B, 0, none⟩ = some x ∧ w.cell? ⟨B, 1, none⟩ = some y ∧ w.cell? ⟨B, 2, none⟩ = some z ∧ w.cell? ⟨B, 3, none⟩ = some u ∧ w.cell? ⟨B, 4, none⟩ = some v ∧ w.frozen? ⟨B, 0, none⟩ = false ∧ w.frozen? ⟨B, 1, none⟩ = false ∧ w.frozen? ⟨B, 2, none⟩ = false ∧ w.frozen? ⟨B, 3, none⟩ = false ∧ w.frozen? ⟨B, 4, none⟩ = false ∧ B < w.heap.size :=
  ⟨Joins.cell_of_block h 0, Joins.cell_of_block h 1, Joins.cell_of_block h 2, Joins.cell_of_block h 3, Joins.cell_of_block h 4, Joins.unfrozen_of_block h 0, Joins.unfrozen_of_block h 1, Joins.unfrozen_of_block h 2, Joins.unfrozen_of_block h 3, Joins.unfrozen_of_block h 4, (Array.getElem?_eq_some_iff.1 h).1⟩

set_option maxRecDepth 100000 in
set_option maxHeartbeats 4000000 in
theorem from_any (w : World) (a : Option Addr) (cap : Nat) (v : Mf.Vn) (h : MtsAt w (.slice a v.tabs.length cap) v.tabs) (hlen : v.tabs.length ≤ 1000000) (hs : ∀ x ∈ v.tabs, x.first.length ≤ 1000000 ∧ x.last.length ≤ 1000000) :
    Calls Tryz.prog 48 #[vv (.slice a v.tabs.length cap) v.log v.seq v.next] w fun r w' => ∃ ta tc, r = .returned (ev (.slice none 0 0) (.slice ta v.tabs.length tc) v.log v.seq v.next) ∧ Hid (w'.ownsRow (w.heap.size + 2) 43 5 (.slice ta v.tabs.length tc) v.tabs.length (mcs v.tabs)) ∧ Below w.heap.size w w' := by
  obtain ⟨L, hL⟩ : ∃ L, L = v.tabs.length := ⟨_, rfl⟩
  obtain ⟨W, hW⟩ : ∃ W, W = (w.alloc (vO (.slice a L cap) v.log v.seq v.next)).alloc (eO (.slice none 0 0) (.slice none 0 0) 0 0 0) := ⟨_, rfl⟩
  have HW := hide hW
  have WZ : W.heap.size = w.heap.size + 2 := by rw [hW]; simp
  have B0 : Hid (Below w.heap.size w W) := by rw [hW]; exact ((Below.refl _ _).alloc (Nat.le_refl _) _).alloc (by simp) _
  have P0 : Hid (W.heap[w.heap.size]? = some (vO (.slice a L cap) v.log v.seq v.next)) := by
    show _ = _
    rw [hW]
    exact (Below.heap_alloc _ _ _ (by simp)).trans (World.alloc_heap_new w _)
  have P1 : Hid (W.heap[w.heap.size + 1]? = some (eO (.slice none 0 0) (.slice none 0 0) 0 0 0)) := by
    show _ = _
    rw [hW]
    have := World.alloc_heap_new (w.alloc (vO (.slice a L cap) v.log v.seq v.next)) (eO (.slice none 0 0) (.slice none 0 0) 0 0 0)
    rw [World.size_alloc] at this
    exact this
  have CP : Hid (∀ wx, Below W.heap.size W wx → Calls Tryz.prog 26 #[.slice a L cap] wx fun r w' => ∃ ta tc, r = .returned (.slice ta L tc) ∧ Hid (w'.ownsRow (w.heap.size + 2) 43 5 (.slice ta L tc) L (mcs v.tabs)) ∧ Below wx.heap.size wx w') := fun wx hx => by
    have := copied_any wx a cap v.tabs (h.later (B0.out.trans (hx.mono B0.out.size))) hlen hs
    rw [← hL] at this
    refine this.mono ?_
    rintro r w' ⟨u, rfl, o, b⟩
    obtain ⟨ta, tc, rfl⟩ := row_shp o
    exact ⟨ta, tc, rfl, own_lift o (by have := hx.size; omega), b⟩
  have KS : Hid (∀ wx, Below W.heap.size W wx → (wx.cell? ⟨w.heap.size, 0, none⟩ = some (.slice a L cap) ∧ wx.cell? ⟨w.heap.size, 1, none⟩ = some (.int .i64 v.log) ∧ wx.cell? ⟨w.heap.size, 2, none⟩ = some (.int .i64 v.seq) ∧ wx.cell? ⟨w.heap.size, 3, none⟩ = some (.int .i64 v.next)) ∧ wx.heap[w.heap.size + 1]? = some (eO (.slice none 0 0) (.slice none 0 0) 0 0 0)) := fun wx hx => by
    have h0 := (hx.block _ (by omega)).trans P0.out
    exact ⟨⟨Joins.cell_of_block h0 0, Joins.cell_of_block h0 1, Joins.cell_of_block h0 2, Joins.cell_of_block h0 3⟩, (hx.block _ (by omega)).trans P1.out⟩
  rw [← hL]
  clear h hs hlen hW P1 hL
  go_enter Tryz.func48, Tryz.ntmps48
  go_wp2_with (fail)
  rw [← HW.out]
  have Q1 := (KS.out _ (Below.refl _ W).drew).1
  refine wp_region_held_drew (S := (fun wx => wx.cell? ⟨w.heap.size, 0, none⟩ = some (.slice a L cap) ∧ wx.cell? ⟨w.heap.size, 1, none⟩ = some (.int .i64 v.log) ∧ wx.cell? ⟨w.heap.size, 2, none⟩ = some (.int .i64 v.seq) ∧ wx.cell? ⟨w.heap.size, 3, none⟩ = some (.int .i64 v.next))) (by kernel_rfl) Q1 (fun hHeld => ?_)
  refine takeH (oi := ?oif1) 0 3 (.pointer (some ⟨w.heap.size, 0, none⟩)) ?hif1 ?hdf1 ?hwf1 ?hyf1 (by kernel_rfl) (by kernel_rfl) (by kernel_rfl) ?hQf1 (by assumption) ?_
  case hif1 => simp only [List.getElem?_toArray, List.getElem?_cons_zero]; rfl
  case hdf1 => rfl
  case hwf1 => rfl
  case hyf1 => (intro w hSw; (try dsimp only at hSw); go_simp)
  case hQf1 => exact fun _ _ _ h => h
  simp only [Act.put, List.setIfInBounds_toArray, List.set_cons_zero, List.set_cons_succ]
  refine takeH (oi := ?oif2) 1 4 (.slice a L cap) ?hif2 ?hdf2 ?hwf2 ?hyf2 (by kernel_rfl) (by kernel_rfl) (by kernel_rfl) ?hQf2 (by assumption) ?_
  case hif2 => simp only [List.getElem?_toArray, List.getElem?_cons_zero, List.getElem?_cons_succ]; rfl
  case hdf2 => rfl
  case hwf2 => rfl
  case hyf2 => (intro w hSw; (try dsimp only at hSw); go_simp)
  case hQf2 => exact fun _ _ _ h => h
  simp only [Act.put, List.setIfInBounds_toArray, List.set_cons_zero, List.set_cons_succ]
  refine takeH (oi := ?oif3) 3 6 (.pointer (some ⟨w.heap.size, 1, none⟩)) ?hif3 ?hdf3 ?hwf3 ?hyf3 (by kernel_rfl) (by kernel_rfl) (by kernel_rfl) ?hQf3 (by assumption) ?_
  case hif3 => simp only [List.getElem?_toArray, List.getElem?_cons_zero, List.getElem?_cons_succ]; rfl
  case hdf3 => rfl
  case hwf3 => rfl
  case hyf3 => (intro w hSw; (try dsimp only at hSw); go_simp)
  case hQf3 => exact fun _ _ _ h => h
  simp only [Act.put, List.setIfInBounds_toArray, List.set_cons_zero, List.set_cons_succ]
  refine takeH (oi := ?oif4) 4 7 (.int .i64 v.log) ?hif4 ?hdf4 ?hwf4 ?hyf4 (by kernel_rfl) (by kernel_rfl) (by kernel_rfl) ?hQf4 (by assumption) ?_
  case hif4 => simp only [List.getElem?_toArray, List.getElem?_cons_zero, List.getElem?_cons_succ]; rfl
  case hdf4 => rfl
  case hwf4 => rfl
  case hyf4 => (intro w hSw; (try dsimp only at hSw); go_simp)
  case hQf4 => exact fun _ _ _ h => h
  simp only [Act.put, List.setIfInBounds_toArray, List.set_cons_zero, List.set_cons_succ]
  refine takeH (oi := ?oif5) 5 8 (.pointer (some ⟨w.heap.size, 2, none⟩)) ?hif5 ?hdf5 ?hwf5 ?hyf5 (by kernel_rfl) (by kernel_rfl) (by kernel_rfl) ?hQf5 (by assumption) ?_
  case hif5 => simp only [List.getElem?_toArray, List.getElem?_cons_zero, List.getElem?_cons_succ]; rfl
  case hdf5 => rfl
  case hwf5 => rfl
  case hyf5 => (intro w hSw; (try dsimp only at hSw); go_simp)
  case hQf5 => exact fun _ _ _ h => h
  simp only [Act.put, List.setIfInBounds_toArray, List.set_cons_zero, List.set_cons_succ]
  refine takeH (oi := ?oif6) 6 9 (.int .i64 v.seq) ?hif6 ?hdf6 ?hwf6 ?hyf6 (by kernel_rfl) (by kernel_rfl) (by kernel_rfl) ?hQf6 (by assumption) ?_
  case hif6 => simp only [List.getElem?_toArray, List.getElem?_cons_zero, List.getElem?_cons_succ]; rfl
  case hdf6 => rfl
  case hwf6 => rfl
  case hyf6 => (intro w hSw; (try dsimp only at hSw); go_simp)
  case hQf6 => exact fun _ _ _ h => h
  simp only [Act.put, List.setIfInBounds_toArray, List.set_cons_zero, List.set_cons_succ]
  refine takeH (oi := ?oif7) 7 10 (.pointer (some ⟨w.heap.size, 3, none⟩)) ?hif7 ?hdf7 ?hwf7 ?hyf7 (by kernel_rfl) (by kernel_rfl) (by kernel_rfl) ?hQf7 (by assumption) ?_
  case hif7 => simp only [List.getElem?_toArray, List.getElem?_cons_zero, List.getElem?_cons_succ]; rfl
  case hdf7 => rfl
  case hwf7 => rfl
  case hyf7 => (intro w hSw; (try dsimp only at hSw); go_simp)
  case hQf7 => exact fun _ _ _ h => h
  simp only [Act.put, List.setIfInBounds_toArray, List.set_cons_zero, List.set_cons_succ]
  refine takeH (oi := ?oif8) 8 11 (.int .i64 v.next) ?hif8 ?hdf8 ?hwf8 ?hyf8 (by kernel_rfl) (by kernel_rfl) (by kernel_rfl) ?hQf8 (by assumption) ?_
  case hif8 => simp only [List.getElem?_toArray, List.getElem?_cons_zero, List.getElem?_cons_succ]; rfl
  case hdf8 => rfl
  case hwf8 => rfl
  case hyf8 => (intro w hSw; (try dsimp only at hSw); go_simp)
  case hQf8 => exact fun _ _ _ h => h
  simp only [Act.put, List.setIfInBounds_toArray, List.set_cons_zero, List.set_cons_succ]
  refine wpAnyH_ready (rs := [2]) (by kernel_rfl) (by simp) ?_
  refine AllReadyH.cons rfl (fun KK hK => ?_) AllReadyH.nil
  go_simp
  refine (CP.out _ (Below.refl _ W).drew).mono ?_
  rintro r w2 ⟨ta, tc, rfl, HO, b2⟩
  have D2 := (Below.refl W.heap.size W).drew.trans b2
  have Q2 := (KS.out _ D2).1
  have R2 := (KS.out _ D2).2
  obtain ⟨r0, r1, r2, r3, r4, u0, u1, u2, u3, u4, rl⟩ := slot5 R2
  have HR2 := hide R2
  clear R2
  go_wp2_with (fail)
  refine hK.out _ _ Q2 (fun hHeld => ?_)
  clear hK KK
  refine takeH (oi := ?oif9) 9 12 (.agg #[.slice none 0 0, .slice ta L tc, .int .i64 v.log, .int .i64 v.seq, .int .i64 v.next]) ?hif9 ?hdf9 ?hwf9 ?hyf9 (by kernel_rfl) (by kernel_rfl) (by kernel_rfl) ?hQf9 (by assumption) ?_
  case hif9 => simp only [List.getElem?_toArray, List.getElem?_cons_zero, List.getElem?_cons_succ]; rfl
  case hdf9 => rfl
  case hwf9 => rfl
  case hyf9 => (intro w hSw; (try dsimp only at hSw); go_simp)
  case hQf9 => exact fun _ _ _ h => h
  simp only [Act.put, List.setIfInBounds_toArray, List.set_cons_zero, List.set_cons_succ]
  refine wpAnyH_ready (rs := [10]) (by kernel_rfl) (by simp) ?_
  refine AllReadyH.cons rfl (fun KK hK => ?_) AllReadyH.nil
  go_simp
  go_wp2_with (fail)
  obtain ⟨P5, G5⟩ := store5 HR2.out (.slice none 0 0) (.slice ta L tc) (.int .i64 v.log) (.int .i64 v.seq) (.int .i64 v.next)
  have C5 : w2.heap[w.heap.size]? = some (vO (.slice a L cap) v.log v.seq v.next) := (D2.block _ (by omega)).trans P0.out
  have V5 := (G5.block _ (Array.getElem?_eq_some_iff.1 C5).1 (by simp)).trans C5
  have S5 : _ ∧ _ ∧ _ ∧ _ := ⟨Joins.cell_of_block V5 0, Joins.cell_of_block V5 1, Joins.cell_of_block V5 2, Joins.cell_of_block V5 3⟩
  refine hK.out _ _ S5 (fun hHeld => ?_)
  clear hK KK
  refine wpAnyH_done (by kernel_rfl) ?_ _
  have D5 := B0.out.trans (D2.mono B0.out.size)
  have B5 : Below w.heap.size w _ := D5.grown G5 D5.size (fun k hk => by cases hk; omega)
  have O5 := hide (HO.out.kept G5 (by
    cases ho : (Value.slice ta L tc).ownBlock with
    | none => exact .inl rfl
    | some g => exact .inr (by have := (HO.out.lt g ho).1; simp; omega)))
  clear HO V5 S5 C5 G5 r0 r1 r2 r3 r4 u0 u1 u2 u3 u4 Q1 Q2 hHeld CP KS
  generalize (((((w2.setCell ⟨w.heap.size + 1, 0, none⟩ (.slice none 0 0)).setCell ⟨w.heap.size + 1, 1, none⟩ (.slice ta L tc)).setCell ⟨w.heap.size + 1, 2, none⟩ (.int .i64 v.log)).setCell ⟨w.heap.size + 1, 3, none⟩ (.int .i64 v.seq)).setCell ⟨w.heap.size + 1, 4, none⟩ (.int .i64 v.next)) = W5 at P5 B5 O5 ⊢
  obtain ⟨q0, q1, q2, q3, q4, _⟩ := slot5 P5
  go_wp2_with (fail)
  refine bodyPost_ret (v := ev (.slice none 0 0) (.slice ta L tc) v.log v.seq v.next) (by simp [results, Tryz.results48, go_sem, q0, q1, q2, q3, q4]) rfl ?_
  exact ⟨ta, tc, rfl, O5, B5⟩
end Go.Proofs.YtlhnjloimhcpfabGreatDoor
