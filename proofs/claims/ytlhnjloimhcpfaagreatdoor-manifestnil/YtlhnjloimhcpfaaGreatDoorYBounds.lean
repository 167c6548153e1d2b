/-
  Whether each number and text of an edit is within its bounds.
-/
import Derived.Test.YtlhnjloimhcpfaaGreatDoorYBehind
import Derived.Test.YtlhnjloimhcpfaaGreatDoorYPR
namespace Go.Proofs.YtlhnjloimhcpfaaGreatDoor
open Go.RowKit

theorem all_upto {α : Type} {l : List α} {p : α → Bool} (h : ∀ j (hj : j < l.length), p l[j] = true) : l.all p = true := by
  rw [List.all_eq_true]
  intro x hx
  obtain ⟨j, hj, rfl⟩ := List.getElem_of_mem hx
  exact h j hj
theorem all_bad {α : Type} {l : List α} {p : α → Bool} {j : Nat} (hj : j < l.length) (h : p l[j] = false) : l.all p = false := by
  cases k : l.all p with
  | false => rfl
  | true => rw [List.all_eq_true] at k; rw [k _ (List.getElem_mem hj)] at h; cases h

/-- The block of an edit, and all that was there. -/
structure EdIn (w wr : World) (d a : Value) (lo se ne : Int) : Prop where
  blk : wr.heap[w.heap.size]? = some (eO d a lo se ne)
  bel : Below w.heap.size w wr
theorem EdIn.later {w wr wx : World} {d a : Value} {lo se ne : Int} (h : EdIn w wr d a lo se ne) (b : Below wr.heap.size wr wx) : EdIn w wx d a lo se ne := ⟨(b.block _ (Array.getElem?_eq_some_iff.1 h.blk).1).trans h.blk, h.bel.trans (b.mono h.bel.size)⟩
theorem EdIn.new (w : World) (d a : Value) (lo se ne : Int) : EdIn w (w.alloc (eO d a lo se ne)) d a lo se ne := ⟨World.alloc_heap_new w _, (Below.refl _ _).alloc (Nat.le_refl _) _⟩
theorem EdIn.cells {w wr : World} {d a : Value} {lo se ne : Int} (h : EdIn w wr d a lo se ne) : wr.cell? ⟨w.heap.size, 0, none⟩ = some d ∧ wr.cell? ⟨w.heap.size, 1, none⟩ = some a ∧ wr.cell? ⟨w.heap.size, 2, none⟩ = some (.int .i64 lo) ∧ wr.cell? ⟨w.heap.size, 3, none⟩ = some (.int .i64 se) ∧ wr.cell? ⟨w.heap.size, 4, none⟩ = some (.int .i64 ne) :=
  ⟨Joins.cell_of_block h.blk 0, Joins.cell_of_block h.blk 1, Joins.cell_of_block h.blk 2, Joins.cell_of_block h.blk 3, Joins.cell_of_block h.blk 4⟩

set_option maxRecDepth 100000 in
set_option maxHeartbeats 8000000 in
theorem bounds_any (w : World) (a2 a3 : Option Addr) (cap2 cap3 : Nat) (e : Mf.Ed) (hd : IzAt w (.slice a2 e.drops.length cap2) e.drops) (ha : MtsAt w (.slice a3 e.adds.length cap3) e.adds) (hdl : e.drops.length ≤ 1000000) (hal : e.adds.length ≤ 1000000) (hm : ∀ x ∈ e.adds, MtFit x) :
    Calls Tryz.prog 67 #[ev (.slice a2 e.drops.length cap2) (.slice a3 e.adds.length cap3) e.log e.seq e.next] w fun r w' => r = .returned (.bool (Mf.bounds e)) ∧ Below w.heap.size w w' := by
  have HD := hide hd
  have HA := hide ha
  have HM : Hid (∀ x ∈ e.adds, MtFit x) := hm
  have WI := hide within_any
  have WD := hide words_any
  have NB := hide (fun wx => numbers_any wx e.log e.seq e.next)
  obtain ⟨R, hR⟩ : ∃ R, R = Mf.bounds e := ⟨_, rfl⟩
  have HR : Hid (R = (e.drops.all (fun n => Mf.inB n 1 999999) && e.adds.all Mf.words && Mf.nums e.log e.seq e.next)) := hR
  rw [← hR]
  obtain ⟨ds, hds⟩ : ∃ ds, ds = e.drops := ⟨_, rfl⟩
  obtain ⟨ads, has⟩ : ∃ ads, ads = e.adds := ⟨_, rfl⟩
  rw [← hds] at HD HR hdl ⊢
  rw [← has] at HA HR hal HM ⊢
  obtain ⟨M, hM⟩ : ∃ M, M = ds.length := ⟨_, rfl⟩
  have HMM := hide hM
  obtain ⟨K, hK⟩ : ∃ K, K = ads.length := ⟨_, rfl⟩
  have HK := hide hK
  rw [← hM] at HD hdl ⊢
  rw [← hK] at HA hal ⊢
  have E0 := hide (EdIn.new w (.slice a2 M cap2) (.slice a3 K cap3) e.log e.seq e.next)
  clear hd ha hm hR hds has hM hK
  go_enter Tryz.func67, Tryz.ntmps67
  go_wp2_with (fail)
  go_loopw [10] (fun i wr => ∃ j : Nat, j ≤ M ∧ i = .int .i64 j ∧ (∀ k (hk : k < ds.length), k < j → Mf.inB ds[k] 1 999999 = true) ∧ EdIn w wr (.slice a2 M cap2) (.slice a3 K cap3) e.log e.seq e.next) (fun i _ => M - (intOf i).toNat)
  case atStart => exact ⟨0, Nat.zero_le _, rfl, fun k hk h => by omega, E0.out⟩
  case round =>
    obtain ⟨j, hj, rfl, G, E⟩ := hrel
    clear E0
    by_cases hlt : j < M
    · have jl : j < ds.length := by have := HMM.out; omega
      have j1 : (j : Int) < (M : Int) := by omega
      have j2 : (0 : Int) ≤ (j : Int) := by omega
      obtain ⟨B, off, rfl⟩ := HD.out.some (by omega)
      have c0 := (HD.out.later E.bel).cell j jl
      have HG : Hid (∀ k (hk : k < ds.length), k < j → Mf.inB ds[k] 1 999999 = true) := G
      have BAD := fun hb => hide (all_bad (p := fun n => Mf.inB n 1 999999) jl hb)
      have NX : Hid (Mf.inB ds[j] 1 999999 = true → ∀ k (hk : k < ds.length), k < j + 1 → Mf.inB ds[k] 1 999999 = true) := fun hb k hk hkj => by
        by_cases e : k = j
        · subst e; exact hb
        · exact HG.out k hk (by omega)
      have WX := hide (fun wx => WI.out wx ds[j] 1 999999)
      have EE := hide E
      cases hb : Mf.inB ds[j] 1 999999 with
      | false =>
        have HRF : Hid (R = false) := by show _ = _; rw [HR.out, (BAD hb).out]; rfl
        rw [hb] at WX
        generalize ds[j] = x at c0 WX
        clear hb BAD NX G HG HD HA HM WI WD NB HR E
        go_wp2_with (go_at_call 123; refine still (WX.out _) ?_)
        go_ret
        exact ⟨by rw [HRF.out]; rfl, EE.out.bel⟩
      | true =>
        have NX2 := hide (NX.out hb)
        rw [hb] at WX
        generalize ds[j] = x at c0 WX
        clear hb BAD NX G HG HD HA HM WI WD NB HR E
        go_wp2_with (go_at_call 123; refine still (WX.out _) ?_)
        exact ⟨⟨j + 1, by omega, by go_num, NX2.out, EE.out⟩, by simp [intOf]; omega⟩
    · have e9 : j = M := by omega
      subst e9
      have i3 : ¬ (j : Int) < (j : Int) := by omega
      have HD1 : Hid (ds.all (fun n => Mf.inB n 1 999999) = true) := all_upto (p := fun n => Mf.inB n 1 999999) fun k hk => G k hk (by have := HMM.out; omega)
      have HR2 : Hid (R = (ads.all Mf.words && Mf.nums e.log e.seq e.next)) := by show _ = _; rw [HR.out, HD1.out]; rfl
      obtain ⟨s0, s1, s2, s3, s4⟩ := E.cells
      have EE := hide E
      clear G HD WI HR HD1 E hlt hj
      go_wp2_with (fail)
      go_loopw [21] (fun i wx => ∃ k : Nat, k ≤ K ∧ i = .int .i64 k ∧ (∀ q (hq : q < ads.length), q < k → Mf.words ads[q] = true) ∧ EdIn w wx (.slice a2 j cap2) (.slice a3 K cap3) e.log e.seq e.next) (fun i _ => K - (intOf i).toNat)
      case atStart => exact ⟨0, Nat.zero_le _, rfl, fun k hk h => by omega, EE.out⟩
      case round =>
        obtain ⟨k, hk, rfl, G, E⟩ := hrel
        clear EE s0 s1 s2 s3 s4
        by_cases hlt : k < K
        · have kl : k < ads.length := by have := HK.out; omega
          have k1 : (k : Int) < (K : Int) := by omega
          have k2 : (0 : Int) ≤ (k : Int) := by omega
          obtain ⟨B, off, rfl⟩ := HA.out.some (by omega)
          obtain ⟨c0, c1, c2, c3, c4⟩ := (HA.out.later E.bel).cells k kl
          have HG : Hid (∀ q (hq : q < ads.length), q < k → Mf.words ads[q] = true) := G
          have BAD := fun hb => hide (all_bad (p := Mf.words) kl hb)
          have NX : Hid (Mf.words ads[k] = true → ∀ q (hq : q < ads.length), q < k + 1 → Mf.words ads[q] = true) := fun hb q hq hqk => by
            by_cases e : q = k
            · subst e; exact hb
            · exact HG.out q hq (by omega)
          have hfit := HM.out _ (List.getElem_mem kl)
          have WX := hide (fun wx => WD.out wx ads[k] (by have := hfit.2.1; omega) (by have := hfit.2.2; omega))
          have EE : Hid (∀ o wx, Below (wr.alloc o).heap.size (wr.alloc o) wx → EdIn w wx (.slice a2 j cap2) (.slice (some ⟨B, off, none⟩) K cap3) e.log e.seq e.next) := fun o wx hb => E.later (((Below.refl wr.heap.size wr).alloc (Nat.le_refl _) o).trans (hb.mono (by simp)))
          cases hb : Mf.words ads[k] with
          | false =>
            have HRF : Hid (R = false) := by show _ = _; rw [HR2.out, (BAD hb).out]; rfl
            rw [hb] at WX
            generalize ads[k] = x at c0 c1 c2 c3 c4 WX
            obtain ⟨n, v, c, f, la⟩ := x
            simp only at c0 c1 c2 c3 c4
            clear hb BAD NX G HG HA HM WD NB HR2 E hfit
            go_wp2_with (go_at_call 121; refine (WX.out _).mono ?_; rintro r w3 ⟨rfl, b3⟩)
            go_ret
            exact ⟨by rw [HRF.out]; rfl, (EE.out _ _ b3).bel⟩
          | true =>
            have NX2 := hide (NX.out hb)
            rw [hb] at WX
            generalize ads[k] = x at c0 c1 c2 c3 c4 WX
            obtain ⟨n, v, c, f, la⟩ := x
            simp only at c0 c1 c2 c3 c4
            clear hb BAD NX G HG HA HM WD NB HR2 E hfit
            go_wp2_with (go_at_call 121; refine (WX.out _).mono ?_; rintro r w3 ⟨rfl, b3⟩)
            exact ⟨⟨k + 1, by omega, by go_num, NX2.out, EE.out _ _ b3⟩, by simp [intOf]; omega⟩
        · have e8 : k = K := by omega
          subst e8
          have i4 : ¬ (k : Int) < (k : Int) := by omega
          have HA1 : Hid (ads.all Mf.words = true) := all_upto fun q hq => G q hq (by have := HK.out; omega)
          have HR3 : Hid (R = Mf.nums e.log e.seq e.next) := by show _ = _; rw [HR2.out, HA1.out]; rfl
          obtain ⟨s0, s1, s2, s3, s4⟩ := E.cells
          have BL := E.bel
          clear G HA WD HR2 HA1 E HM
          go_wp2_with (go_at_call 120; refine still (NB.out _) ?_)
          go_ret
          exact ⟨by rw [HR3.out]; rfl, BL⟩
end Go.Proofs.YtlhnjloimhcpfaaGreatDoor
