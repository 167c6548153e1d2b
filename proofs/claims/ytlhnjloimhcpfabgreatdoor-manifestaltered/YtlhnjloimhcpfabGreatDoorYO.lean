/-
  A manifest's file is begun, and the other one that names it: where all goes well. (Written by wip/gen/begin10.py.) .. and what follows from it.
-/
import Derived.Test.YtlhnjloimhcpfabGreatDoorYF
import Derived.Test.YtlhnjloimhcpfabGreatDoorYN
import Derived.Test.YtlhnjloimhcpfabGreatDoorYJ
import Derived.Lib.ConvBytes
namespace Go.Proofs.YtlhnjloimhcpfabGreatDoor
open Go.RowKit

namespace Mf
def cur : Bs := [99, 117, 114, 114, 101, 110, 116]
def fresh : Bs := [99, 117, 114, 114, 101, 110, 116, 46, 110, 101, 119]
def b1 (σ : Vf.St) (f F : Bs) : Vf.St := wrS σ f F
def b2 (σ : Vf.St) (f F : Bs) : Vf.St := wrS (b1 σ f F) fresh (frm f)
def b3 (σ : Vf.St) (f F : Bs) : Vf.St := Vf.syncNames (b2 σ f F)
def b4 (σ : Vf.St) (f F : Bs) : Vf.St := Vf.rename (b3 σ f F) fresh cur
def b5 (σ : Vf.St) (f F : Bs) : Vf.St := Vf.syncNames (b4 σ f F)
/-- All goes well while a file is begun. -/
structure BegOk (σ : Vf.St) (f F : Bs) : Prop where
  e1 : wrE σ f F = 0
  e2 : wrE (b1 σ f F) fresh (frm f) = 0
  e3 : Vf.syncNamesE (b2 σ f F) = 0
  e4 : Vf.renameE (b3 σ f F) fresh cur = 0
  e5 : Vf.syncNamesE (b4 σ f F) = 0
theorem b5_inv {σ : Vf.St} (h : Vf.Inv σ) (f F : Bs) : Vf.Inv (b5 σ f F) := ((wrS_inv (wrS_inv h f F) fresh (frm f)).syncNames.rename _ _).syncNames
end Mf

/-- The cells of a manifest. -/
abbrev mfO (c b : Nat) (f : Mf.Bs) (t : Value) (lo se ne : Int) (br : Bool) : Obj := .cells #[.pointer (some ⟨c, 0, none⟩), .pointer (some ⟨b, 0, none⟩), str f, t, .int .i64 lo, .int .i64 se, .int .i64 ne, .bool br] 64
theorem mf_cells {w : World} {c c' b : Nat} {f : Mf.Bs} {t : Value} {lo se ne : Int} {br : Bool} (h : w.heap[c]? = some (mfO c' b f t lo se ne br)) : w.cell? ⟨c, 1, none⟩ = some (.pointer (some ⟨b, 0, none⟩)) ∧ w.cell? ⟨c, 2, none⟩ = some (str f) ∧ w.cell? ⟨c, 3, none⟩ = some t ∧ w.cell? ⟨c, 4, none⟩ = some (.int .i64 lo) ∧ w.cell? ⟨c, 5, none⟩ = some (.int .i64 se) ∧ w.cell? ⟨c, 6, none⟩ = some (.int .i64 ne) :=
  ⟨Joins.cell_of_block h 1, Joins.cell_of_block h 2, Joins.cell_of_block h 3, Joins.cell_of_block h 4, Joins.cell_of_block h 5, Joins.cell_of_block h 6⟩

theorem held_own {P : Nat → Prop} {w : World} {base g n c : Nat} {l : Vf.Bs} (_ : n = l.length) (h : w.ownsRow base 5 1 (.slice (some ⟨g, 0, none⟩) n c) l.length (bc l)) (hl : l.length ≤ 140737488355328) (hp : P g) : Held P w (.slice (some ⟨g, 0, none⟩) n c) l := by
  refine ⟨bytes_of_own h hl, fun a n' c' e _ => ?_, fun a n' c' e _ => ?_⟩
  · cases e; exact hp
  · cases e
    rcases h.2 with ⟨e, _⟩ | ⟨g', cap', cur, e, _, _, hnc, _⟩
    · cases e
    · simp only [Value.slice.injEq] at e; omega

theorem conv_bytes (w : World) (s : Mf.Bs) (hs : s.length ≤ 140737488355328) (cap : Nat) : BytesIn (Lib.bytesWorld w 5 ⟨s.toArray⟩) (.slice (some ⟨w.heap.size, 0, none⟩) s.length cap) s := by
  refine ⟨⟨_, cap, rfl, fun _ => ⟨_, 0, rfl, fun j hj => ?_⟩⟩, hs⟩
  rw [Nat.zero_add]
  refine (Lib.bytesWorld_cell w 5 ⟨s.toArray⟩ j (by show j < s.toArray.size; simpa using hj)).trans ?_
  simp [hj]

section
variable {P : Nat → Prop} {base : Nat}
set_option maxRecDepth 100000 in
set_option maxHeartbeats 8000000 in
theorem begin_ok (w : World) (b c : Nat) (σ : Vf.St) (f : Mf.Bs) (ta : Option Addr) (tc : Nat) (v : Mf.Vn) (br : Bool) (h : FsK P base w b σ) (hc : w.heap[c]? = some (mfO c b f (.slice ta v.tabs.length tc) v.log v.seq v.next br)) (hpc : P c) (ht : MtsAt w (.slice ta v.tabs.length tc) v.tabs) (hlen : v.tabs.length ≤ 1024) (hv : Mf.bounds (Mf.fromV v) = true) (hr : (Mf.recB (Mf.fromV v)).length ≤ 1048576) (hf : f.length ≤ 1000) (hs : σ.steps ≤ 30000000) (hok : Mf.BegOk σ f (frm (Mf.recB (Mf.fromV v)))) :
    Calls Tryz.prog 21 #[.pointer (some ⟨c, 0, none⟩)] w fun e w' => e = .returned (.int .i64 0) ∧ FsK P base w' b (Mf.b5 σ f (frm (Mf.recB (Mf.fromV v)))) ∧ Kp P base w w' := by
  obtain ⟨F, hF⟩ : ∃ F, F = frm (Mf.recB (Mf.fromV v)) := ⟨_, rfl⟩
  have HF := hide hF
  have hFl : F.length ≤ 2000000 := by rw [hF, frm_length]; omega
  have hFf : (frm f).length ≤ 2000 := by rw [frm_length]; omega
  rw [← hF] at hok ⊢
  have hsz : ∀ x ∈ v.tabs, x.first.length ≤ 1000000 ∧ x.last.length ≤ 1000000 := fun x hx => by
    have h1 := hv
    unfold Mf.bounds at h1
    rw [Bool.and_eq_true, Bool.and_eq_true, List.all_eq_true, List.all_eq_true] at h1
    obtain ⟨_, _, _, h4, h5⟩ := Mf.words_in (h1.1.2 x hx)
    omega
  obtain ⟨L, hL⟩ : ∃ L, L = v.tabs.length := ⟨_, rfl⟩
  rw [← hL] at hc ht hlen
  have FR : Hid (∀ wx, Below w.heap.size w wx → Calls Tryz.prog 48 #[.agg #[.slice ta L tc, .int .i64 v.log, .int .i64 v.seq, .int .i64 v.next]] wx fun r w' => ∃ t2 c2, r = .returned (ev (.slice none 0 0) (.slice t2 L c2) v.log v.seq v.next) ∧ Hid (MtsAt w' (.slice t2 L c2) v.tabs) ∧ Below wx.heap.size wx w') := fun wx hx => by
    have := from_any wx ta tc v (by rw [← hL]; exact ht.later hx) (by omega) hsz
    rw [← hL] at this
    refine this.mono ?_
    rintro r w' ⟨t2, c2, rfl, o, b2⟩
    exact ⟨t2, c2, rfl, MtsAt.own (by rw [← hL]; exact o.out), b2⟩
  have FM : Hid (∀ wx t2 c2, Below w.heap.size w wx → MtsAt wx (.slice t2 L c2) v.tabs → Calls Tryz.prog 47 #[ev (.slice none 0 0) (.slice t2 L c2) v.log v.seq v.next] wx fun r w' => ∃ g n cc, r = .returned (.slice (some ⟨g, 0, none⟩) n cc) ∧ Hid (n = F.length) ∧ Hid (w'.ownsRow wx.heap.size 5 1 (.slice (some ⟨g, 0, none⟩) n cc) F.length (bc F)) ∧ Below wx.heap.size wx w') := fun wx t2 c2 hx hm => by
    have hm' : MtsAt wx (.slice t2 (Mf.fromV v).adds.length c2) (Mf.fromV v).adds := by show MtsAt wx (.slice t2 v.tabs.length c2) v.tabs; rw [← hL]; exact hm
    have := frames_any wx none t2 0 c2 (Mf.fromV v) (IzAt.nil _ _ _) hm' (by show 0 ≤ 1024; omega) (by show v.tabs.length ≤ 1024; omega) hv hr
    rw [← hF] at this
    have e1 : (Mf.fromV v).adds.length = L := hL.symm
    rw [e1] at this
    exact this
  have hw0 := h.low
  have W1 : Hid (∀ wx g n cc, Below w.heap.size w wx → n = F.length → w.heap.size ≤ g → g < wx.heap.size → wx.ownsRow w.heap.size 5 1 (.slice (some ⟨g, 0, none⟩) n cc) F.length (bc F) → Calls Tryz.prog 46 #[.pointer (some ⟨b, 0, none⟩), str f, .slice (some ⟨g, 0, none⟩) n cc] wx fun e w' => e = .returned (.int .i64 0) ∧ FsK P base w' b (Mf.b1 σ f F) ∧ Kp P base w w') := fun wx g n cc hx hn hg hg2 ho => by
    have fk := h.add hx
    have hp : (fun i => P i ∨ (w.heap.size ≤ i ∧ i < wx.heap.size)) g := .inr ⟨hg, hg2⟩
    refine (written_k fk f (by omega) (some ⟨g, 0, none⟩) n cc F (by omega) (held_own hn ho (by omega) hp)).mono ?_
    rintro e w' ⟨rfl, f1, k1⟩
    exact ⟨by rw [hok.e1], f1.narrow (fun i hi => .inl hi), (h.kp hx).trans (k1.narrow (fun i hi => .inl hi))⟩
  have i1 := Mf.wrS_inv h.inv f F
  have s1 := Mf.wrS_steps h.inv f F
  have s2 := Mf.wrS_steps i1 Mf.fresh (frm f)
  have s3 := Vf.syncNames_steps (Mf.b2 σ f F)
  have s4 := Vf.rename_steps (Mf.b3 σ f F) Mf.fresh Mf.cur
  have T1 : (Mf.b1 σ f F).steps ≤ 33000000 := by unfold Mf.b1; omega
  have T2 : (Mf.b2 σ f F).steps ≤ 34000000 := by have s2' : (Mf.b2 σ f F).steps ≤ (Mf.b1 σ f F).steps + (frm f).length + 4 := s2; omega
  have T3 : (Mf.b3 σ f F).steps ≤ 34000001 := by have s3' : (Mf.b3 σ f F).steps ≤ (Mf.b2 σ f F).steps + 1 := s3; omega
  have T4 : (Mf.b4 σ f F).steps ≤ 34000002 := by have s4' : (Mf.b4 σ f F).steps ≤ (Mf.b3 σ f F).steps + 1 := s4; omega
  have FN : Hid (∀ wx cc, Calls Tryz.prog 31 #[.slice none 0 0, .slice (some ⟨wx.heap.size, 0, none⟩) f.length cc] (Lib.bytesWorld wx 5 ⟨f.toArray⟩) fun r w' => ∃ g n c2, r = .returned (.tuple #[.slice (some ⟨g, 0, none⟩) n c2, .int .i64 0]) ∧ Hid (n = (frm f).length) ∧ Hid (w'.ownsRow wx.heap.size 5 1 (.slice (some ⟨g, 0, none⟩) n c2) (frm f).length (bc (frm f))) ∧ Below wx.heap.size wx w') := fun wx cc => by
    have bw := Joins.below_bytesWorld wx.heap.size wx 5 ⟨f.toArray⟩ (Nat.le_refl _)
    refine (fappend_any (Lib.bytesWorld wx 5 ⟨f.toArray⟩) none (some ⟨wx.heap.size, 0, none⟩) 0 cc [] f ⟨⟨none, 0, rfl, fun h => absurd rfl h⟩, by simp⟩ (conv_bytes wx f (by omega) cc) (fun _ => rfl) (by omega) (by simp; omega)).mono ?_
    rintro r w' ⟨g, c2, rfl, x⟩
    rw [List.nil_append] at x
    have hl : ([] : List UInt8).length + f.length + 12 = (frm f).length := by rw [frm_length]; simp
    have b3 := below_of x.grown
    exact ⟨g, _, c2, rfl, hl, own_lift x.own bw.size, bw.trans (b3.mono bw.size)⟩
  have W2 : Hid (∀ wx wy g n cc, FsK P base wx b (Mf.b1 σ f F) → Below wx.heap.size wx wy → n = (frm f).length → wx.heap.size ≤ g → g < wy.heap.size → wy.ownsRow wx.heap.size 5 1 (.slice (some ⟨g, 0, none⟩) n cc) (frm f).length (bc (frm f)) → Calls Tryz.prog 46 #[.pointer (some ⟨b, 0, none⟩), str Mf.fresh, .slice (some ⟨g, 0, none⟩) n cc] wy fun e w' => e = .returned (.int .i64 0) ∧ FsK P base w' b (Mf.b2 σ f F) ∧ Kp P base wx w') := fun wx wy g n cc hk hx hn hg hg2 ho => by
    have fk := hk.add hx
    have hp : (fun i => P i ∨ (wx.heap.size ≤ i ∧ i < wy.heap.size)) g := .inr ⟨hg, hg2⟩
    refine (written_k fk Mf.fresh (by decide) (some ⟨g, 0, none⟩) n cc (frm f) (by omega) (held_own hn ho (by omega) hp)).mono ?_
    rintro e w' ⟨rfl, f1, k1⟩
    exact ⟨by rw [hok.e2], f1.narrow (fun i hi => .inl hi), (hk.kp hx).trans (k1.narrow (fun i hi => .inl hi))⟩
  have SN : Hid (∀ wx, FsK P base wx b (Mf.b2 σ f F) → Calls Tryz.prog 49 #[.pointer (some ⟨b, 0, none⟩)] wx fun e w' => e = .returned (.int .i64 0) ∧ FsK P base w' b (Mf.b3 σ f F) ∧ Kp P base wx w') := fun wx hx => by
    have := syncNames_k hx (by omega)
    rw [hok.e3] at this
    exact this
  have RN : Hid (∀ wx, FsK P base wx b (Mf.b3 σ f F) → Calls Tryz.prog 50 #[.pointer (some ⟨b, 0, none⟩), str Mf.fresh, str Mf.cur] wx fun e w' => e = .returned (.int .i64 0) ∧ FsK P base w' b (Mf.b4 σ f F) ∧ Kp P base wx w') := fun wx hx => by
    have := rename_k hx (by omega) Mf.fresh Mf.cur (by decide) (by decide)
    rw [hok.e4] at this
    exact this
  have SN2 : Hid (∀ wx, FsK P base wx b (Mf.b4 σ f F) → Calls Tryz.prog 49 #[.pointer (some ⟨b, 0, none⟩)] wx fun e w' => e = .returned (.int .i64 0) ∧ FsK P base w' b (Mf.b5 σ f F) ∧ Kp P base wx w') := fun wx hx => by
    have := syncNames_k hx (by omega)
    rw [hok.e5] at this
    exact this
  have clt := (Array.getElem?_eq_some_iff.1 hc).1
  have KS : Hid (∀ wx, Below w.heap.size w wx → wx.cell? ⟨c, 1, none⟩ = some (.pointer (some ⟨b, 0, none⟩)) ∧ wx.cell? ⟨c, 2, none⟩ = some (str f) ∧ wx.cell? ⟨c, 3, none⟩ = some (.slice ta L tc) ∧ wx.cell? ⟨c, 4, none⟩ = some (.int .i64 v.log) ∧ wx.cell? ⟨c, 5, none⟩ = some (.int .i64 v.seq) ∧ wx.cell? ⟨c, 6, none⟩ = some (.int .i64 v.next)) := fun wx hx => mf_cells ((hx.block _ clt).trans hc)
  have KP : Hid (∀ wx, Kp P base w wx → wx.cell? ⟨c, 1, none⟩ = some (.pointer (some ⟨b, 0, none⟩)) ∧ wx.cell? ⟨c, 2, none⟩ = some (str f) ∧ wx.cell? ⟨c, 3, none⟩ = some (.slice ta L tc) ∧ wx.cell? ⟨c, 4, none⟩ = some (.int .i64 v.log) ∧ wx.cell? ⟨c, 5, none⟩ = some (.int .i64 v.seq) ∧ wx.cell? ⟨c, 6, none⟩ = some (.int .i64 v.next)) := fun wx hx => mf_cells ((hx.keep c hpc).trans hc)
  have CV : ∀ wx : World, (convert 9 33 (str f)).run Tryz.prog wx = .ok (.slice (some ⟨wx.heap.size, 0, none⟩) f.length (grownCap wx f.length 0 5)) (Lib.bytesWorld wx 5 ⟨f.toArray⟩) := fun wx => by
    have := Lib.run_convert_string_bytes (P := Tryz.prog) wx 9 33 5 ⟨f.toArray⟩ Tryz.underlying9 Tryz.underlying33 Tryz.underlying5
    have hz : (⟨f.toArray⟩ : ByteArray).size = f.length := by show f.toArray.size = _; simp
    rw [this, hz]
  have HC := hide hc
  have q0 := KS.out w (Below.refl _ _)
  unfold Mf.fresh at W2 RN
  unfold Mf.cur at RN
  clear h hc ht hlen hv hr hs hok hsz hFl hFf hL i1 s1 s2 s3 s4 hF HF T1 T2 T3 T4
  go_enter Tryz.func21, Tryz.ntmps21
  go_wp2_with (fail)
  have P0 := KS.out _ (Below.refl _ w).drew
  refine wp_region_held_drew (S := (fun wx => wx.cell? ⟨c, 1, none⟩ = some (.pointer (some ⟨b, 0, none⟩)) ∧ wx.cell? ⟨c, 2, none⟩ = some (str f) ∧ wx.cell? ⟨c, 3, none⟩ = some (.slice ta L tc) ∧ wx.cell? ⟨c, 4, none⟩ = some (.int .i64 v.log) ∧ wx.cell? ⟨c, 5, none⟩ = some (.int .i64 v.seq) ∧ wx.cell? ⟨c, 6, none⟩ = some (.int .i64 v.next))) (by kernel_rfl) P0 (fun hHeld => ?_)
  refine takeH (oi := ?oig1) 0 9 (.pointer (some ⟨c, 0, none⟩)) ?hig1 ?hdg1 ?hwg1 ?hyg1 (by kernel_rfl) (by kernel_rfl) (by kernel_rfl) ?hQg1 (by assumption) ?_
  case hig1 => simp only [List.getElem?_toArray, List.getElem?_cons_zero]; rfl
  case hdg1 => rfl
  case hwg1 => rfl
  case hyg1 => (intro w hSw; (try dsimp only at hSw); go_simp)
  case hQg1 => exact fun _ _ _ h => h
  simp only [Act.put, List.setIfInBounds_toArray, List.set_cons_zero, List.set_cons_succ]
  refine takeH (oi := ?oig2) 1 10 (.pointer (some ⟨c, 0, none⟩)) ?hig2 ?hdg2 ?hwg2 ?hyg2 (by kernel_rfl) (by kernel_rfl) (by kernel_rfl) ?hQg2 (by assumption) ?_
  case hig2 => simp only [List.getElem?_toArray, List.getElem?_cons_zero, List.getElem?_cons_succ]; rfl
  case hdg2 => rfl
  case hwg2 => rfl
  case hyg2 => (intro w hSw; (try dsimp only at hSw); go_simp)
  case hQg2 => exact fun _ _ _ h => h
  simp only [Act.put, List.setIfInBounds_toArray, List.set_cons_zero, List.set_cons_succ]
  refine takeH (oi := ?oig3) 2 11 (.pointer (some ⟨c, 1, none⟩)) ?hig3 ?hdg3 ?hwg3 ?hyg3 (by kernel_rfl) (by kernel_rfl) (by kernel_rfl) ?hQg3 (by assumption) ?_
  case hig3 => simp only [List.getElem?_toArray, List.getElem?_cons_zero, List.getElem?_cons_succ]; rfl
  case hdg3 => rfl
  case hwg3 => rfl
  case hyg3 => (intro w hSw; (try dsimp only at hSw); go_simp)
  case hQg3 => exact fun _ _ _ h => h
  simp only [Act.put, List.setIfInBounds_toArray, List.set_cons_zero, List.set_cons_succ]
  refine takeH (oi := ?oig4) 3 12 (.pointer (some ⟨b, 0, none⟩)) ?hig4 ?hdg4 ?hwg4 ?hyg4 (by kernel_rfl) (by kernel_rfl) (by kernel_rfl) ?hQg4 (by assumption) ?_
  case hig4 => simp only [List.getElem?_toArray, List.getElem?_cons_zero, List.getElem?_cons_succ]; rfl
  case hdg4 => rfl
  case hwg4 => rfl
  case hyg4 => (intro w hSw; (try dsimp only at hSw); go_simp)
  case hQg4 => exact fun _ _ _ h => h
  simp only [Act.put, List.setIfInBounds_toArray, List.set_cons_zero, List.set_cons_succ]
  refine takeH (oi := ?oig5) 4 13 (.pointer (some ⟨c, 0, none⟩)) ?hig5 ?hdg5 ?hwg5 ?hyg5 (by kernel_rfl) (by kernel_rfl) (by kernel_rfl) ?hQg5 (by assumption) ?_
  case hig5 => simp only [List.getElem?_toArray, List.getElem?_cons_zero, List.getElem?_cons_succ]; rfl
  case hdg5 => rfl
  case hwg5 => rfl
  case hyg5 => (intro w hSw; (try dsimp only at hSw); go_simp)
  case hQg5 => exact fun _ _ _ h => h
  simp only [Act.put, List.setIfInBounds_toArray, List.set_cons_zero, List.set_cons_succ]
  refine takeH (oi := ?oig6) 5 14 (.pointer (some ⟨c, 0, none⟩)) ?hig6 ?hdg6 ?hwg6 ?hyg6 (by kernel_rfl) (by kernel_rfl) (by kernel_rfl) ?hQg6 (by assumption) ?_
  case hig6 => simp only [List.getElem?_toArray, List.getElem?_cons_zero, List.getElem?_cons_succ]; rfl
  case hdg6 => rfl
  case hwg6 => rfl
  case hyg6 => (intro w hSw; (try dsimp only at hSw); go_simp)
  case hQg6 => exact fun _ _ _ h => h
  simp only [Act.put, List.setIfInBounds_toArray, List.set_cons_zero, List.set_cons_succ]
  refine takeH (oi := ?oig7) 6 15 (.pointer (some ⟨c, 2, none⟩)) ?hig7 ?hdg7 ?hwg7 ?hyg7 (by kernel_rfl) (by kernel_rfl) (by kernel_rfl) ?hQg7 (by assumption) ?_
  case hig7 => simp only [List.getElem?_toArray, List.getElem?_cons_zero, List.getElem?_cons_succ]; rfl
  case hdg7 => rfl
  case hwg7 => rfl
  case hyg7 => (intro w hSw; (try dsimp only at hSw); go_simp)
  case hQg7 => exact fun _ _ _ h => h
  simp only [Act.put, List.setIfInBounds_toArray, List.set_cons_zero, List.set_cons_succ]
  refine takeH (oi := ?oig8) 7 16 (str f) ?hig8 ?hdg8 ?hwg8 ?hyg8 (by kernel_rfl) (by kernel_rfl) (by kernel_rfl) ?hQg8 (by assumption) ?_
  case hig8 => simp only [List.getElem?_toArray, List.getElem?_cons_zero, List.getElem?_cons_succ]; rfl
  case hdg8 => rfl
  case hwg8 => rfl
  case hyg8 => (intro w hSw; (try dsimp only at hSw); go_simp)
  case hQg8 => exact fun _ _ _ h => h
  simp only [Act.put, List.setIfInBounds_toArray, List.set_cons_zero, List.set_cons_succ]
  refine takeH (oi := ?oig9) 8 17 (.pointer (some ⟨c, 0, none⟩)) ?hig9 ?hdg9 ?hwg9 ?hyg9 (by kernel_rfl) (by kernel_rfl) (by kernel_rfl) ?hQg9 (by assumption) ?_
  case hig9 => simp only [List.getElem?_toArray, List.getElem?_cons_zero, List.getElem?_cons_succ]; rfl
  case hdg9 => rfl
  case hwg9 => rfl
  case hyg9 => (intro w hSw; (try dsimp only at hSw); go_simp)
  case hQg9 => exact fun _ _ _ h => h
  simp only [Act.put, List.setIfInBounds_toArray, List.set_cons_zero, List.set_cons_succ]
  refine takeH (oi := ?oig10) 9 18 (.pointer (some ⟨c, 0, none⟩)) ?hig10 ?hdg10 ?hwg10 ?hyg10 (by kernel_rfl) (by kernel_rfl) (by kernel_rfl) ?hQg10 (by assumption) ?_
  case hig10 => simp only [List.getElem?_toArray, List.getElem?_cons_zero, List.getElem?_cons_succ]; rfl
  case hdg10 => rfl
  case hwg10 => rfl
  case hyg10 => (intro w hSw; (try dsimp only at hSw); go_simp)
  case hQg10 => exact fun _ _ _ h => h
  simp only [Act.put, List.setIfInBounds_toArray, List.set_cons_zero, List.set_cons_succ]
  refine takeH (oi := ?oig11) 10 19 (.pointer (some ⟨c, 3, none⟩)) ?hig11 ?hdg11 ?hwg11 ?hyg11 (by kernel_rfl) (by kernel_rfl) (by kernel_rfl) ?hQg11 (by assumption) ?_
  case hig11 => simp only [List.getElem?_toArray, List.getElem?_cons_zero, List.getElem?_cons_succ]; rfl
  case hdg11 => rfl
  case hwg11 => rfl
  case hyg11 => (intro w hSw; (try dsimp only at hSw); go_simp)
  case hQg11 => exact fun _ _ _ h => h
  simp only [Act.put, List.setIfInBounds_toArray, List.set_cons_zero, List.set_cons_succ]
  refine takeH (oi := ?oig12) 11 20 (.agg #[.slice ta L tc, .int .i64 v.log, .int .i64 v.seq, .int .i64 v.next]) ?hig12 ?hdg12 ?hwg12 ?hyg12 (by kernel_rfl) (by kernel_rfl) (by kernel_rfl) ?hQg12 (by assumption) ?_
  case hig12 => simp only [List.getElem?_toArray, List.getElem?_cons_zero, List.getElem?_cons_succ]; rfl
  case hdg12 => rfl
  case hwg12 => rfl
  case hyg12 => (intro w hSw; (try dsimp only at hSw); go_simp)
  case hQg12 => exact fun _ _ _ h => h
  simp only [Act.put, List.setIfInBounds_toArray, List.set_cons_zero, List.set_cons_succ]
  refine wpAnyH_ready (rs := [12]) (by kernel_rfl) (by simp) ?_
  refine AllReadyH.cons rfl (fun KK hK => ?_) AllReadyH.nil
  go_simp
  refine (FR.out _ (Below.refl _ w).drew).mono ?_
  rintro r w1 ⟨t2, c2, rfl, HT, b1⟩
  have D1 : Below w.heap.size w w1 := (Below.refl _ _).drew.trans b1
  go_wp2_with (fail)
  refine hK.out _ _ (KS.out _ D1) (fun hHeld => ?_)
  clear hK KK
  refine wpAnyH_ready (rs := [13]) (by kernel_rfl) (by simp) ?_
  refine AllReadyH.cons rfl (fun KK hK => ?_) AllReadyH.nil
  go_simp
  refine (FM.out _ _ _ D1 HT.out).mono ?_
  rintro r w2 ⟨g2, n2, c2, rfl, HN2, HO2, b2⟩
  have D2 : Below w.heap.size w w2 := D1.trans (b2.mono D1.size)
  have z1 := D1.size
  have lg := HO2.out.lt g2 rfl
  have O2 := hide (own_lift HO2.out z1)
  go_wp2_with (fail)
  refine hK.out _ _ (KS.out _ D2) (fun hHeld => ?_)
  clear hK KK
  refine wpAnyH_ready (rs := [14]) (by kernel_rfl) (by simp) ?_
  refine AllReadyH.cons rfl (fun KK hK => ?_) AllReadyH.nil
  go_simp
  refine (W1.out _ _ _ _ D2 HN2.out (by omega) lg.2 O2.out).mono ?_
  rintro r w3 ⟨rfl, f3, k3⟩
  go_wp2_with (fail)
  refine hK.out _ _ (KP.out _ k3) (fun hHeld => ?_)
  clear hK KK
  refine takeH (oi := ?oig13) 15 3 (.int .i64 0) ?hig13 ?hdg13 ?hwg13 ?hyg13 (by kernel_rfl) (by kernel_rfl) (by kernel_rfl) ?hQg13 (by assumption) ?_
  case hig13 => simp only [List.getElem?_toArray, List.getElem?_cons_zero, List.getElem?_cons_succ]; rfl
  case hdg13 => rfl
  case hwg13 => rfl
  case hyg13 => (intro w hSw; (try dsimp only at hSw); go_simp)
  case hQg13 => exact fun _ _ _ h => h
  simp only [Act.put, List.setIfInBounds_toArray, List.set_cons_zero, List.set_cons_succ]
  refine wpAnyH_done (by kernel_rfl) ?_ _
  obtain ⟨d1, d2, _, _, _, _⟩ := KP.out _ k3
  clear P0 q0 FR FM W1 HT HO2 HN2 O2 lg z1 hHeld KS
  go_wp2_with (first
    | (go_at_call 31; refine (FN.out w3 _).mono ?_; rintro r w4 ⟨g4, n4, c4, rfl, HN4, HO4, b4⟩; have k4 := k3.trans (f3.kp b4); have l4 := HO4.out.lt g4 rfl; obtain ⟨e1, e2, _, _, _, _⟩ := KP.out _ k4; clear FN)
    | (go_at_call 46; refine (W2.out w3 _ _ _ _ f3 b4 HN4.out l4.1 l4.2 HO4.out).mono ?_; rintro r w5 ⟨rfl, f5, k5⟩; have k5' := k3.trans k5; obtain ⟨h1, h2, _, _, _, _⟩ := KP.out _ k5'; clear W2 f3)
    | (go_at_call 49; have tk := f5; refine (SN.out _ f5).mono ?_; rintro r w6 ⟨rfl, f6, k6⟩; have k6' := k5'.trans k6; obtain ⟨m1, m2, _, _, _, _⟩ := KP.out _ k6'; clear SN f5 tk)
    | (go_at_call 50; refine (RN.out _ f6).mono ?_; rintro r w7 ⟨rfl, f7, k7⟩; have k7' := k6'.trans k7; obtain ⟨o1, o2, _, _, _, _⟩ := KP.out _ k7'; clear RN f6)
    | (go_at_call 49; refine (SN2.out _ f7).mono ?_; rintro r w8 ⟨rfl, f8, k8⟩; clear SN2))
  go_ret
  exact ⟨rfl, f8, k7'.trans k8⟩
end
end Go.Proofs.YtlhnjloimhcpfabGreatDoor
namespace Go.Proofs.YtlhnjloimhcpfabGreatDoor
open Go.RowKit

/-- A manifest over its file system, beside protected blocks; its own block, and its tables', are among them. -/
structure MfIn (P : Nat → Prop) (base : Nat) (w : World) (c b : Nat) (σ : Vf.St) (f : Mf.Bs) (v : Mf.Vn) (br : Bool) : Prop where
  fs : FsK P base w b σ
  blk : ∃ ta tc, w.heap[c]? = some (mfO c b f (.slice ta v.tabs.length tc) v.log v.seq v.next br) ∧ MtsAt w (.slice ta v.tabs.length tc) v.tabs ∧ (v.tabs ≠ [] → ∀ ad, ta = some ad → P ad.block)
  pc : P c
  new : base ≤ c

section
variable {P : Nat → Prop} {base : Nat}
theorem first_any (w : World) : Calls Tryz.prog 40 #[] w fun e w' => e = .returned (vv (.slice none 0 0) 1 0 1) ∧ Below w.heap.size w w' := by
  have P5 := World.alloc_heap_new w (vO (.slice none 0 0) 1 0 1)
  obtain ⟨q0, q1, q2, q3, _⟩ := slot4 P5
  go_enter Tryz.func40, Tryz.ntmps40
  go_wp2_with (fail)
  refine bodyPost_ret (v := vv (.slice none 0 0) 1 0 1) (by simp [results, Tryz.results40, go_sem]) rfl ?_
  exact ⟨rfl, (Below.refl _ _).alloc (Nat.le_refl _) _⟩

set_option maxRecDepth 100000 in
set_option maxHeartbeats 2000000 in
theorem read_none (w : World) (b : Nat) (σ : Vf.St) (h : FsK P base w b σ) (hs : σ.steps ≤ 90000000) (hm : Vf.findE σ Mf.cur = 4) :
    Calls Tryz.prog 19 #[.pointer (some ⟨b, 0, none⟩)] w fun e w' => e = .returned (.tuple #[vv (.slice none 0 0) 1 0 1, .int .i64 0, .int .i64 0]) ∧ Below w.heap.size w w' := by
  have B0 : Below w.heap.size w (w.alloc (vO (.slice none 0 0) 0 0 0)) := (Below.refl _ _).alloc (Nat.le_refl _) _
  have P0 := hide (World.alloc_heap_new w (vO (.slice none 0 0) 0 0 0))
  have RD : Hid (Calls Tryz.prog 7 #[.pointer (some ⟨b, 0, none⟩), str Mf.cur] (w.alloc (vO (.slice none 0 0) 0 0 0)) fun e w' => ∃ va vn vc, e = .returned (.tuple #[.slice va vn vc, .int .i64 4]) ∧ Below (w.alloc (vO (.slice none 0 0) 0 0 0)).heap.size (w.alloc (vO (.slice none 0 0) 0 0 0)) w') := by
    have := readf_k (h.later B0) hs Mf.cur (by decide)
    rw [hm] at this
    refine this.mono ?_
    rintro e w' ⟨v', rfl, o, b'⟩
    obtain ⟨va, vc, rfl⟩ := row_shp o
    exact ⟨va, _, vc, rfl, b'⟩
  have FV := hide first_any
  unfold Mf.cur at RD
  clear h hs hm
  go_enter Tryz.func19, Tryz.ntmps19
  go_wp2_with (first
    | (go_at_call 7; refine RD.out.mono ?_; rintro e w1 ⟨va, vn, vc, rfl, b1⟩; clear RD)
    | (go_at_call 40; refine (FV.out _).mono ?_; rintro e w2 ⟨rfl, b2⟩; have D2 := hide (b1.trans (b2.mono b1.size)); have p2 := (D2.out.block _ (by simp)).trans P0.out; obtain ⟨y0, y1, y2, y3, u0, u1, u2, u3, lt2⟩ := slot4 p2; have HP2 := hide p2; clear p2 FV))
  obtain ⟨P5, G5⟩ := store4 HP2.out (.slice none 0 0) (.int .i64 1) (.int .i64 0) (.int .i64 1)
  have D1 := B0.trans (D2.out.mono B0.size)
  have B5 : Below w.heap.size w _ := D1.grown G5 D1.size (fun k hk => by cases hk; exact Nat.le_refl _)
  generalize ((((w2.setCell ⟨w.heap.size, 0, none⟩ (.slice none 0 0)).setCell ⟨w.heap.size, 1, none⟩ (.int .i64 1)).setCell ⟨w.heap.size, 2, none⟩ (.int .i64 0)).setCell ⟨w.heap.size, 3, none⟩ (.int .i64 1)) = W5 at P5 B5 ⊢
  obtain ⟨q0, q1, q2, q3, _⟩ := slot4 P5
  refine bodyPost_ret (v := .tuple #[vv (.slice none 0 0) 1 0 1, .int .i64 0, .int .i64 0]) (by simp [results, Tryz.results19, go_sem, q0, q1, q2, q3]) rfl ?_
  exact ⟨rfl, B5⟩

theorem rec_first : (Mf.recB (Mf.fromV Mf.first)).length ≤ 1048576 := by decide +kernel
theorem bnd_first : Mf.bounds (Mf.fromV Mf.first) = true := by decide +kernel

set_option maxRecDepth 100000 in
set_option maxHeartbeats 4000000 in
theorem open_new (w : World) (b : Nat) (σ : Vf.St) (h : FsK P base w b σ) (hs : σ.steps ≤ 30000000) (hm : Vf.findE σ Mf.cur = 4) (hok : Mf.BegOk σ (Mf.nm 1) (frm (Mf.recB (Mf.fromV Mf.first)))) :
    Calls Tryz.prog 6 #[.pointer (some ⟨b, 0, none⟩)] w fun e w' => ∃ c Q, e = .returned (.tuple #[.pointer (some ⟨c, 0, none⟩), .int .i64 0]) ∧ MfIn Q base w' c b (Mf.b5 σ (Mf.nm 1) (frm (Mf.recB (Mf.fromV Mf.first)))) (Mf.nm 1) Mf.first false ∧ (∀ i, P i → Q i) ∧ Kp P base w w' := by
  have RD := read_none w b σ h (by omega) hm
  have NM : Hid (∀ wx, Calls Tryz.prog 20 #[.int .i64 1] wx fun e w' => e = .returned (str (Mf.nm 1)) ∧ Below wx.heap.size wx w') := fun wx => nameOf_any wx 1 (by decide)
  have BG : Hid (∀ wx, Below w.heap.size w wx → Calls Tryz.prog 21 #[.pointer (some ⟨wx.heap.size, 0, none⟩)] (wx.alloc (mfO wx.heap.size b (Mf.nm 1) (.slice none 0 0) 1 0 1 false)) fun e w' => e = .returned (.int .i64 0) ∧ (∃ Q, MfIn Q base w' wx.heap.size b (Mf.b5 σ (Mf.nm 1) (frm (Mf.recB (Mf.fromV Mf.first)))) (Mf.nm 1) Mf.first false ∧ (∀ i, P i → Q i)) ∧ Kp P base w w') := fun wx hx => by
    have bx : Below w.heap.size w (wx.alloc (mfO wx.heap.size b (Mf.nm 1) (.slice none 0 0) 1 0 1 false)) := hx.trans ((Below.refl w.heap.size wx).alloc hx.size _)
    have fk := h.add bx
    have hp : (fun i => P i ∨ (w.heap.size ≤ i ∧ i < (wx.alloc (mfO wx.heap.size b (Mf.nm 1) (.slice none 0 0) 1 0 1 false)).heap.size)) wx.heap.size := .inr ⟨hx.size, by simp⟩
    have hc := World.alloc_heap_new wx (mfO wx.heap.size b (Mf.nm 1) (.slice none 0 0) 1 0 1 false)
    refine (begin_ok _ b wx.heap.size σ (Mf.nm 1) none 0 Mf.first false fk hc hp (MtsAt.nil _ _ _) (by decide) bnd_first rec_first (by decide) hs hok).mono ?_
    rintro e w' ⟨rfl, f1, k1⟩
    refine ⟨rfl, ⟨_, ⟨f1, ⟨none, 0, (k1.keep _ hp).trans hc, MtsAt.nil _ _ _, fun h0 => absurd rfl h0⟩, hp, Nat.le_trans h.low hx.size⟩, fun i hi => .inl hi⟩, (h.kp bx).trans (k1.narrow (fun i hi => .inl hi))⟩
  generalize Mf.b5 σ (Mf.nm 1) (frm (Mf.recB (Mf.fromV Mf.first))) = τ at BG ⊢
  generalize Mf.nm 1 = f at NM BG ⊢
  have w11 : IntKind.i64.wrap 1 = 1 := by decide
  clear h hs hm hok
  go_enter Tryz.func6, Tryz.ntmps6
  go_wp2_with (go_at_call 19; refine RD.mono ?_; rintro e w1 ⟨rfl, b1⟩; clear RD)
  obtain ⟨W1, hW1⟩ : ∃ W1, W1 = w1.alloc (vO (.slice none 0 0) 1 0 1) := ⟨_, rfl⟩
  have HW1 := hide hW1
  have p1 : W1.heap[w1.heap.size]? = some (vO (.slice none 0 0) 1 0 1) := by rw [hW1]; exact World.alloc_heap_new w1 _
  have B1 : Below w.heap.size w W1 := by rw [hW1]; exact b1.trans ((Below.refl _ _).alloc b1.size _)
  have KS : Hid (∀ wx, Below W1.heap.size W1 wx → wx.cell? ⟨w1.heap.size, 0, none⟩ = some (.slice none 0 0) ∧ wx.cell? ⟨w1.heap.size, 1, none⟩ = some (.int .i64 1) ∧ wx.cell? ⟨w1.heap.size, 2, none⟩ = some (.int .i64 0) ∧ wx.cell? ⟨w1.heap.size, 3, none⟩ = some (.int .i64 1)) := fun wx hx => by
    obtain ⟨q0, q1, q2, q3, _⟩ := slot4 ((hx.block _ (Array.getElem?_eq_some_iff.1 p1).1).trans p1)
    exact ⟨q0, q1, q2, q3⟩
  have P0 := KS.out _ (Below.refl _ W1).drew
  rw [← hW1]
  clear hW1 p1
  refine wp_region_held_drew (S := (fun wx => wx.cell? ⟨w1.heap.size, 0, none⟩ = some (.slice none 0 0) ∧ wx.cell? ⟨w1.heap.size, 1, none⟩ = some (.int .i64 1) ∧ wx.cell? ⟨w1.heap.size, 2, none⟩ = some (.int .i64 0) ∧ wx.cell? ⟨w1.heap.size, 3, none⟩ = some (.int .i64 1))) (by kernel_rfl) P0 (fun hHeld => ?_)
  refine takeH (oi := ?oih1) 0 21 (.pointer (some ⟨b, 0, none⟩)) ?hih1 ?hdh1 ?hwh1 ?hyh1 (by kernel_rfl) (by kernel_rfl) (by kernel_rfl) ?hQh1 (by assumption) ?_
  case hih1 => simp only [List.getElem?_toArray, List.getElem?_cons_zero]; rfl
  case hdh1 => rfl
  case hwh1 => rfl
  case hyh1 => (intro w hSw; (try dsimp only at hSw); go_simp)
  case hQh1 => exact fun _ _ _ h => h
  simp only [Act.put, List.setIfInBounds_toArray, List.set_cons_zero, List.set_cons_succ]
  refine takeH (oi := ?oih2) 1 22 (.int .i64 0) ?hih2 ?hdh2 ?hwh2 ?hyh2 (by kernel_rfl) (by kernel_rfl) (by kernel_rfl) ?hQh2 (by assumption) ?_
  case hih2 => simp only [List.getElem?_toArray, List.getElem?_cons_zero, List.getElem?_cons_succ]; rfl
  case hdh2 => rfl
  case hwh2 => rfl
  case hyh2 => (intro w hSw; (try dsimp only at hSw); go_simp)
  case hQh2 => exact fun _ _ _ h => h
  simp only [Act.put, List.setIfInBounds_toArray, List.set_cons_zero, List.set_cons_succ]
  refine takeH (oi := ?oih3) 2 23 (.int .i64 1) ?hih3 ?hdh3 ?hwh3 ?hyh3 (by kernel_rfl) (by kernel_rfl) (by kernel_rfl) ?hQh3 (by assumption) ?_
  case hih3 => simp only [List.getElem?_toArray, List.getElem?_cons_zero, List.getElem?_cons_succ]; rfl
  case hdh3 => rfl
  case hwh3 => rfl
  case hyh3 => (intro w hSw; (try dsimp only at hSw); go_simp)
  case hQh3 => exact fun _ _ _ h => h
  simp only [Act.put, List.setIfInBounds_toArray, List.set_cons_zero, List.set_cons_succ]
  refine takeH (oi := ?oih4) 4 25 (.agg #[.slice none 0 0, .int .i64 1, .int .i64 0, .int .i64 1]) ?hih4 ?hdh4 ?hwh4 ?hyh4 (by kernel_rfl) (by kernel_rfl) (by kernel_rfl) ?hQh4 (by assumption) ?_
  case hih4 => simp only [List.getElem?_toArray, List.getElem?_cons_zero, List.getElem?_cons_succ]; rfl
  case hdh4 => rfl
  case hwh4 => rfl
  case hyh4 => (intro w hSw; (try dsimp only at hSw); go_simp)
  case hQh4 => exact fun _ _ _ h => h
  simp only [Act.put, List.setIfInBounds_toArray, List.set_cons_zero, List.set_cons_succ]
  refine wpAnyH_ready (rs := [3]) (by kernel_rfl) (by simp) ?_
  refine AllReadyH.cons rfl (fun KK hK => ?_) AllReadyH.nil
  go_simp
  refine (NM.out _).mono ?_
  rintro r w2 ⟨rfl, b2⟩
  have D2 : Below W1.heap.size W1 w2 := (Below.refl _ _).drew.trans b2
  go_wp2_with (fail)
  refine hK.out _ _ (KS.out _ D2) (fun hHeld => ?_)
  clear hK KK
  refine takeH (oi := ?oih5) 5 26 (.agg #[.pointer none, .pointer (some ⟨b, 0, none⟩), str f, .slice none 0 0, .int .i64 1, .int .i64 0, .int .i64 1, .bool false]) ?hih5 ?hdh5 ?hwh5 ?hyh5 (by kernel_rfl) (by kernel_rfl) (by kernel_rfl) ?hQh5 (by assumption) ?_
  case hih5 => simp only [List.getElem?_toArray, List.getElem?_cons_zero, List.getElem?_cons_succ]; rfl
  case hdh5 => rfl
  case hwh5 => rfl
  case hyh5 => (intro w hSw; (try dsimp only at hSw); go_simp)
  case hQh5 => exact fun _ _ _ h => h
  simp only [Act.put, List.setIfInBounds_toArray, List.set_cons_zero, List.set_cons_succ]
  refine wpAnyH_ready (rs := [6]) (by kernel_rfl) (by simp) ?_
  refine AllReadyH.cons rfl (fun KK hK => ?_) AllReadyH.nil
  go_simp
  go_wp2_with (fail)
  have F3 := KS.out _ (D2.trans ((Below.refl W1.heap.size w2).alloc D2.size (.cells #[.pointer none, .pointer (some ⟨b, 0, none⟩), str f, .slice none 0 0, .int .i64 1, .int .i64 0, .int .i64 1, .bool false] 64)))
  refine hK.out _ _ F3 (fun hHeld => ?_)
  clear hK KK
  refine takeH (oi := ?oih6) 7 7 (.pointer (some ⟨w2.heap.size, 0, none⟩)) ?hih6 ?hdh6 ?hwh6 ?hyh6 (by kernel_rfl) (by kernel_rfl) (by kernel_rfl) ?hQh6 (by assumption) ?_
  case hih6 => simp only [List.getElem?_toArray, List.getElem?_cons_zero, List.getElem?_cons_succ]; rfl
  case hdh6 => rfl
  case hwh6 => rfl
  case hyh6 => (intro w hSw; (try dsimp only at hSw); go_simp)
  case hQh6 => exact fun _ _ _ h => h
  simp only [Act.put, List.setIfInBounds_toArray, List.set_cons_zero, List.set_cons_succ]
  refine wpAnyH_done (by kernel_rfl) ?_ _
  have E2 := B1.trans (D2.mono B1.size)
  clear KS P0 F3 hHeld NM
  go_wp2_with (go_at_call 21; refine (BG.out w2 E2).mono ?_; rintro r w3 ⟨rfl, M3, k3⟩; clear BG)
  go_ret2
  obtain ⟨Q, M3, hQ⟩ := M3
  exact ⟨_, Q, rfl, M3, hQ, k3⟩
end
end Go.Proofs.YtlhnjloimhcpfabGreatDoor
