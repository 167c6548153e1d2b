/-
  What a manifest tells: its version, its file's name; and whether Open made it.
-/
import Derived.Test.YtlhnjloimhcpfaaGreatDoorYOpen0
import Derived.LaidEqlPtr
namespace Go.Proofs.YtlhnjloimhcpfaaGreatDoor
open Go.RowKit

theorem eql_left {P : Program} (w : World) {tp te : TypeId} (a : Addr) (hp : P.underlying tp = some (.pointer te)) :
    (binOp .eql tp (.pointer none) (.pointer (some a))).run P w = .ok (.bool false) w := by
  have h : ∀ d : Nat, (Op.equalIn (d + 1) tp (.pointer none) (.pointer (some a))).run P w = .ok false w := fun d => by
    simp [Op.equalIn, run_underlying hp, sizeOf, typeInfo]
  simp only [binOp]
  simp [Op.equal, Op.maxDepth, h 9999]
theorem infoMf : ∃ j, Tryz.prog.info? 79 = some j := Option.isSome_iff_exists.1 (by kernel_rfl)

section
variable {P : Nat → Prop} {base : Nat} {w : World} {c b : Nat} {σ : Vf.St} {f : Mf.Bs} {v : Mf.Vn} {br : Bool}
theorem MfIn.later {w' : World} (h : MfIn P base w c b σ f v br) (hb : Below w.heap.size w w') : MfIn P base w' c b σ f v br := by
  obtain ⟨ta, tc, h1, h2, h3⟩ := h.blk
  exact ⟨h.fs.later hb, ⟨ta, tc, (hb.block _ (Array.getElem?_eq_some_iff.1 h1).1).trans h1, h2.later hb, h3⟩, h.pc, h.new⟩

set_option maxRecDepth 100000 in
theorem made_yes {t : Value} {lo se ne : Int} (hc : w.heap[c]? = some (mfO c b f t lo se ne br)) : Calls Tryz.prog 51 #[.pointer (some ⟨c, 0, none⟩)] w fun e w' => e = .returned (.bool true) ∧ w' = w := by
  have c0 := Joins.cell_of_block hc 0
  obtain ⟨j, hj⟩ := infoMf
  have q := run_eql_ptr_same w ⟨c, 0, none⟩ Tryz.underlying26 hj
  clear hc hj
  go_enter Tryz.func51, Tryz.ntmps51
  go_wp2_with (fail)
  go_ret
  exact ⟨rfl, rfl⟩

/-- A manifest that nobody made. -/
def NoMf (w : World) (r : Value) : Prop := r = .pointer none ∨ ∃ c, r = .pointer (some ⟨c, 0, none⟩) ∧ w.cell? ⟨c, 0, none⟩ = some (.pointer none)
theorem NoMf.later {w' : World} {r : Value} (h : NoMf w r) (hb : Below w.heap.size w w') : NoMf w' r := by
  rcases h with rfl | ⟨c, rfl, hc⟩
  · exact .inl rfl
  · exact .inr ⟨c, rfl, keepC hb hc⟩
set_option maxRecDepth 100000 in
theorem made_no {r : Value} (h : NoMf w r) : Calls Tryz.prog 51 #[r] w fun e w' => e = .returned (.bool false) ∧ w' = w := by
  rcases h with rfl | ⟨c, rfl, hc⟩
  · go_enter Tryz.func51, Tryz.ntmps51
    go_wp2_with (fail)
    go_ret
    exact ⟨rfl, rfl⟩
  · have q := eql_left w ⟨c, 0, none⟩ Tryz.underlying26
    go_enter Tryz.func51, Tryz.ntmps51
    go_wp2_with (fail)
    go_ret
    exact ⟨rfl, rfl⟩

theorem file_any (h : MfIn P base w c b σ f v br) : Calls Tryz.prog 14 #[.pointer (some ⟨c, 0, none⟩)] w fun e w' => e = .returned (str f) ∧ w' = w := by
  obtain ⟨ta, tc, h1, _⟩ := h.blk
  have MD := made_yes h1
  have c2 := Joins.cell_of_block h1 2
  clear h h1
  go_enter Tryz.func14, Tryz.ntmps14
  go_wp2_with (go_at_call 51; refine still MD ?_)
  go_ret
  exact ⟨rfl, rfl⟩
theorem no_file {r : Value} (h : NoMf w r) : Calls Tryz.prog 14 #[r] w fun e w' => e = .returned (str []) ∧ w' = w := by
  have MD := made_no h
  clear h
  go_enter Tryz.func14, Tryz.ntmps14
  go_wp2_with (go_at_call 51; refine still MD ?_)
  go_ret
  exact ⟨rfl, rfl⟩

set_option maxRecDepth 100000 in
set_option maxHeartbeats 2000000 in
theorem version_any (h : MfIn P base w c b σ f v br) (hlen : v.tabs.length ≤ 1000000) (hs : ∀ x ∈ v.tabs, x.first.length ≤ 1000000 ∧ x.last.length ≤ 1000000) :
    Calls Tryz.prog 16 #[.pointer (some ⟨c, 0, none⟩)] w fun e w' => ∃ ta tc, e = .returned (vv (.slice ta v.tabs.length tc) v.log v.seq v.next) ∧ Hid (MtsAt w' (.slice ta v.tabs.length tc) v.tabs) ∧ Below w.heap.size w w' := by
  obtain ⟨ta, tc, h1, h2, _⟩ := h.blk
  obtain ⟨L, hL⟩ : ∃ L, L = v.tabs.length := ⟨_, rfl⟩
  rw [← hL] at h1
  obtain ⟨W, hW⟩ : ∃ W, W = w.alloc (vO (.slice none 0 0) 0 0 0) := ⟨_, rfl⟩
  have HW := hide hW
  have b0 : Below w.heap.size w W := by rw [hW]; exact (Below.refl _ _).alloc (Nat.le_refl _) _
  have p0 : W.heap[w.heap.size]? = some (vO (.slice none 0 0) 0 0 0) := by rw [hW]; exact World.alloc_heap_new w _
  have z0 : W.heap.size = w.heap.size + 1 := by rw [hW]; simp
  have h1' := (b0.block _ (Array.getElem?_eq_some_iff.1 h1).1).trans h1
  have MD := hide (made_yes h1')
  obtain ⟨_, _, c3, c4, c5, c6⟩ := mf_cells h1'
  rw [hW] at MD c3 c4 c5 c6
  have B1 : Hid (Below w.heap.size w (W.alloc (vO (.slice ta L tc) v.log v.seq v.next))) := b0.alloc b0.size _
  have CP : Hid (Calls Tryz.prog 54 #[.slice ta L tc] ((w.alloc (vO (.slice none 0 0) 0 0 0)).alloc (vO (.slice ta L tc) v.log v.seq v.next)) fun r w' => ∃ t2 c2, r = .returned (.slice t2 L c2) ∧ Hid (w'.ownsRow (w.heap.size + 2) 45 5 (.slice t2 L c2) L (mcs v.tabs)) ∧ Below (W.alloc (vO (.slice ta L tc) v.log v.seq v.next)).heap.size (W.alloc (vO (.slice ta L tc) v.log v.seq v.next)) w') := by
    have := copied_any (W.alloc (vO (.slice ta L tc) v.log v.seq v.next)) ta tc v.tabs (h2.later B1.out) hlen hs
    rw [← hL] at this
    rw [← hW]
    refine this.mono ?_
    rintro r w' ⟨u, rfl, o, bb⟩
    obtain ⟨t2, c2, rfl⟩ := row_shp o
    exact ⟨t2, c2, rfl, own_lift o (by simp; omega), bb⟩
  have KS : Hid (∀ wx, Below (W.alloc (vO (.slice ta L tc) v.log v.seq v.next)).heap.size (W.alloc (vO (.slice ta L tc) v.log v.seq v.next)) wx → wx.heap[w.heap.size]? = some (vO (.slice none 0 0) 0 0 0) ∧ wx.heap[w.heap.size + 1]? = some (vO (.slice ta L tc) v.log v.seq v.next)) := fun wx hx => by
    have q1 := World.alloc_heap_new W (vO (.slice ta L tc) v.log v.seq v.next)
    rw [z0] at q1
    exact ⟨(hx.block _ (by simp; omega)).trans ((Below.heap_alloc W _ _ (by omega)).trans p0), (hx.block _ (by simp; omega)).trans q1⟩
  rw [← hL]
  clear h h1 h2 hs hlen hW b0 p0 h1' hL
  go_enter Tryz.func16, Tryz.ntmps16
  go_wp2_with (first
    | (go_at_call 51; refine still MD.out ?_; clear MD)
    | (go_at_call 54; refine CP.out.mono ?_; rintro r w2 ⟨t2, c2, rfl, HO, b2⟩; obtain ⟨p2, p3⟩ := KS.out _ b2; obtain ⟨y0, y1, y2, y3, u0, u1, u2, u3, lt2⟩ := slot4 p2; obtain ⟨x0, x1, x2, x3, v0, v1, v2, v3, lt3⟩ := slot4 p3; have HP2 := hide p2; have HP3 := hide p3; clear p2 p3 CP KS))
  have g3 := grown_setc w2 (w.heap.size + 1) 0 (.slice t2 L c2)
  have P3 := (g3.block _ (Array.getElem?_eq_some_iff.1 HP2.out).1 (by simp)).trans HP2.out
  obtain ⟨P5, G5⟩ := store4 P3 (.slice t2 L c2) (.int .i64 v.log) (.int .i64 v.seq) (.int .i64 v.next)
  have D2 := B1.out.trans (b2.mono B1.out.size)
  have D3 := D2.grown g3 D2.size (fun k hk => by cases hk; omega)
  have B5 : Below w.heap.size w _ := D3.grown G5 D3.size (fun k hk => by cases hk; exact Nat.le_refl _)
  have off1 : ∀ k, k < w.heap.size + 2 → (Value.slice t2 L c2).ownBlock = none ∨ (Value.slice t2 L c2).ownBlock ≠ some k := fun k hk => by
    cases ho : (Value.slice t2 L c2).ownBlock with
    | none => exact .inl rfl
    | some g => exact .inr (by have := (HO.out.lt g ho).1; simp; omega)
  have O5 := hide ((HO.out.kept g3 (off1 _ (by omega))).kept G5 (off1 _ (by omega)))
  generalize (((((w2.setCell ⟨w.heap.size + 1, 0, none⟩ (.slice t2 L c2)).setCell ⟨w.heap.size, 0, none⟩ (.slice t2 L c2)).setCell ⟨w.heap.size, 1, none⟩ (.int .i64 v.log)).setCell ⟨w.heap.size, 2, none⟩ (.int .i64 v.seq)).setCell ⟨w.heap.size, 3, none⟩ (.int .i64 v.next)) = W5 at P5 B5 O5 ⊢
  obtain ⟨q0, q1, q2, q3, _⟩ := slot4 P5
  refine bodyPost_ret (v := vv (.slice t2 L c2) v.log v.seq v.next) (by simp [results, Tryz.results16, go_sem, q0, q1, q2, q3]) rfl ?_
  have hLL : L = v.tabs.length := by have := O5.out.1; rw [mcs_length] at this; omega
  exact ⟨t2, c2, rfl, MtsAt.own (by rw [← hLL]; exact O5.out), B5⟩
end
end Go.Proofs.YtlhnjloimhcpfaaGreatDoor
