/-
  The small calls of a table: whether Open made it, how many entries and blocks it has, its last key, how many blocks were read.
-/
import Derived.Test.YtolalicliojkfaaGreatSOpen
import Derived.LaidEqlPtr
namespace Go.Proofs.YtolalicliojkfaaGreat
open Go.RowKit

theorem infoSTab : ∃ j, Tryz.prog.info? 80 = some j := Option.isSome_iff_exists.1 (by kernel_rfl)
set_option maxRecDepth 10000 in
theorem smade_yes (w : World) (b : Nat) (hc : w.cell? ⟨b, 0, none⟩ = some (.pointer (some ⟨b, 0, none⟩))) : Calls Tryz.prog 45 #[.pointer (some ⟨b, 0, none⟩)] w fun e w' => e = .returned (.bool true) ∧ w' = w := by
  obtain ⟨j, hj⟩ := infoSTab
  have q := run_eql_ptr_same w ⟨b, 0, none⟩ Tryz.underlying36 hj
  clear hj
  go_enter Tryz.func45, Tryz.ntmps45
  go_wp2_with (fail)
  go_ret
  exact ⟨rfl, rfl⟩
theorem TabAt.cells {w : World} {base B n : Nat} {t : Ss.Tab} (h : TabAt w base B t n) : ∃ ba bc' fa fc pa pc, (w.cell? ⟨B, 0, none⟩ = some (.pointer (some ⟨B, 0, none⟩)) ∧ w.cell? ⟨B, 1, none⟩ = some (.slice ba t.blocks.length bc') ∧ w.cell? ⟨B, 2, none⟩ = some (.slice fa t.filter.length fc) ∧ w.cell? ⟨B, 3, none⟩ = some (.slice pa t.parts.length pc) ∧ w.cell? ⟨B, 4, none⟩ = some (.int .i64 (t.entries : Int)) ∧ w.cell? ⟨B, 5, none⟩ = some (.int .i64 (n : Int))) ∧ w.frozen? ⟨B, 5, none⟩ = false ∧
    w.ownsRow base 5 1 (.slice ba t.blocks.length bc') t.blocks.length (bc t.blocks) ∧ w.ownsRow base 5 1 (.slice fa t.filter.length fc) t.filter.length (bc t.filter) ∧ w.ownsRow base 78 6 (.slice pa t.parts.length pc) t.parts.length (pcs t.parts) := by
  obtain ⟨⟨bv, fv, pv, h1, ⟨h2, h3, h4⟩, _⟩, _⟩ := h
  obtain ⟨ba, bc', rfl⟩ := row_shape h2
  obtain ⟨fa, fc, rfl⟩ := row_shape h3
  obtain ⟨pa, pc, rfl⟩ := row_shape h4
  exact ⟨ba, bc', fa, fc, pa, pc, ⟨Joins.cell_of_block h1 0, Joins.cell_of_block h1 1, Joins.cell_of_block h1 2, Joins.cell_of_block h1 3, Joins.cell_of_block h1 4, Joins.cell_of_block h1 5⟩, Joins.unfrozen_of_block h1 5, h2, h3, h4⟩

theorem slen_any (w : World) (base B n : Nat) (t : Ss.Tab) (h : TabAt w base B t n) : Calls Tryz.prog 14 #[.pointer (some ⟨B, 0, none⟩)] w fun e w' => e = .returned (.int .i64 (t.entries : Int)) ∧ w' = w := by
  obtain ⟨ba, bc', fa, fc, pa, pc, ⟨c0, c1, c2, c3, c4, c5⟩, f5, _⟩ := h.cells
  have MD := smade_yes w B c0
  go_enter Tryz.func14, Tryz.ntmps14
  go_wp2_with (first
    | (go_at_call 45; refine MD.mono ?_; rintro e w' ⟨rfl, rfl⟩))
  go_ret
  exact ⟨rfl, rfl⟩
theorem sblocks_any (w : World) (base B n : Nat) (t : Ss.Tab) (h : TabAt w base B t n) : Calls Tryz.prog 15 #[.pointer (some ⟨B, 0, none⟩)] w fun e w' => e = .returned (.int .i64 (t.parts.length : Int)) ∧ w' = w := by
  obtain ⟨ba, bc', fa, fc, pa, pc, ⟨c0, c1, c2, c3, c4, c5⟩, f5, _⟩ := h.cells
  have MD := smade_yes w B c0
  go_enter Tryz.func15, Tryz.ntmps15
  go_wp2_with (first
    | (go_at_call 45; refine MD.mono ?_; rintro e w' ⟨rfl, rfl⟩))
  go_ret
  exact ⟨rfl, rfl⟩
theorem sreads_any (w : World) (base B n : Nat) (t : Ss.Tab) (h : TabAt w base B t n) : Calls Tryz.prog 17 #[.pointer (some ⟨B, 0, none⟩)] w fun e w' => e = .returned (.int .i64 (n : Int)) ∧ w' = w := by
  obtain ⟨ba, bc', fa, fc, pa, pc, ⟨c0, c1, c2, c3, c4, c5⟩, f5, _⟩ := h.cells
  have MD := smade_yes w B c0
  go_enter Tryz.func17, Tryz.ntmps17
  go_wp2_with (first
    | (go_at_call 45; refine MD.mono ?_; rintro e w' ⟨rfl, rfl⟩))
  go_ret
  exact ⟨rfl, rfl⟩
/-- The last key of a list of parts. -/
def lastKeyP (ps : List Ss.Prt) : List UInt8 := (ps.getLast?.map (·.key)).getD []
set_option maxRecDepth 100000 in
set_option maxHeartbeats 1000000 in
theorem slast_any (w : World) (base B n : Nat) (t : Ss.Tab) (h : TabAt w base B t n) (h0 : 1 ≤ t.parts.length) (hm : t.parts.length ≤ 1000000) : Calls Tryz.prog 16 #[.pointer (some ⟨B, 0, none⟩)] w fun e w' => e = .returned (str (lastKeyP t.parts)) ∧ Below w.heap.size w w' := by
  obtain ⟨ba, bc', fa, fc, pa, pc, ⟨c0, c1, c2, c3, c4, c5⟩, f5, _, _, o⟩ := h.cells
  have MD := smade_yes w B c0
  generalize t.parts = ps at *
  rcases List.eq_nil_or_concat ps with ho | ⟨p', q, ho⟩
  · rw [ho] at h0; simp at h0
  rw [List.concat_eq_append] at ho
  have hlen : ps.length = p'.length + 1 := by rw [ho]; simp
  have HK : Hid (lastKeyP ps = q.key) := by show _ = _; rw [ho]; unfold lastKeyP; rw [List.getLast?_concat]; rfl
  obtain ⟨⟨pa', pc', hv, hpc, hpf⟩⟩ := PartsAt.own o
  obtain ⟨pg, rfl, hg1, hcell⟩ := hpf (by intro e; rw [e] at h0; simp at h0)
  simp only [Value.slice.injEq, true_and] at hv
  obtain ⟨rfl, rfl⟩ := hv
  obtain ⟨d0, d1, d2, d3, d4, d5⟩ := hcell p'.length (by omega)
  have hq : ps[p'.length]'(by omega) = q := by simp [ho]
  rw [hq] at d2
  rw [hlen] at c3 hpc hm
  rw [HK.out]
  clear d0 d1 d3 d4 d5 hcell hpf o hq hg1 ho hlen h0 HK
  generalize p'.length = k at *
  generalize q.key = K at *
  have q1 : ((k + 1 : Nat) : Int) > 0 := by omega
  have q2 : (k : Int) < ((k + 1 : Nat) : Int) := by omega
  have q3 : (0 : Int) ≤ (k : Int) := by omega
  have q4 : (k : Int) < (k : Int) + 1 := by omega
  have wm : IntKind.i64.wrap (k : Int) = (k : Int) := by rw [IntKind.wrap_i64]; omega
  have wm1 : IntKind.i64.wrap ((k : Int) + 1) = (k : Int) + 1 := by rw [IntKind.wrap_i64]; omega
  go_enter Tryz.func16, Tryz.ntmps16
  go_wp2_with (first
    | (go_at_call 45; refine MD.mono ?_; rintro e w' ⟨rfl, rfl⟩))
  go_quiet (fail)
  go_wp2_with (fail)
  go_ret
  exact ⟨rfl, below_drewN (Below.refl _ _) _⟩
end Go.Proofs.YtolalicliojkfaaGreat
