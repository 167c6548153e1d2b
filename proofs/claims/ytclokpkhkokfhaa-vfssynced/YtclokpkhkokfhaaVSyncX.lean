/-
  .. and the calls ahead of the loop.
-/
import Derived.Test.YtclokpkhkokfhaaVSyncW
import Derived.Test.YtclokpkhkokfhaaKStep
namespace Go.Proofs.Ytclokpkhkokfhaa.vfsSynced
open Go.ChangeShapes Go.WideShapes Go.ChangeAt Go.RowKit Go.Maps Go.Sort Go.Shelf

def s2 : Vf.St := Vf.syncNames (Vf.create (Vf.new 1048576) Vf.Syn.log)
theorem s2_all : Vf.Syn.All s2 [] [] := Vf.Syn.begin_log.2.2.1
theorem s2_on : s2.on = true := Vf.Syn.begin_log.2.2.2.1
theorem s2_steps : s2.steps ≤ 2 := Vf.Syn.begin_log.2.2.2.2

theorem new_s (w wx : World) (hw : Below w.heap.size w wx) : Calls Try.prog 8 #[.int .i64 1048576] wx fun e w' => ∃ b, e = .returned (.tuple #[.pointer (some ⟨b, 0, none⟩), .int .i64 0]) ∧ FsIn w.heap.size w'.heap.size w' b (Vf.new 1048576) ∧ Below wx.heap.size wx w' := by
  refine (new_fs wx 1048576 (by decide)).mono ?_
  rintro e w' ⟨b, rfl, f, h2⟩
  obtain ⟨S, hr, hS⟩ := f.rep
  exact ⟨b, rfl, ⟨⟨S, hr, fun i hi => ⟨Nat.le_trans hw.size (hS i hi).1, (hS i hi).2⟩⟩, f.inv, Nat.le_trans hw.size f.low, f.lim⟩, h2⟩

theorem c1 (w : World) : ∀ wx lim b, FsIn w.heap.size lim wx b (Vf.new 1048576) → Calls Try.prog 10 #[.pointer (some ⟨b, 0, none⟩), .string ⟨#[108, 111, 103]⟩] wx fun e w' => e = .returned (.int .i64 0) ∧ FsIn w.heap.size w'.heap.size w' b (Vf.create (Vf.new 1048576) Vf.Syn.log) ∧ Below w.heap.size wx w' := fun wx lim b h => by
  have := create_fs h (by decide) Vf.Syn.log (by decide)
  rw [Vf.Syn.begin_log.1] at this
  exact this
theorem c2 (w : World) : ∀ wx lim b, FsIn w.heap.size lim wx b (Vf.create (Vf.new 1048576) Vf.Syn.log) → Calls Try.prog 12 #[.pointer (some ⟨b, 0, none⟩)] wx fun e w' => e = .returned (.int .i64 0) ∧ FsIn w.heap.size w'.heap.size w' b s2 ∧ Below w.heap.size wx w' := fun wx lim b h => by
  have := syncNames_fs h (by decide +kernel)
  rw [Vf.Syn.begin_log.2.1] at this
  exact this
theorem c3 (w : World) (F : Nat) (hF : F ≤ 9223372036854775807) : ∀ wx lim b, FsIn w.heap.size lim wx b s2 → Calls Try.prog 20 #[.pointer (some ⟨b, 0, none⟩), .int .i64 (F : Int)] wx fun e w' => e = .returned (.int .i64 0) ∧ FsIn w.heap.size w'.heap.size w' b (Vf.setFuse s2 (F : Int)) ∧ Below w.heap.size wx w' := fun wx lim b h => by
  have := fuse_fs h (F : Int) (by omega)
  have e : Vf.fuseE s2 (F : Int) = 0 := by unfold Vf.fuseE; rw [if_pos (Vf.refuse_ok s2_on), if_neg (by omega)]
  rw [e] at this
  exact this
theorem start_i {w wr : World} {lim b : Nat} {τ : Vf.St} (h : FsIn w.heap.size lim wr b τ) (hb : Below w.heap.size w wr) : ∃ S, SyncI w b wr τ [] [] (.slice none 0 0) (.slice none 0 0) S := by
  obtain ⟨S, hr, hS⟩ := h.rep
  exact ⟨S, ⟨hr, fun i hi => (hS i hi).1, hb, World.ownsRow_nil _ _ _ _, World.ownsRow_nil _ _ _ _, (fun g hg => by cases hg), (fun g hg => by cases hg)⟩⟩
theorem row_room {w : World} {base n : Nat} {v : Value} {xs : List Value} {a : Option Addr} {c : Nat} (h : w.ownsRow base 5 1 v n xs) (e : v = .slice a n c) : n ≤ c ∧ (a = none → n = 0 ∧ c = 0) := by
  rcases h.2 with ⟨rfl, h0⟩ | ⟨g, cap, cur, rfl, _, _, hnc, _⟩
  · cases e; exact ⟨by omega, fun _ => ⟨h0, rfl⟩⟩
  · cases e; exact ⟨hnc, fun e => by cases e⟩
theorem rec_get {w : World} {a : Option Addr} {n cap : Nat} {rs : List Vf.Bs} (h : RecsAt w (.slice a n cap) rs) (j : Nat) (hj : j < rs.length) : ∃ b off pa pc, a = some ⟨b, off, none⟩ ∧ w.cell? ⟨b, off + j, none⟩ = some (.slice pa (rs[j]).length pc) ∧ (rs[j].length ≤ 140737488355328 → BytesIn w (.slice pa (rs[j]).length pc) rs[j]) ∧ (rs[j]).length ≤ pc ∧ (pa = none → pc = 0) := by
  obtain ⟨a', c', e, h1, h2, h3, hf⟩ := h
  obtain ⟨b, off, ha, hat⟩ := hf (fun h0 => by rw [h0] at hj; cases hj)
  cases e
  obtain ⟨u, hc, hu⟩ := hat j hj
  have hu' := hu
  obtain ⟨pa, pc, rfl, k1, _, k3, _⟩ := hu
  exact ⟨b, off, pa, pc, ha, hc, fun hl => hu'.bytes hl, k1, k3⟩
/-- A copy of all. -/
theorem copy_i {w : World} {b : Nat} {wr : World} {τ : Vf.St} {A U : Vf.Bs} {aA : Option Addr} {cA : Nat} {vs : Value} {S : Nat → Prop} (h : SyncI w b wr τ A U (.slice aA A.length cA) vs S) (hn : aA = none → cA = 0) (hl : A.length ≤ 100000) :
    Calls Try.prog 29 #[.slice aA A.length cA] wr fun e w' => ∃ g c, e = .returned (.slice (some ⟨g, 0, none⟩) A.length c) ∧ SyncI w b w' τ A A (.slice aA A.length cA) (.slice (some ⟨g, 0, none⟩) A.length c) S := by
  refine (copyBytes_any wr aA cA A (bytes_of_own h.oa (by omega)) hn).mono ?_
  rintro e w' ⟨g, c, rfl, hx⟩
  have hb := hx.below (Nat.le_refl _) (by simp [Value.ownBlock])
  have h' := h.later hb
  refine ⟨g, c, rfl, h'.newS (own_base hx.own h.bel.size) (fun g' hg hs => ?_)⟩
  have h1 := (hx.own.lt g' hg).1
  have h2 := h.rep.low g' hs
  omega
end Go.Proofs.Ytclokpkhkokfhaa.vfsSynced
