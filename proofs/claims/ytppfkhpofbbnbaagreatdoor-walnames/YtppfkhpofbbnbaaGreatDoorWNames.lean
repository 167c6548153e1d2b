/-
  The examples of the chapter, that go beyond the first: a log opened anew, with and without what came before.
-/
import Derived.Test.YtppfkhpofbbnbaaGreatDoorWB
import Derived.Test.YtppfkhpofbbnbaaGreatDoorWOpenBad
import Derived.Test.YtppfkhpofbbnbaaGreatDoorKSameW
namespace Go.Proofs.YtppfkhpofbbnbaaGreatDoor
open Go.RowKit Go.Maps Go.Sort

theorem wrising_two (a b : Vf.Bs) : rising [a, b] = if a ≤ b then [a, b] else [b, a] := by
  unfold rising
  simp [List.mergeSort, List.MergeSort.Internal.splitInTwo, List.merge]
theorem wnames_two {σ : Vf.St} {a b : Vf.Bs} (ho : σ.on = true) (hh : σ.held.map (·.1) = [a, b]) (h : a ≤ b) : namesOf σ = [a, b] := by
  unfold namesOf; rw [if_pos ho, hh, wrising_two, if_pos h]
theorem wnames_back {σ : Vf.St} {a b : Vf.Bs} (ho : σ.on = true) (hh : σ.held.map (·.1) = [b, a]) (h : ¬ b ≤ a) : namesOf σ = [a, b] := by
  unfold namesOf; rw [if_pos ho, hh, wrising_two, if_neg h]

namespace Lv
def all : List Wl.Bat := [⟨1, l1⟩, ⟨2, l2⟩]
def s4 : Vf.St := beginS s3 2
def s5 : Vf.St := beginS s4 3
def tail : List Wl.Bat := [⟨2, l2⟩]
theorem n3 : namesOf s3 = [1].map Wl.seg := by decide +kernel
theorem n4 : namesOf s4 = [1, 2].map Wl.seg := by
  first
  | exact wnames_two (by decide +kernel) (by decide +kernel) (by decide +kernel)
  | exact wnames_back (by decide +kernel) (by decide +kernel) (by decide +kernel)
theorem d3 : ∀ k ∈ [1], Vf.findE s3 (Wl.seg k) = 0 := by decide +kernel
theorem d4 : ∀ k ∈ [1, 2], Vf.findE s4 (Wl.seg k) = 0 := by decide +kernel
theorem z3 : ∀ k ∈ [1], (Vf.read s3 (Wl.seg k)).length ≤ 10000000 := by decide +kernel
theorem z4 : ∀ k ∈ [1, 2], (Vf.read s4 (Wl.seg k)).length ≤ 10000000 := by decide +kernel
theorem on3 : s3.on = true := by decide +kernel
theorem on4 : s4.on = true := by decide +kernel
theorem t3 : s3.steps ≤ 80000000 := by decide +kernel
theorem t4 : s4.steps ≤ 80000000 := by decide +kernel
theorem e3 : beginE s3 2 = 0 := by decide +kernel
theorem e4 : beginE s4 3 = 0 := by decide +kernel
theorem r3 : Wl.rf (fun k => Vf.read s3 (Wl.seg k)) [1] 1 [] = some (all, 2) := by kernel_rfl
theorem r4 : Wl.rf (fun k => Vf.read s4 (Wl.seg k)) [1, 2] 1 [] = some (all, 3) := by kernel_rfl
theorem r5 : Wl.rf (fun k => Vf.read s4 (Wl.seg k)) [1, 2] 2 [] = some ([], 3) := by kernel_rfl
theorem g3 : Wl.goOnB all 1 = true := by decide +kernel
theorem g4 : Wl.goOnB all 5 = false := by decide +kernel
theorem b3 : Wl.behind all 1 = tail := by kernel_rfl
theorem i0 : Vf.Inv s0 := Vf.Inv.new (by decide)
theorem i1 : Vf.Inv s1 := beginS_inv i0 1
theorem i2 : Vf.Inv s2 := putS_inv i1 1 _
theorem i3 : Vf.Inv s3 := putS_inv i2 1 _
theorem i4 : Vf.Inv s4 := beginS_inv i3 2
end Lv

/-- Behind the second Open. -/
structure Op2 (base : Nat) (w : World) (c b : Nat) (v : Value) : Prop where
  rep : ∃ S vs n, Rep w b Lv.s4 S ∧ (∀ i, S i → base ≤ i) ∧ ¬ S c ∧ Bats n w v Lv.tail vs ∧ (∀ r, v.ownBlock = some r → ¬ S r) ∧ ∀ k (hk : k < vs.length) r, (vs[k]).ownBlock = some r → ¬ S r
  wal : WalAt w c b 2 2 false
  low : base ≤ w.heap.size
theorem Op2.later {base : Nat} {w w' : World} {c b : Nat} {v : Value} (h : Op2 base w c b v) (hb : Below w.heap.size w w') : Op2 base w' c b v := by
  obtain ⟨S, vs, n, h1, h2, h3, h4, h5, h6⟩ := h.rep
  exact ⟨⟨S, vs, n, h1.later hb, h2, h3, h4.later hb, h5, h6⟩, h.wal.later hb, Nat.le_trans h.low hb.size⟩

set_option maxRecDepth 100000 in
theorem nopen2 {base : Nat} {w : World} {c b : Nat} (h : WlIn base w c b 2 1 Lv.s3) : Calls Tryz.prog 15 #[.pointer (some ⟨b, 0, none⟩), .int .i64 1, .int .i64 1] w fun e w' => ∃ c v, e = .returned (.tuple #[.pointer (some ⟨c, 0, none⟩), v, .int .i64 0]) ∧ Op2 base w' c b v ∧ Below base w w' := by
  obtain ⟨S, hr, hS, _⟩ := h.rep
  have hlow := h.low
  refine (open_ok w b Lv.s3 S hr Lv.i3 Lv.t3 Lv.on3 [1] (by decide) (by decide) Lv.n3 Lv.d3 Lv.z3 1 1 (by decide) (by decide) (by decide) Lv.all 2 Lv.r3 (by decide) (by decide) Lv.g3 (by decide) (by decide) Lv.e3 2 rfl).mono ?_
  rintro e w' ⟨c', v, rfl, ho⟩
  obtain ⟨S', vs, r, hs, hc, hB, hv, hvs⟩ := ho.all
  rw [Lv.b3] at hB
  refine ⟨c', v, rfl, ⟨⟨S', vs, _, r, fun i hi => ?_, hc, hB, hv, hvs⟩, ho.wal, Nat.le_trans hlow ho.moved.size⟩, ho.moved.under hlow fun i hi => hS i hi⟩
  rcases hs i hi with h' | h'
  · exact hS i h'
  · omega

set_option maxRecDepth 100000 in
theorem nopen3 {base : Nat} {w : World} {c b : Nat} {v : Value} (h : Op2 base w c b v) : Calls Tryz.prog 15 #[.pointer (some ⟨b, 0, none⟩), .int .i64 1, .int .i64 5] w fun e w' => e = .returned (.tuple #[.pointer none, .slice none 0 0, .int .i64 6]) ∧ Op2 base w' c b v ∧ Below base w w' := by
  obtain ⟨S, vs, n, hr, _⟩ := h.rep
  refine (open_gap w b Lv.s4 S hr Lv.i4 Lv.t4 Lv.on4 [1, 2] (by decide) (by decide) Lv.n4 Lv.d4 Lv.z4 1 5 (by decide) (by decide) (by decide) Lv.all 3 Lv.r4 (by decide) (by decide) Lv.g4).mono ?_
  rintro e w' ⟨rfl, hb⟩
  exact ⟨rfl, h.later hb, hb.mono h.low⟩

/-- Behind the last Open. -/
structure Op3 (w : World) (c b c3 : Nat) (v : Value) : Prop where
  x : WalAt w c b 2 2 false
  z : WalAt w c3 b 2 3 false
  told : BatsAt w v Lv.tail

set_option maxRecDepth 100000 in
theorem nopen4 {base : Nat} {w : World} {c b : Nat} {v : Value} (h : Op2 base w c b v) : Calls Tryz.prog 15 #[.pointer (some ⟨b, 0, none⟩), .int .i64 2, .int .i64 2] w fun e w' => ∃ c3 a k, e = .returned (.tuple #[.pointer (some ⟨c3, 0, none⟩), .slice a 0 k, .int .i64 0]) ∧ Op3 w' c b c3 v ∧ Below base w w' := by
  obtain ⟨S, vs, n, hr, hS, hc, hB, hv, hvs⟩ := h.rep
  have hlow := h.low
  refine (open_ok w b Lv.s4 S hr Lv.i4 Lv.t4 Lv.on4 [1, 2] (by decide) (by decide) Lv.n4 Lv.d4 Lv.z4 2 2 (by decide) (by decide) (by decide) [] 3 Lv.r5 (by simp) (by simp) rfl (by decide) (by decide) Lv.e4 2 rfl).mono ?_
  rintro e w' ⟨c', u, rfl, ho⟩
  obtain ⟨S', us, r, hs, hc', hB', _, _⟩ := ho.all
  obtain ⟨a, k, rfl, _⟩ := hB'.shape
  have keep : ∀ {e sz n m : Nat} {u : Value} {xs : List Value}, w.ownsRow n e sz u m xs → (∀ r, u.ownBlock = some r → ¬ S r) → w'.ownsRow n e sz u m xs := fun {e sz n m u xs} hown hn => ownsRow_same hown fun g hg => ho.moved.block g (hown.lt g hg).2 (hn g hg)
  have hB2 : Bats n w' v Lv.tail vs := ⟨hB.len, keep hB.row hv, fun k hk hk' => keep (hB.own k hk hk') (hvs k hk)⟩
  exact ⟨c', a, k, rfl, ⟨h.wal.moved ho.moved hc, ho.wal, BatsAt.of hB2⟩, ho.moved.under hlow fun i hi => hS i hi⟩

theorem BatsAt.later {w w' : World} {v : Value} {l : List Wl.Bat} (h : BatsAt w v l) (hb : Below w.heap.size w w') : BatsAt w' v l := by
  obtain ⟨⟨a, cap, e, hf⟩⟩ := h
  refine ⟨⟨a, cap, e, fun h0 => ?_⟩⟩
  obtain ⟨b, off, ha, hat⟩ := hf h0
  refine ⟨b, off, ha, fun j hj => ?_⟩
  obtain ⟨x, m, c, c0, c1, c2⟩ := hat j hj
  exact ⟨x, m, c, keepC hb c0, keepC hb c1, c2.later hb⟩

/-- One batch of one write, in blocks of their own. -/
theorem one_batch (w : World) (q : Nat) (k v : Wl.Bs) (d : Bool) : BatsAt ((w.alloc (.cells #[str k, str v, .bool d] 34)).alloc (.cells #[.int .i64 (q : Int), .slice (some ⟨w.heap.size, 0, none⟩) 1 1] 29)) (.slice (some ⟨w.heap.size + 1, 0, none⟩) 1 1) [⟨q, [⟨k, v, d⟩]⟩] := by
  have e := World.alloc_heap_new (w.alloc (.cells #[str k, str v, .bool d] 34)) (.cells #[.int .i64 (q : Int), .slice (some ⟨w.heap.size, 0, none⟩) 1 1] 29)
  rw [World.size_alloc] at e
  refine ⟨⟨_, 1, rfl, fun _ => ⟨_, 0, rfl, fun j hj => ?_⟩⟩⟩
  have : j = 0 := by simpa using hj
  subst this
  refine ⟨_, _, _, Joins.cell_of_block e 0, Joins.cell_of_block e 1, (one_write w k v d).later ((Below.refl _ _).alloc (Nat.le_refl _) _)⟩
end Go.Proofs.YtppfkhpofbbnbaaGreatDoor
