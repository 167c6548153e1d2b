/-
  The walk of MemNames: the chapter's examples, one by one.
-/
import Derived.Test.YtgfkchdlhknecaaMLane
import Derived.Test.YtgfkchdlhknecaaMInts
namespace Go.Proofs.Ytgfkchdlhknecaa
open Go.RowKit

namespace Mm
def mk (x : It) : Nd := ⟨0, x.1, 0, x.2⟩
theorem mk_it (ns : List Nd) (f : Nd → Nd) (hf : ∀ x, f x = mk (it x)) : (ns.map it).map mk = ns.map f := by
  rw [List.map_map]
  exact List.map_congr_left fun x _ => (hf x).symm
theorem cnt_map (k : Nat) (q : List Nd) (f : Nd → Nd) (hf : ∀ x, (f x).h = x.h) : cnt k (q.map f) = cnt k q := by
  unfold cnt
  rw [List.filter_map, List.length_map]
  congr 1
  exact List.filter_congr fun x _ => by show on k (f x) = on k x; unfold on; rw [hf]
theorem any_map (k : Nat) (q : List Nd) (f : Nd → Nd) (hf : ∀ x, (f x).h = x.h) : (q.map f).any (on k) = q.any (on k) := by
  rw [List.any_map]
  congr 1
  funext x
  show on k (f x) = on k x
  unfold on; rw [hf]
theorem rest_map (k : Nat) (q : List Nd) (f : Nd → Nd) (hf : ∀ x, (f x).h = x.h) : rest k (q.map f) = (rest k q).map f := by
  induction q with
  | nil => rfl
  | cons y r ih =>
    rw [List.map_cons, rest, rest, any_map k r f hf, ih, show on k (f y) = on k y by unfold on; rw [hf]]
    split
    · rfl
    · split <;> rfl
theorem costs_map (b : List Nd) (f : Nd → Nd) (hf : ∀ x, (f x).h = x.h) : ∀ (k : Nat) (q : List Nd), costs (b.map f) k (q.map f) = costs b k q := by
  intro k
  induction k with
  | zero => intro q; rfl
  | succ k ih => intro q; rw [costs, costs, cnt_map k q f hf, rest_map k q f hf, ih]; unfold one; rw [any_map k b f hf]
def costL (l : List It) (k : Bs) (s : Int) : Nat := cost (l.map mk) k s
theorem cost_map (ns : List Nd) (k : Bs) (s : Int) : cost ns k s = costL (ns.map it) k s := by
  unfold costL cost
  rw [mk_it ns (fun x => mk (it x)) (fun _ => rfl)]
  have e1 : front ⟨k, [], s, false⟩ (ns.map fun x => mk (it x)) = (front ⟨k, [], s, false⟩ ns).map fun x => mk (it x) := by
    unfold front; rw [List.takeWhile_map]; rfl
  have e2 : back ⟨k, [], s, false⟩ (ns.map fun x => mk (it x)) = (back ⟨k, [], s, false⟩ ns).map fun x => mk (it x) := by
    unfold back; rw [List.dropWhile_map]; rfl
  rw [e1, e2]
  exact (costs_map _ (fun x => mk (it x)) (fun _ => rfl) 12 _).symm
end Mm

section
variable {S : Nat → Prop} {w : World} {b : Nat} {hs : List Nat} {l : List Mm.It}
theorem cost_s (h : TabS S w b hs l) (hl : l.length ≤ 100000) (k : Mm.Bs) (s : Int) : Calls Try.prog 15 #[.pointer (some ⟨b, 0, none⟩), str k, .int .i64 s] w fun r w' => r = .returned (.int .i64 (Mm.costL l k s : Int)) ∧ Below w.heap.size w w' := by
  obtain ⟨hvv, hd, ns, T, rfl, hSS⟩ := h
  have := cost_any w b hvv hs hd ns T (by rw [List.length_map] at hl; omega) k s
  rw [Mm.cost_map] at this
  exact this
theorem lane_s (h : TabS S w b hs l) (hl : l.length ≤ 100000) (n : Nat) (hn : n < 12) : Calls Try.prog 14 #[.pointer (some ⟨b, 0, none⟩), .int .i64 ((n : Int) + 1)] w fun r w' => ∃ a c, r = .returned (.slice a (Mm.places (n + 1) 0 l).length c) ∧ IntsAt w' (.slice a (Mm.places (n + 1) 0 l).length c) ((Mm.places (n + 1) 0 l).map fun (x : Nat) => (x : Int)) ∧ Below w.heap.size w w' := by
  obtain ⟨hvv, hd, ns, T, rfl, hSS⟩ := h
  refine (lane_any w b hvv hs hd ns T (by rw [List.length_map] at hl; omega) n hn).mono ?_
  rintro r w' ⟨v, rfl, o, bb⟩
  obtain ⟨a, c, rfl⟩ := row_shape o
  refine ⟨a, c, rfl, ?_, bb⟩
  have e : ncs (Mm.places (n + 1) 0 (ns.map Mm.it)) = ics ((Mm.places (n + 1) 0 (ns.map Mm.it)).map fun (x : Nat) => (x : Int)) := by simp [ncs, ics]
  rw [e, ← List.length_map (f := fun (x : Nat) => (x : Int))] at o
  have := IntsAt.own o
  rw [List.length_map] at this
  exact this
end

namespace Mm
theorem exG0 : gotL exL [98] 0 = none := by kernel_rfl
theorem exG3 : gotL exL [98] 3 = some b3 := by kernel_rfl
theorem exP1 : places 1 0 exL = [0, 1, 2] := by kernel_rfl
theorem exP2 : places 2 0 exL = [1, 2] := by kernel_rfl
theorem exP3 : places 3 0 exL = [1] := by kernel_rfl
theorem exP4 : places 4 0 exL = [] := by kernel_rfl
theorem exC1 : costL exL [98] 3 = 4 := by kernel_rfl
theorem exC2 : costL exL [97] 2 = 3 := by kernel_rfl
theorem exA1 : addE b3 exL = 9 ∧ addL [2, 1, 3] b3 exL = exL := ⟨by kernel_rfl, by kernel_rfl⟩
def e0 : Ent := ⟨[], [], 1, false⟩
theorem exA2 : addE e0 exL = 2 ∧ addL [2, 1, 3] e0 exL = exL := ⟨by kernel_rfl, by kernel_rfl⟩
theorem exS : bytesL exL = 3 := by kernel_rfl
end Mm

namespace memNames
abbrev Ex (w : World) (wx : World) (b : Nat) : Prop := TabS (fun i => w.heap.size ≤ i) wx b [2, 1, 3] Mm.exL

theorem lane_ex {w wx : World} {b : Nat} (h : Ex w wx b) (n : Nat) (hn : n < 12) (m : Int) (hm : (n : Int) + 1 = m) (P : List Nat) (hP : Mm.places (n + 1) 0 Mm.exL = P) (L : Nat) (hL : L = P.length) : Calls Try.prog 14 #[.pointer (some ⟨b, 0, none⟩), .int .i64 m] wx fun r w' => ∃ a c, r = .returned (.slice a L c) ∧ IntsAt w' (.slice a L c) (P.map fun (x : Nat) => (x : Int)) ∧ Below wx.heap.size wx w' := by
  have := lane_s h (by decide) n hn
  rw [hm, hP] at this
  subst hL
  exact this
theorem same_ex (wx : World) (a : Option Addr) (c n : Nat) (l : List Int) (cs : Array Value) (h : IntsAt wx (.slice a n c) l) (hcs : cs.toList = ics l) (hn : n = l.length) (hl : l.length ≤ 10) : Calls Try.prog 13 #[.slice a n c, .slice (some ⟨wx.heap.size, 0, none⟩) n n] (wx.alloc (.cells cs 3)) fun r w' => r = .returned (.bool true) ∧ Below wx.heap.size wx w' := by
  have b0 : Below wx.heap.size wx (wx.alloc (.cells cs 3)) := (Below.refl _ _).alloc (Nat.le_refl _) _
  subst hn
  refine (samei_any _ _ _ l (h.later b0) (ints_lit wx l cs hcs) (by omega)).mono ?_
  rintro r w' ⟨rfl, bb⟩
  exact ⟨rfl, b0.trans (bb.mono (by simp))⟩

set_option maxRecDepth 100000 in
set_option maxHeartbeats 8000000 in
theorem walk (w : World) : Calls Try.prog 3 #[] w fun e w' => e = .returned (.bool true) ∧ Below w.heap.size w w' := by
  have EX := hide (example_any w)
  have LV := hide mlives_any
  have G1 : Hid (∀ wx b, Ex w wx b → Calls Try.prog 11 #[.pointer (some ⟨b, 0, none⟩), .string ⟨#[98]⟩, .int .i64 0] wx fun r w' => r = .returned (.tuple #[.agg #[.string ⟨#[]⟩, .string ⟨#[]⟩, .int .i64 0, .bool false], .bool false]) ∧ Below wx.heap.size wx w') := fun wx b h => by
    have := get_s h (by decide) [98] 0
    rw [Mm.exG0] at this
    exact this
  have G2 : Hid (∀ wx b, Ex w wx b → Calls Try.prog 11 #[.pointer (some ⟨b, 0, none⟩), .string ⟨#[98]⟩, .int .i64 3] wx fun r w' => r = .returned (.tuple #[.agg #[.string ⟨#[98]⟩, .string ⟨#[]⟩, .int .i64 3, .bool false], .bool true]) ∧ Below wx.heap.size wx w') := fun wx b h => by
    have := get_s h (by decide) [98] 3
    rw [Mm.exG3] at this
    exact this
  have NW : Hid (∀ (wx : World) B, B = wx.heap.size → Calls Try.prog 12 #[.slice (some ⟨B, 0, none⟩) 1 1] (wx.alloc (.cells #[.int .i64 13] 3)) fun r w' => r = .returned (.tuple #[.pointer none, .int .i64 2]) ∧ Below wx.heap.size wx w') := fun wx B hB => by
    subst hB
    refine (new_any _ _ [13] (ints_lit wx [13] #[.int .i64 13] rfl) (by simp)).mono ?_
    rintro r w' ⟨bb, (⟨h1, _⟩ | ⟨_, rfl⟩)⟩
    · exact absurd h1 (by decide)
    · exact ⟨rfl, ((Below.refl _ _).alloc (Nat.le_refl _) _).trans (bb.mono (by simp))⟩
  have L1 := hide (fun (wx : World) b (h : Ex w wx b) => lane_ex h 0 (by omega) 1 rfl _ Mm.exP1 3 rfl)
  have L2 := hide (fun (wx : World) b (h : Ex w wx b) => lane_ex h 1 (by omega) 2 rfl _ Mm.exP2 2 rfl)
  have L3 := hide (fun (wx : World) b (h : Ex w wx b) => lane_ex h 2 (by omega) 3 rfl _ Mm.exP3 1 rfl)
  have L4 := hide (fun (wx : World) b (h : Ex w wx b) => lane_ex h 3 (by omega) 4 rfl _ Mm.exP4 0 rfl)
  have S1 := hide (fun (wx : World) a c (h : IntsAt wx (.slice a 3 c) [0, 1, 2]) => same_ex wx a c 3 [0, 1, 2] #[.int .i64 0, .int .i64 1, .int .i64 2] h rfl rfl (by simp))
  have S2 := hide (fun (wx : World) a c (h : IntsAt wx (.slice a 2 c) [1, 2]) => same_ex wx a c 2 [1, 2] #[.int .i64 1, .int .i64 2] h rfl rfl (by simp))
  have S3 := hide (fun (wx : World) a c (h : IntsAt wx (.slice a 1 c) [1]) => same_ex wx a c 1 [1] #[.int .i64 1] h rfl rfl (by simp))
  have C1 : Hid (∀ wx b, Ex w wx b → Calls Try.prog 15 #[.pointer (some ⟨b, 0, none⟩), .string ⟨#[98]⟩, .int .i64 3] wx fun r w' => r = .returned (.int .i64 4) ∧ Below wx.heap.size wx w') := fun wx b h => by
    have := cost_s h (by decide) [98] 3
    rw [Mm.exC1] at this
    exact this
  have C2 : Hid (∀ wx b, Ex w wx b → Calls Try.prog 15 #[.pointer (some ⟨b, 0, none⟩), .string ⟨#[97]⟩, .int .i64 2] wx fun r w' => r = .returned (.int .i64 3) ∧ Below wx.heap.size wx w') := fun wx b h => by
    have := cost_s h (by decide) [97] 2
    rw [Mm.exC2] at this
    exact this
  have A1 : Hid (∀ wx b, Ex w wx b → w.heap.size ≤ wx.heap.size → Calls Try.prog 16 #[.pointer (some ⟨b, 0, none⟩), .agg #[.string ⟨#[98]⟩, .string ⟨#[]⟩, .int .i64 3, .bool false]] wx fun r w' => r = .returned (.int .i64 9) ∧ Ex w w' b ∧ Below w.heap.size wx w') := fun wx b h hz => by
    have := add_s h (fun i hi => by omega) Mm.b3 (by decide) (by simp) (by decide) (by decide)
    rw [Mm.exA1.1, Mm.exA1.2] at this
    refine this.mono ?_
    rintro r w' ⟨rfl, h3, h4⟩
    exact ⟨rfl, h3, h4.under hz (fun i hi => hi)⟩
  have A2 : Hid (∀ wx b, Ex w wx b → w.heap.size ≤ wx.heap.size → Calls Try.prog 16 #[.pointer (some ⟨b, 0, none⟩), .agg #[.string ⟨#[]⟩, .string ⟨#[]⟩, .int .i64 1, .bool false]] wx fun r w' => r = .returned (.int .i64 2) ∧ Ex w w' b ∧ Below w.heap.size wx w') := fun wx b h hz => by
    have := add_s h (fun i hi => by omega) Mm.e0 (by decide) (by simp) (by decide) (by decide)
    rw [Mm.exA2.1, Mm.exA2.2] at this
    refine this.mono ?_
    rintro r w' ⟨rfl, h3, h4⟩
    exact ⟨rfl, h3, h4.under hz (fun i hi => hi)⟩
  have LN : Hid (∀ wx b, Ex w wx b → Calls Try.prog 17 #[.pointer (some ⟨b, 0, none⟩)] wx fun r w' => r = .returned (.int .i64 3) ∧ w' = wx) := fun wx b h => len_s h
  have SZ : Hid (∀ wx b, Ex w wx b → Calls Try.prog 18 #[.pointer (some ⟨b, 0, none⟩)] wx fun r w' => r = .returned (.int .i64 3) ∧ w' = wx) := fun wx b h => by
    have := size_s h
    rw [Mm.exS] at this
    exact this
  go_enter Try.func3, Try.ntmps3
  go_wp2_with (first
    | (go_at_call 9; refine EX.out.mono ?_; rintro e w1 ⟨b, rfl, h1, B1⟩; clear EX)
    | (go_at_call 10; refine (LV.out _).mono ?_; rintro e w2 ⟨rfl, b2⟩; have h2 := h1.later b2; have B2 := B1.trans (b2.mono B1.size); clear LV h1 b2)
    | (go_at_call 11; have g := G1; refine (G1.out _ b h2).mono ?_; rintro e w3 ⟨rfl, b3⟩; have h3 := fun o => h2.later (b3.alloc b3.size o); have B3 := B2.trans (b3.mono B2.size); have B3' := fun o => B3.alloc B3.size o; clear G1 g h2 b3)
    | (go_at_call 11; have g := G2; refine (G2.out _ b (h3 _)).mono ?_; rintro e w4 ⟨rfl, b4⟩; have h4 := (h3 _).later b4; have B4 := (B3' _).trans (b4.mono (B3' _).size); have y4 := World.alloc_heap_new w4 (.cells #[.string ⟨#[98]⟩, .string ⟨#[]⟩, .int .i64 3, .bool false] 26); clear G2 g h3 B3' b4)
    | (go_at_call 12; refine (NW.out _ _ (by simp)).mono ?_; rintro e w5 ⟨rfl, b5⟩; have h5 := (h4.later ((Below.refl _ _).alloc (Nat.le_refl _) _)).later b5; have B5 := (B4.alloc B4.size _).trans (b5.mono (B4.alloc B4.size _).size); have y5 := Joins.cell_of_block (keepB b5 y4) 2; clear NW h4 b5 y4)
    | (go_at_call 14; have g := L1; refine (L1.out _ b h5).mono ?_; rintro e w6 ⟨a6, c6, rfl, e6, b6⟩; have h6 := h5.later b6; have B6 := B5.trans (b6.mono B5.size); have y6 := keepC b6 y5; clear L1 g h5 b6 y5)
    | (go_at_call 13; have g := S1; refine (S1.out _ _ _ e6).mono ?_; rintro e w7 ⟨rfl, b7⟩; have h7 := h6.later b7; have B7 := B6.trans (b7.mono B6.size); have y7 := keepC b7 y6; clear S1 g h6 b7 e6 y6)
    | (go_at_call 14; have g := L2; refine (L2.out _ b h7).mono ?_; rintro e w8 ⟨a8, c8, rfl, e8, b8⟩; have h8 := h7.later b8; have B8 := B7.trans (b8.mono B7.size); have y8 := keepC b8 y7; clear L2 g h7 b8 y7)
    | (go_at_call 13; have g := S2; refine (S2.out _ _ _ e8).mono ?_; rintro e w9 ⟨rfl, b9⟩; have h9 := h8.later b9; have B9 := B8.trans (b9.mono B8.size); have y9 := keepC b9 y8; clear S2 g h8 b9 e8 y8)
    | (go_at_call 14; have g := L3; refine (L3.out _ b h9).mono ?_; rintro e w10 ⟨a10, c10, rfl, e10, b10⟩; have h10 := h9.later b10; have B10 := B9.trans (b10.mono B9.size); have y10 := keepC b10 y9; clear L3 g h9 b10 y9)
    | (go_at_call 13; have g := S3; refine (S3.out _ _ _ e10).mono ?_; rintro e w11 ⟨rfl, b11⟩; have h11 := h10.later b11; have B11 := B10.trans (b11.mono B10.size); have y11 := keepC b11 y10; clear S3 g h10 b11 e10 y10)
    | (go_at_call 14; have g := L4; refine (L4.out _ b h11).mono ?_; rintro e w12 ⟨a12, c12, rfl, e12, b12⟩; have h12 := h11.later b12; have B12 := B11.trans (b12.mono B11.size); have y12 := keepC b12 y11; clear L4 g h11 b12 e12 y11)
    | (go_at_call 15; have g := C1; refine (C1.out _ b h12).mono ?_; rintro e w13 ⟨rfl, b13⟩; have h13 := h12.later b13; have B13 := B12.trans (b13.mono B12.size); clear C1 g h12 b13 y12)
    | (go_at_call 15; have g := C2; refine (C2.out _ b h13).mono ?_; rintro e w14 ⟨rfl, b14⟩; have h14 := h13.later b14; have B14 := B13.trans (b14.mono B13.size); clear C2 g h13 b14)
    | (go_at_call 16; have g := A1; refine (A1.out _ b h14 B14.size).mono ?_; rintro e w15 ⟨rfl, h15, b15⟩; have B15 := B14.trans b15; clear A1 g h14 b15)
    | (go_at_call 16; have g := A2; refine (A2.out _ b h15 B15.size).mono ?_; rintro e w16 ⟨rfl, h16, b16⟩; have B16 := B15.trans b16; clear A2 g h15 b16)
    | (go_at_call 17; refine still (LN.out _ b h16) ?_; clear LN)
    | (go_at_call 18; refine still (SZ.out _ b h16) ?_; clear SZ))
  go_ret
  exact ⟨rfl, B16⟩
end memNames
end Go.Proofs.Ytgfkchdlhknecaa
