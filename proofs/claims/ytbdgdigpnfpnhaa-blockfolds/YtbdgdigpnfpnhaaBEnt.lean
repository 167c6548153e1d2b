/-
  An entry taken from a reader.
-/
import Derived.Test.YtbdgdigpnfpnhaaBDec
import Derived.Deep.Cut
import Derived.Deep.CutRange
import Derived.Deep.RegionWith
namespace Go.Proofs.Ytbdgdigpnfpnhaa
open Go.RowKit

/-- A reader in plain words. -/
def RdS (w : World) (T : Nat) (b : List UInt8) (s : Bk.Rd) : Prop := ∃ ao cap at', RdC w T ao cap b at' s.bad ∧ s.rest = b.drop at'
theorem RdS.lt {w : World} {T : Nat} {b : List UInt8} {s : Bk.Rd} (h : RdS w T b s) : T + 5 < w.heap.size := by
  obtain ⟨ao, cap, at', hc, _⟩ := h
  exact hc.lt
theorem RdS.same {w w' : World} {T : Nat} {b : List UInt8} {s : Bk.Rd} (h : RdS w T b s) {S : Nat → Prop} (m : Moved S w w') (hS : ∀ i, S i → T + 5 < i) : RdS w' T b s := by
  obtain ⟨ao, cap, at', hc, hr⟩ := h
  exact ⟨ao, cap, at', hc.same m hS, hr⟩
theorem RdS.later {w w' : World} {T : Nat} {b : List UInt8} {s : Bk.Rd} (h : RdS w T b s) (m : Below w.heap.size w w') : RdS w' T b s := h.same (S := fun _ => False) (Moved.below m) (fun _ h => h.elim)
theorem num_s {w : World} {T : Nat} {b : List UInt8} {s : Bk.Rd} (most : Nat) (h : RdS w T b s) (hm : most ≤ 1073741824) :
    Calls Try.prog 90 #[.int .i64 (most : Int), pt T, pt (T + 2), pt (T + 4), pt (T + 3)] w fun e w' => e = .returned (.int .i64 (Bk.rnumX s most : Nat)) ∧ RdS w' T b (Bk.rnum s most) ∧ Moved (rdT T) w w' ∧ w'.heap.size = w.heap.size := by
  obtain ⟨ao, cap, at', hc, hr⟩ := h
  obtain ⟨r, bad⟩ := s
  simp only at hr hc
  subst hr
  refine (rnumber_c w T ao cap b at' bad most hc hm).mono ?_
  rintro e w' ⟨rfl, ⟨at2, h1, h2⟩, m, z⟩
  exact ⟨rfl, ⟨ao, cap, at2, h2, h1⟩, m, z⟩
theorem text_s {w : World} {T : Nat} {b : List UInt8} {s : Bk.Rd} (most : Nat) (h : RdS w T b s) (hm : most ≤ 1073741824) :
    Calls Try.prog 92 #[.int .i64 (most : Int), pt (T + 5), pt (T + 4), pt T, pt (T + 2), pt (T + 3)] w fun e w' => e = .returned (str (Bk.rtextX s most)) ∧ RdS w' T b (Bk.rtext s most) ∧ Moved (rdT T) w w' ∧ w'.heap.size = w.heap.size := by
  obtain ⟨ao, cap, at', hc, hr⟩ := h
  obtain ⟨r, bad⟩ := s
  simp only at hr hc
  subst hr
  refine (rtext_c w T ao cap b at' bad most hc hm).mono ?_
  rintro e w' ⟨rfl, ⟨at2, h1, h2⟩, m, z⟩
  exact ⟨rfl, ⟨ao, cap, at2, h2, h1⟩, m, z⟩
theorem must_s {w : World} {T : Nat} {b : List UInt8} {s : Bk.Rd} (c : Bool) (h : RdS w T b s) :
    Calls Try.prog 89 #[.bool c, pt (T + 3)] w fun e w' => e = .returned (.tuple #[]) ∧ RdS w' T b (Bk.mst s c) ∧ Moved (rdT T) w w' ∧ w'.heap.size = w.heap.size := by
  obtain ⟨ao, cap, at', hc, hr⟩ := h
  refine (must_any w T ao cap b at' s.bad c hc).mono ?_
  rintro e w' ⟨rfl, h2, m, z⟩
  exact ⟨rfl, ⟨ao, cap, at', h2, hr⟩, m, z⟩
theorem end_s {w : World} {T : Nat} {b : List UInt8} {s : Bk.Rd} (h : RdS w T b s) :
    Calls Try.prog 93 #[pt (T + 4), pt (T + 2), pt T, pt (T + 3)] w fun e w' => e = .returned (errV (Bk.mst s (decide (s.rest = []))).bad) ∧ Moved (rdT T) w w' ∧ w'.heap.size = w.heap.size := by
  obtain ⟨ao, cap, at', hc, hr⟩ := h
  obtain ⟨r, bad⟩ := s
  simp only at hr hc
  subst hr
  exact rend_c w T ao cap b at' bad hc

abbrev rV (T : Nat) : Value := .agg #[mustV T, numV T, textV T, endV T]
abbrev rO (T : Nat) : Obj := .cells #[mustV T, numV T, textV T, endV T] 117 (0, 0)
/-- What lies there while an entry is taken: the reader, its copy, the answer's block. -/
structure Ex (w0 w : World) (T : Nat) (b : List UInt8) (s : Bk.Rd) : Prop where
  rd : RdS w T b s
  bx : w.heap[w0.heap.size]? = some (rO T)
  by' : w.heap[w0.heap.size + 1]? = some (eO ⟨[], [], 0, false⟩)
  mv : Moved (rdT T) w0 w
  top : T + 5 < w0.heap.size
theorem Ex.step {w0 w w' : World} {T : Nat} {b : List UInt8} {s s' : Bk.Rd} (h : Ex w0 w T b s) (r : RdS w' T b s') (m : Moved (rdT T) w w') : Ex w0 w' T b s' := by
  have ht := h.top
  have l1 := (Array.getElem?_eq_some_iff.1 h.bx).1
  have l2 := (Array.getElem?_eq_some_iff.1 h.by').1
  exact ⟨r, (m.block _ l1 (by simp only [rdT]; omega)).trans h.bx, (m.block _ l2 (by simp only [rdT]; omega)).trans h.by', h.mv.trans m (fun _ _ h => h), ht⟩
theorem Ex.later {w0 w w' : World} {T : Nat} {b : List UInt8} {s : Bk.Rd} (h : Ex w0 w T b s) (m : Below w.heap.size w w') : Ex w0 w' T b s := h.step (h.rd.later m) (Moved.below m)
theorem Ex.cells {w0 w : World} {T : Nat} {b : List UInt8} {s : Bk.Rd} (h : Ex w0 w T b s) : w.cell? ⟨w0.heap.size, 0, none⟩ = some (mustV T) ∧ w.cell? ⟨w0.heap.size, 1, none⟩ = some (numV T) ∧ w.cell? ⟨w0.heap.size, 2, none⟩ = some (textV T) :=
  ⟨Joins.cell_of_block h.bx 0, Joins.cell_of_block h.bx 1, Joins.cell_of_block h.bx 2⟩

theorem slot4 {w : World} {B : Nat} {e : Mm.Ent} (h : w.heap[B]? = some (eO e)) : w.cell? ⟨B, 0, none⟩ = some (str e.key) ∧ w.cell? ⟨B, 1, none⟩ = some (str e.value) ∧ w.cell? ⟨B, 2, none⟩ = some (.int .i64 e.seq) ∧ w.cell? ⟨B, 3, none⟩ = some (.bool e.del) ∧ w.frozen? ⟨B, 0, none⟩ = false ∧ w.frozen? ⟨B, 1, none⟩ = false ∧ w.frozen? ⟨B, 2, none⟩ = false ∧ w.frozen? ⟨B, 3, none⟩ = false :=
  ⟨Joins.cell_of_block h 0, Joins.cell_of_block h 1, Joins.cell_of_block h 2, Joins.cell_of_block h 3, Joins.unfrozen_of_block h 0, Joins.unfrozen_of_block h 1, Joins.unfrozen_of_block h 2, Joins.unfrozen_of_block h 3⟩
theorem ext_take (K : List UInt8) (n : Nat) : (⟨K.toArray⟩ : ByteArray).extract 0 n = ⟨(K.take n).toArray⟩ := by
  apply ByteArray.ext
  rw [ByteArray.data_extract]
  simp

/-- The same, with the entry's own block. -/
structure Ey (w0 w : World) (T : Nat) (b : List UInt8) (s : Bk.Rd) (e : Mm.Ent) : Prop extends Ex w0 w T b s where
  bz : w.heap[w0.heap.size + 2]? = some (eO e)
theorem Ey.step {w0 w w' : World} {T : Nat} {b : List UInt8} {s s' : Bk.Rd} {e : Mm.Ent} (h : Ey w0 w T b s e) (r : RdS w' T b s') (m : Moved (rdT T) w w') : Ey w0 w' T b s' e := by
  have ht := h.top
  have l1 := (Array.getElem?_eq_some_iff.1 h.bz).1
  exact ⟨h.toEx.step r m, (m.block _ l1 (by simp only [rdT]; omega)).trans h.bz⟩
theorem Ey.later {w0 w w' : World} {T : Nat} {b : List UInt8} {s : Bk.Rd} {e : Mm.Ent} (h : Ey w0 w T b s e) (m : Below w.heap.size w w') : Ey w0 w' T b s e := h.step (h.rd.later m) (Moved.below m)
theorem Ex.set {w0 w : World} {T : Nat} {b : List UInt8} {s : Bk.Rd} (h : Ex w0 w T b s) (i : Nat) (u : Value) : Ex w0 (w.setCell ⟨w0.heap.size + 2, i, none⟩ u) T b s := by
  have ht := h.top
  have k : ∀ j, j ≠ w0.heap.size + 2 → (w.setCell ⟨w0.heap.size + 2, i, none⟩ u).heap[j]? = w.heap[j]? := fun j hj => Below.heap_setCell _ _ _ _ hj
  have m : Moved (fun j => j = w0.heap.size + 2) w (w.setCell ⟨w0.heap.size + 2, i, none⟩ u) := Moved.setCell (S := fun j => j = w0.heap.size + 2) (Moved.refl _ w) (p := ⟨w0.heap.size + 2, i, none⟩) (fun _ => rfl) u
  refine ⟨h.rd.same m (fun j hj => by omega), (k _ (by omega)).trans h.bx, (k _ (by omega)).trans h.by', h.mv.trans m (fun j hj e => by omega), ht⟩
theorem relA {w0 w2 : World} {T : Nat} {b : List UInt8} {s : Bk.Rd} (K : List UInt8) (h : Ex w0 w2 T b s) (hz : w2.heap.size = w0.heap.size + 2) : Ey w0 (w2.alloc (.cells #[str K, .string ⟨#[]⟩, .int .i64 0, .bool false] 38)) T b s ⟨K, [], 0, false⟩ := by
  refine ⟨h.later ((Below.refl _ _).alloc (Nat.le_refl _) _), ?_⟩
  rw [← hz]
  exact World.alloc_heap_new w2 _
theorem relB {w0 w2 : World} {T : Nat} {b : List UInt8} {s : Bk.Rd} (K : List UInt8) (h : Ex w0 w2 T b s) (hb : w2.heap[w0.heap.size + 2]? = some (eO ⟨[], [], 0, false⟩)) : Ey w0 ((((w2.setCell ⟨w0.heap.size + 2, 0, none⟩ (str K)).setCell ⟨w0.heap.size + 2, 1, none⟩ (.string ⟨#[]⟩)).setCell ⟨w0.heap.size + 2, 2, none⟩ (.int .i64 0)).setCell ⟨w0.heap.size + 2, 3, none⟩ (.bool false)) T b s ⟨K, [], 0, false⟩ := by
  refine ⟨(((h.set 0 _).set 1 _).set 2 _).set 3 _, ?_⟩
  exact (Joins.block_setCell (Joins.block_setCell (Joins.block_setCell (Joins.block_setCell hb _) _) _) _).trans rfl
theorem Ey.set {w0 w : World} {T : Nat} {b : List UInt8} {s : Bk.Rd} {e e' : Mm.Ent} (h : Ey w0 w T b s e) (i : Nat) (u : Value) (he : #[str e.key, str e.value, .int .i64 e.seq, .bool e.del].setIfInBounds i u = #[str e'.key, str e'.value, .int .i64 e'.seq, .bool e'.del]) : Ey w0 (w.setCell ⟨w0.heap.size + 2, i, none⟩ u) T b s e' := by
  refine ⟨h.toEx.set i u, ?_⟩
  rw [Joins.block_setCell h.bz u, he]
theorem Ey.cells {w0 w : World} {T : Nat} {b : List UInt8} {s : Bk.Rd} {e : Mm.Ent} (h : Ey w0 w T b s e) : (w.cell? ⟨w0.heap.size, 0, none⟩ = some (mustV T) ∧ w.cell? ⟨w0.heap.size, 1, none⟩ = some (numV T) ∧ w.cell? ⟨w0.heap.size, 2, none⟩ = some (textV T)) ∧ w.cell? ⟨w0.heap.size + 2, 0, none⟩ = some (str e.key) ∧ w.cell? ⟨w0.heap.size + 2, 1, none⟩ = some (str e.value) ∧ w.cell? ⟨w0.heap.size + 2, 2, none⟩ = some (.int .i64 e.seq) ∧ w.cell? ⟨w0.heap.size + 2, 3, none⟩ = some (.bool e.del) ∧ w.frozen? ⟨w0.heap.size + 2, 0, none⟩ = false ∧ w.frozen? ⟨w0.heap.size + 2, 1, none⟩ = false ∧ w.frozen? ⟨w0.heap.size + 2, 2, none⟩ = false ∧ w.frozen? ⟨w0.heap.size + 2, 3, none⟩ = false := ⟨h.toEx.cells, slot4 h.bz⟩
/-- The answer's block is filled. -/
theorem Ey.fin {w0 w : World} {T : Nat} {b : List UInt8} {s : Bk.Rd} {e : Mm.Ent} (h : Ey w0 w T b s e) :
    ((((w.setCell ⟨w0.heap.size + 1, 0, none⟩ (str e.key)).setCell ⟨w0.heap.size + 1, 1, none⟩ (str e.value)).setCell ⟨w0.heap.size + 1, 2, none⟩ (.int .i64 e.seq)).setCell ⟨w0.heap.size + 1, 3, none⟩ (.bool e.del)).heap[w0.heap.size + 1]? = some (eO e) ∧ RdS ((((w.setCell ⟨w0.heap.size + 1, 0, none⟩ (str e.key)).setCell ⟨w0.heap.size + 1, 1, none⟩ (str e.value)).setCell ⟨w0.heap.size + 1, 2, none⟩ (.int .i64 e.seq)).setCell ⟨w0.heap.size + 1, 3, none⟩ (.bool e.del)) T b s ∧ Moved (rdT T) w0 ((((w.setCell ⟨w0.heap.size + 1, 0, none⟩ (str e.key)).setCell ⟨w0.heap.size + 1, 1, none⟩ (str e.value)).setCell ⟨w0.heap.size + 1, 2, none⟩ (.int .i64 e.seq)).setCell ⟨w0.heap.size + 1, 3, none⟩ (.bool e.del)) := by
  have ht := h.top
  have m : ∀ (v : World) (i : Nat) (u : Value), Moved (fun j => j = w0.heap.size + 1) v (v.setCell ⟨w0.heap.size + 1, i, none⟩ u) := fun v i u => Moved.setCell (S := fun j => j = w0.heap.size + 1) (Moved.refl _ v) (p := ⟨w0.heap.size + 1, i, none⟩) (fun _ => rfl) u
  have m4 := (((m w 0 (str e.key)).trans (m _ 1 (str e.value)) (fun _ _ h => h)).trans (m _ 2 (.int .i64 e.seq)) (fun _ _ h => h)).trans (m _ 3 (.bool e.del)) (fun _ _ h => h)
  refine ⟨(Joins.block_setCell (Joins.block_setCell (Joins.block_setCell (Joins.block_setCell h.by' _) _) _) _).trans rfl, h.rd.same m4 (fun j hj => by omega), h.mv.trans m4 (fun j hj e => by omega)⟩
theorem add_take (a x : List UInt8) (n : Nat) (ha : a.length ≤ 1000000) (hx : x.length ≤ 1000000) (wx : World) : (Op.stringOp .add ((⟨a.toArray⟩ : ByteArray).extract 0 n) ⟨x.toArray⟩).run Try.prog wx = .ok (str (a.take n ++ x)) wx := by
  rw [ext_take]
  have h1 : ((⟨(a.take n).toArray⟩ : ByteArray).size) ≤ 1000000 := by show (a.take n).toArray.size ≤ _; simp; omega
  have h2 : ((⟨x.toArray⟩ : ByteArray).size) ≤ 1000000 := by show x.toArray.size ≤ _; simp; omega
  rw [run_string_add_sum wx _ _ (by omega)]
  have e : (⟨(a.take n).toArray⟩ : ByteArray) ++ ⟨x.toArray⟩ = ⟨(a.take n ++ x).toArray⟩ := by
    apply ByteArray.ext
    rw [ByteArray.data_append]
    simp
  rw [e]

set_option maxRecDepth 100000 in
set_option maxHeartbeats 8000000 in
theorem entry_s (w : World) (T : Nat) (b : List UInt8) (s : Bk.Rd) (p : Nat) (a : List UInt8) (h : RdS w T b s) (hp : p ≤ 1000000) (ha : a.length ≤ 900000) :
    Calls Try.prog 83 #[rV T, .int .i64 (p : Int), str a] w fun e w' => e = .returned (entV (Bk.rentX p a s)) ∧ RdS w' T b (Bk.rent p a s) ∧ Moved (rdT T) w w' := by
  have E0 : Hid (Ex w ((w.alloc (.cells #[mustV T, numV T, textV T, endV T] 117)).alloc (.cells #[.string ⟨#[]⟩, .string ⟨#[]⟩, .int .i64 0, .bool false] 38)) T b s) := by
    have b0 : Below w.heap.size w ((w.alloc (.cells #[mustV T, numV T, textV T, endV T] 117)).alloc (.cells #[.string ⟨#[]⟩, .string ⟨#[]⟩, .int .i64 0, .bool false] 38)) := ((Below.refl _ _).alloc (Nat.le_refl _) _).alloc (by simp) _
    refine ⟨h.later b0, (Below.heap_alloc _ _ _ (by simp)).trans (World.alloc_heap_new w _), ?_, Moved.below b0, h.lt⟩
    have := World.alloc_heap_new (w.alloc (.cells #[mustV T, numV T, textV T, endV T] 117)) (.cells #[.string ⟨#[]⟩, .string ⟨#[]⟩, .int .i64 0, .bool false] 38)
    rw [World.size_alloc] at this
    exact this
  have hs := Bk.rnumX_le s a.length
  have sh0 : (Bk.rnumX s a.length : Int) ≤ (a.length : Int) := by omega
  clear h
  go_enter Try.func83, Try.ntmps83
  go_wp2_with (first
    | (go_at_call 90; refine (num_s a.length E0.out.rd (by omega)).mono ?_; rintro e w1 ⟨rfl, r1, m1, z1⟩; have E1 : Hid _ := E0.out.step r1 m1; obtain ⟨c0, c1, c2⟩ := E1.out.cells; clear E0 r1 m1))
  have TX : Hid (∀ wx, Ex w wx T b (Bk.rnum s a.length) → Calls Try.prog 92 #[.int .i64 512, pt (T + 5), pt (T + 4), pt T, pt (T + 2), pt (T + 3)] wx fun e w' => e = .returned (str (Bk.rtextX (Bk.rnum s a.length) 512)) ∧ Ex w w' T b (Bk.r2 a s) ∧ Moved (rdT T) wx w' ∧ w'.heap.size = wx.heap.size) := fun wx hx => by
    refine (text_s 512 hx.rd (by decide)).mono ?_
    rintro e w' ⟨rfl, r, m, z⟩
    exact ⟨rfl, hx.step r m, m, z⟩
  have hz1 : w1.heap.size = w.heap.size + 2 := by rw [z1]; simp
  have ZB : Hid (∀ w2, Moved (rdT T) (w1.alloc (.cells #[.string ⟨#[]⟩, .string ⟨#[]⟩, .int .i64 0, .bool false] 38)).drew w2 → w2.heap[w1.heap.size]? = some (eO ⟨[], [], 0, false⟩)) := fun w2 m => by
    have ht := E1.out.top
    refine (m.block w1.heap.size (by simp) (by simp only [rdT]; omega)).trans ?_
    exact World.alloc_heap_new w1 _
  have KP : ∀ wx : World, (Op.stringOp .add ((⟨a.toArray⟩ : ByteArray).extract 0 (Bk.rnumX s a.length)) ⟨(Bk.rtextX (Bk.rnum s a.length) 512).toArray⟩).run Try.prog wx = .ok (str (Bk.keyX a s)) wx := fun wx => add_take a _ _ (by omega) (by have := Bk.rtextX_le (Bk.rnum s a.length) 512; omega) wx
  rw [hz1] at ZB
  go_cut [8] from 14 to 21 (fun z wx => z = .pointer (some ⟨w.heap.size + 2, 0, none⟩) ∧ Ey w wx T b (Bk.r2 a s) ⟨Bk.keyX a s, [], 0, false⟩)
  case first =>
    go_region_with (first
      | (go_at_call 92; refine (TX.out _ (E1.out.later (Below.refl _ _).drew)).mono ?_; rintro e w2 ⟨rfl, e2, m2, z2⟩; obtain ⟨k0, k1, k2⟩ := e2.cells; have hz2 : w2.heap.size = w.heap.size + 2 := z2.trans hz1)
      | (go_at_call 92; refine (TX.out _ (E1.out.later ((Below.refl _ _).alloc (Nat.le_refl _) _).drew)).mono ?_; rintro e w2 ⟨rfl, e2, m2, z2⟩; obtain ⟨k0, k1, k2⟩ := e2.cells; have Z2 := ZB.out _ m2; obtain ⟨y0, y1, y2, y3, v0, v1, v2, v3⟩ := slot4 Z2))
    all_goals
      go_wp2_with (fail)
      go_meet
      case rel => first | exact ⟨rfl, relB _ e2 Z2⟩ | exact ⟨by rw [hz2], relA _ e2 hz2⟩ | exact ⟨rfl, relA _ e2 hz2⟩
  case rest =>
    obtain ⟨rfl, e2⟩ := hcut
    have hK : (Bk.keyX a s).length ≤ 1000000 := by have := Bk.keyX_le a s; omega
    have SH : Hid (∀ wx, Calls Try.prog 80 #[.int .i64 (p : Int), str a, str (Bk.keyX a s)] wx fun e w' => e = .returned (.int .i64 (Bk.shr p a (Bk.keyX a s) : Nat)) ∧ Below wx.heap.size wx w') := fun wx => shared_any wx p _ _ hp (by omega) hK
    have MU : Hid (∀ wx, Ey w wx T b (Bk.r2 a s) ⟨Bk.keyX a s, [], 0, false⟩ → Calls Try.prog 89 #[.bool ((Bk.rnumX s a.length : Int) == (Bk.shr p a (Bk.keyX a s) : Int)), pt (T + 3)] wx fun e w' => e = .returned (.tuple #[]) ∧ Ey w w' T b (Bk.r3 p a s) ⟨Bk.keyX a s, [], 0, false⟩) := fun wx hx => by
      refine (must_s ((Bk.rnumX s a.length : Int) == (Bk.shr p a (Bk.keyX a s) : Int)) hx.rd).mono ?_
      rintro e w' ⟨rfl, r, m, z⟩
      have e3 : Bk.mst (Bk.r2 a s) ((Bk.rnumX s a.length : Int) == (Bk.shr p a (Bk.keyX a s) : Int)) = Bk.r3 p a s := by
        unfold Bk.r3
        congr 1
        by_cases e : Bk.rnumX s a.length = Bk.shr p a (Bk.keyX a s)
        · rw [e]; simp
        · rw [decide_eq_false e]; simp; omega
      rw [e3] at r
      exact ⟨rfl, hx.step r m⟩
    obtain ⟨⟨c0, c1, c2⟩, y0, y1, y2, y3, v0, v1, v2, v3⟩ := e2.cells
    have E2 : Hid _ := e2
    clear e2 TX E1 ZB KP
    go_wp2_with (fail)
    go_region_held3 (fun w' => w'.cell? ⟨w.heap.size, 0, none⟩ = some (mustV T) ∧ w'.cell? ⟨w.heap.size + 2, 0, none⟩ = some (str (Bk.keyX a s)))
      (first | exact ⟨c0, y0⟩ | exact ⟨g0, h0⟩ | exact ⟨p0, q0⟩ | (go_keep; done))
      (first
        | (go_at_call 80; refine (SH.out _).mono ?_; rintro e w3 ⟨rfl, b3⟩; have E3 : Hid _ := E2.out.later ((Below.refl _ _).drew.trans b3); obtain ⟨⟨g0, g1, g2⟩, h0, h1⟩ := E3.out.cells)
        | (go_at_call 89; refine (MU.out _ E3.out).mono ?_; rintro e w4 ⟨rfl, e4⟩; have E4 : Hid _ := e4; obtain ⟨⟨p0, p1, p2⟩, q0, q1⟩ := E4.out.cells))
    clear SH MU E2 E3 c0 c1 c2 y0 y1 y2 y3 v0 v1 v2 v3 g0 g1 g2 h0 h1 p0 p1 p2 q0 q1
    obtain ⟨⟨p0, p1, p2⟩, q0, q1, q2, q3, x0, x1, x2, x3⟩ := E4.out.cells
    have hd1 := Bk.rnumX_le (Bk.r4 p a s) 1
    have N4 : Hid (∀ wx, Ey w wx T b (Bk.r3 p a s) ⟨Bk.keyX a s, [], 0, false⟩ → Calls Try.prog 90 #[.int .i64 1073741824, pt T, pt (T + 2), pt (T + 4), pt (T + 3)] wx fun e w' => e = .returned (.int .i64 (Bk.rnumX (Bk.r3 p a s) 1073741824 : Nat)) ∧ Ey w w' T b (Bk.r4 p a s) ⟨Bk.keyX a s, [], 0, false⟩) := fun wx hx => by
      refine (num_s 1073741824 hx.rd (by decide)).mono ?_
      rintro e w' ⟨rfl, r, m, z⟩
      exact ⟨rfl, hx.step r m⟩
    have N5 : Hid (∀ wx, Ey w wx T b (Bk.r4 p a s) ⟨Bk.keyX a s, [], (Bk.rnumX (Bk.r3 p a s) 1073741824 : Nat), false⟩ → Calls Try.prog 90 #[.int .i64 1, pt T, pt (T + 2), pt (T + 4), pt (T + 3)] wx fun e w' => e = .returned (.int .i64 (Bk.rnumX (Bk.r4 p a s) 1 : Nat)) ∧ Ey w w' T b (Bk.r5 p a s) ⟨Bk.keyX a s, [], (Bk.rnumX (Bk.r3 p a s) 1073741824 : Nat), false⟩) := fun wx hx => by
      refine (num_s 1 hx.rd (by decide)).mono ?_
      rintro e w' ⟨rfl, r, m, z⟩
      exact ⟨rfl, hx.step r m⟩
    have T6 : Hid (∀ wx, Ey w wx T b (Bk.r5 p a s) ⟨Bk.keyX a s, [], (Bk.rnumX (Bk.r3 p a s) 1073741824 : Nat), false⟩ → Calls Try.prog 92 #[.int .i64 4096, pt (T + 5), pt (T + 4), pt T, pt (T + 2), pt (T + 3)] wx fun e w' => e = .returned (str (Bk.rtextX (Bk.r5 p a s) 4096)) ∧ Ey w w' T b (Bk.rtext (Bk.r5 p a s) 4096) ⟨Bk.keyX a s, [], (Bk.rnumX (Bk.r3 p a s) 1073741824 : Nat), false⟩) := fun wx hx => by
      refine (text_s 4096 hx.rd (by decide)).mono ?_
      rintro e w' ⟨rfl, r, m, z⟩
      exact ⟨rfl, hx.step r m⟩
    by_cases hk : Bk.rnumX (Bk.r4 p a s) 1 = 1
    · have HX : Hid (Bk.rentX p a s = ⟨Bk.keyX a s, [], (Bk.rnumX (Bk.r3 p a s) 1073741824 : Nat), true⟩) := by
        show _ = _
        unfold Bk.rentX Bk.delX
        rw [hk]; rfl
      have HR : Hid (Bk.rent p a s = Bk.r5 p a s) := by
        show _ = _
        unfold Bk.rent Bk.delX
        rw [hk]; rfl
      rw [hk] at N5
      have H2 : Hid _ := hk
      clear hk hd1 T6
      generalize Bk.rnumX (Bk.r3 p a s) 1073741824 = SQ at *
      generalize Bk.keyX a s = K at *
      generalize Bk.r3 p a s = S3 at *
      generalize Bk.r4 p a s = S4 at *
      generalize Bk.r5 p a s = S5 at *
      go_wp2_with (first
        | (go_at_call 90; have tok := N4; refine (N4.out _ E4.out).mono ?_; rintro e w5 ⟨rfl, e5⟩; have E5 : Hid _ := (e5.set (e' := ⟨K, [], SQ, false⟩) 2 (.int .i64 (SQ : Int)) rfl); obtain ⟨⟨p0, p1, p2⟩, q0, q1, q2, q3, x0, x1, x2, x3⟩ := e5.cells; obtain ⟨⟨i0, i1, i2⟩, j0, j1, j2, j3, o0, o1, o2, o3⟩ := E5.out.cells; clear N4 tok E4)
        | (go_at_call 90; refine (N5.out _ E5.out).mono ?_; rintro e w6 ⟨rfl, e6⟩; obtain ⟨⟨p0, p1, p2⟩, q0, q1, q2, q3, x0, x1, x2, x3⟩ := e6.cells; have E6 : Hid _ := (e6.set (e' := ⟨K, [], SQ, true⟩) 3 (.bool true) rfl); obtain ⟨⟨i0, i1, i2⟩, j0, j1, j2, j3, o0, o1, o2, o3⟩ := E6.out.cells; obtain ⟨z0, z1', z2, z3, n0, n1, n2, n3⟩ := slot4 E6.out.by'; clear N5 E5))
      obtain ⟨F1, F2, F3⟩ := E6.out.fin
      obtain ⟨z0, z1', z2, z3, _⟩ := slot4 F1
      refine bodyPost_ret (v := entV ⟨K, [], SQ, true⟩) (by simp [results, Try.results83, go_sem, z0, z1', z2, z3]) rfl ?_
      rw [HX.out, HR.out]
      exact ⟨rfl, F2, F3⟩
    · have h0 : Bk.rnumX (Bk.r4 p a s) 1 = 0 := by omega
      have HX : Hid (Bk.rentX p a s = ⟨Bk.keyX a s, Bk.rtextX (Bk.r5 p a s) 4096, (Bk.rnumX (Bk.r3 p a s) 1073741824 : Nat), false⟩) := by
        show _ = _
        unfold Bk.rentX Bk.delX
        rw [h0]; rfl
      have HR : Hid (Bk.rent p a s = Bk.rtext (Bk.r5 p a s) 4096) := by
        show _ = _
        unfold Bk.rent Bk.delX
        rw [h0]; rfl
      rw [h0] at N5
      clear hk h0 hd1
      generalize Bk.rnumX (Bk.r3 p a s) 1073741824 = SQ at *
      generalize Bk.keyX a s = K at *
      generalize Bk.rtextX (Bk.r5 p a s) 4096 = V at *
      generalize Bk.rtext (Bk.r5 p a s) 4096 = S6 at *
      generalize Bk.r3 p a s = S3 at *
      generalize Bk.r4 p a s = S4 at *
      generalize Bk.r5 p a s = S5 at *
      go_wp2_with (first
        | (go_at_call 90; have tok := N4; refine (N4.out _ E4.out).mono ?_; rintro e w5 ⟨rfl, e5⟩; have E5 : Hid _ := (e5.set (e' := ⟨K, [], SQ, false⟩) 2 (.int .i64 (SQ : Int)) rfl); obtain ⟨⟨p0, p1, p2⟩, q0, q1, q2, q3, x0, x1, x2, x3⟩ := e5.cells; obtain ⟨⟨i0, i1, i2⟩, j0, j1, j2, j3, o0, o1, o2, o3⟩ := E5.out.cells; clear N4 tok E4)
        | (go_at_call 90; refine (N5.out _ E5.out).mono ?_; rintro e w6 ⟨rfl, e6⟩; obtain ⟨⟨p0, p1, p2⟩, q0, q1, q2, q3, x0, x1, x2, x3⟩ := e6.cells; have E6 : Hid _ := (e6.set (e' := ⟨K, [], SQ, false⟩) 3 (.bool false) rfl); obtain ⟨⟨i0, i1, i2⟩, j0, j1, j2, j3, o0, o1, o2, o3⟩ := E6.out.cells; clear N5 E5)
        | (go_at_call 92; refine (T6.out _ E6.out).mono ?_; rintro e w7 ⟨rfl, e7⟩; obtain ⟨⟨p0, p1, p2⟩, q0, q1, q2, q3, x0, x1, x2, x3⟩ := e7.cells; have E7 : Hid _ := (e7.set (e' := ⟨K, V, SQ, false⟩) 1 (str V) rfl); obtain ⟨⟨i0, i1, i2⟩, j0, j1, j2, j3, o0, o1, o2, o3⟩ := E7.out.cells; obtain ⟨z0, z1', z2, z3, n0, n1, n2, n3⟩ := slot4 E7.out.by'; clear T6 E6))
      obtain ⟨F1, F2, F3⟩ := E7.out.fin
      obtain ⟨z0, z1', z2, z3, _⟩ := slot4 F1
      refine bodyPost_ret (v := entV ⟨K, V, SQ, false⟩) (by simp [results, Try.results83, go_sem, z0, z1', z2, z3]) rfl ?_
      rw [HX.out, HR.out]
      exact ⟨rfl, F2, F3⟩
end Go.Proofs.Ytbdgdigpnfpnhaa
