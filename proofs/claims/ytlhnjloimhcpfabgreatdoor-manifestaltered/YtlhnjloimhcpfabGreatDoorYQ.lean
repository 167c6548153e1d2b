/-
  What a manifest tells: its version, its file's name; and whether Open made it. .. and what follows from it.
-/
import Derived.Test.YtlhnjloimhcpfabGreatDoorYO
import Derived.LaidEqlPtr
import Derived.Test.YtlhnjloimhcpfabGreatDoorYK
namespace Go.Proofs.YtlhnjloimhcpfabGreatDoor
open Go.RowKit

theorem eql_left {P : Program} (w : World) {tp te : TypeId} (a : Addr) (hp : P.underlying tp = some (.pointer te)) :
    (binOp .eql tp (.pointer none) (.pointer (some a))).run P w = .ok (.bool false) w := by
  have h : ∀ d : Nat, (Op.equalIn (d + 1) tp (.pointer none) (.pointer (some a))).run P w = .ok false w := fun d => by
    simp [Op.equalIn, run_underlying hp, sizeOf, typeInfo]
  simp only [binOp]
  simp [Op.equal, Op.maxDepth, h 9999]
theorem infoMf : ∃ j, Tryz.prog.info? 64 = some j := Option.isSome_iff_exists.1 (by kernel_rfl)

section
variable {P : Nat → Prop} {base : Nat} {w : World} {c b : Nat} {σ : Vf.St} {f : Mf.Bs} {v : Mf.Vn} {br : Bool}
theorem MfIn.later {w' : World} (h : MfIn P base w c b σ f v br) (hb : Below w.heap.size w w') : MfIn P base w' c b σ f v br := by
  obtain ⟨ta, tc, h1, h2, h3⟩ := h.blk
  exact ⟨h.fs.later hb, ⟨ta, tc, (hb.block _ (Array.getElem?_eq_some_iff.1 h1).1).trans h1, h2.later hb, h3⟩, h.pc, h.new⟩

set_option maxRecDepth 100000 in
theorem made_yes {t : Value} {lo se ne : Int} (hc : w.heap[c]? = some (mfO c b f t lo se ne br)) : Calls Tryz.prog 25 #[.pointer (some ⟨c, 0, none⟩)] w fun e w' => e = .returned (.bool true) ∧ w' = w := by
  have c0 := Joins.cell_of_block hc 0
  obtain ⟨j, hj⟩ := infoMf
  have q := run_eql_ptr_same w ⟨c, 0, none⟩ Tryz.underlying29 hj
  clear hc hj
  go_enter Tryz.func25, Tryz.ntmps25
  go_wp2_with (fail)
  go_ret
  exact ⟨rfl, rfl⟩

/-- A manifest that nobody made. -/
def NoMf (w : World) (r : Value) : Prop := r = .pointer none ∨ ∃ c, r = .pointer (some ⟨c, 0, none⟩) ∧ w.cell? ⟨c, 0, none⟩ = some (.pointer none)
theorem NoMf.later {w' : World} {r : Value} (h : NoMf w r) (hb : Below w.heap.size w w') : NoMf w' r := by
  rcases h with rfl | ⟨c, rfl, hc⟩
  · exact .inl rfl
  · exact .inr ⟨c, rfl, keepC hb hc⟩
set_option maxRecDepth 100000 in
theorem made_no {r : Value} (h : NoMf w r) : Calls Tryz.prog 25 #[r] w fun e w' => e = .returned (.bool false) ∧ w' = w := by
  rcases h with rfl | ⟨c, rfl, hc⟩
  · go_enter Tryz.func25, Tryz.ntmps25
    go_wp2_with (fail)
    go_ret
    exact ⟨rfl, rfl⟩
  · have q := eql_left w ⟨c, 0, none⟩ Tryz.underlying29
    go_enter Tryz.func25, Tryz.ntmps25
    go_wp2_with (fail)
    go_ret
    exact ⟨rfl, rfl⟩

theorem file_any (h : MfIn P base w c b σ f v br) : Calls Tryz.prog 8 #[.pointer (some ⟨c, 0, none⟩)] w fun e w' => e = .returned (str f) ∧ w' = w := by
  obtain ⟨ta, tc, h1, _⟩ := h.blk
  have MD := made_yes h1
  have c2 := Joins.cell_of_block h1 2
  clear h h1
  go_enter Tryz.func8, Tryz.ntmps8
  go_wp2_with (go_at_call 25; refine still MD ?_)
  go_ret
  exact ⟨rfl, rfl⟩
theorem no_file {r : Value} (h : NoMf w r) : Calls Tryz.prog 8 #[r] w fun e w' => e = .returned (str []) ∧ w' = w := by
  have MD := made_no h
  clear h
  go_enter Tryz.func8, Tryz.ntmps8
  go_wp2_with (go_at_call 25; refine still MD ?_)
  go_ret
  exact ⟨rfl, rfl⟩

set_option maxRecDepth 100000 in
set_option maxHeartbeats 2000000 in
theorem version_any (h : MfIn P base w c b σ f v br) (hlen : v.tabs.length ≤ 1000000) (hs : ∀ x ∈ v.tabs, x.first.length ≤ 1000000 ∧ x.last.length ≤ 1000000) :
    Calls Tryz.prog 9 #[.pointer (some ⟨c, 0, none⟩)] w fun e w' => ∃ ta tc, e = .returned (vv (.slice ta v.tabs.length tc) v.log v.seq v.next) ∧ Hid (MtsAt w' (.slice ta v.tabs.length tc) v.tabs) ∧ Below w.heap.size w w' := by
  obtain ⟨ta, tc, h1, h2, _⟩ := h.blk
  obtain ⟨L, hL⟩ : ∃ L, L = v.tabs.length := ⟨_, rfl⟩
  rw [← hL] at h1
  obtain ⟨W, hW⟩ : ∃ W, W = w.alloc (vO (.slice none 0 0) 0 0 0) := ⟨_, rfl⟩
  have HW := hide hW
  have b0 : Below w.heap.size w W := by rw [hW]; exact (Below.refl _ _).alloc (Nat.le_refl _) _
  have p0 : W.heap[w.heap.size]? = some (vO (.slice none 0 0) 0 0 0) := by rw [hW]; exact World.alloc_heap_new w _
  have z0 : W.heap.size = w.heap.size + 1 := by rw [hW]; simp
  have h1' := (b0.block _ (Array.getElem?_eq_some_iff.1 h1).1).trans h1
  have MD := hide (made_yes h1')
  obtain ⟨_, _, c3, c4, c5, c6⟩ := mf_cells h1'
  rw [hW] at MD c3 c4 c5 c6
  have B1 : Hid (Below w.heap.size w (W.alloc (vO (.slice ta L tc) v.log v.seq v.next))) := b0.alloc b0.size _
  have CP : Hid (Calls Tryz.prog 26 #[.slice ta L tc] ((w.alloc (vO (.slice none 0 0) 0 0 0)).alloc (vO (.slice ta L tc) v.log v.seq v.next)) fun r w' => ∃ t2 c2, r = .returned (.slice t2 L c2) ∧ Hid (w'.ownsRow (w.heap.size + 2) 43 5 (.slice t2 L c2) L (mcs v.tabs)) ∧ Below (W.alloc (vO (.slice ta L tc) v.log v.seq v.next)).heap.size (W.alloc (vO (.slice ta L tc) v.log v.seq v.next)) w') := by
    have := copied_any (W.alloc (vO (.slice ta L tc) v.log v.seq v.next)) ta tc v.tabs (h2.later B1.out) hlen hs
    rw [← hL] at this
    rw [← hW]
    refine this.mono ?_
    rintro r w' ⟨u, rfl, o, bb⟩
    obtain ⟨t2, c2, rfl⟩ := row_shp o
    exact ⟨t2, c2, rfl, own_lift o (by simp; omega), bb⟩
  have KS : Hid (∀ wx, Below (W.alloc (vO (.slice ta L tc) v.log v.seq v.next)).heap.size (W.alloc (vO (.slice ta L tc) v.log v.seq v.next)) wx → wx.heap[w.heap.size]? = some (vO (.slice none 0 0) 0 0 0) ∧ wx.heap[w.heap.size + 1]? = some (vO (.slice ta L tc) v.log v.seq v.next)) := fun wx hx => by
    have q1 := World.alloc_heap_new W (vO (.slice ta L tc) v.log v.seq v.next)
    rw [z0] at q1
    exact ⟨(hx.block _ (by simp; omega)).trans ((Below.heap_alloc W _ _ (by omega)).trans p0), (hx.block _ (by simp; omega)).trans q1⟩
  rw [← hL]
  clear h h1 h2 hs hlen hW b0 p0 h1' hL
  go_enter Tryz.func9, Tryz.ntmps9
  go_wp2_with (first
    | (go_at_call 25; refine still MD.out ?_; clear MD)
    | (go_at_call 26; refine CP.out.mono ?_; rintro r w2 ⟨t2, c2, rfl, HO, b2⟩; obtain ⟨p2, p3⟩ := KS.out _ b2; obtain ⟨y0, y1, y2, y3, u0, u1, u2, u3, lt2⟩ := slot4 p2; obtain ⟨x0, x1, x2, x3, v0, v1, v2, v3, lt3⟩ := slot4 p3; have HP2 := hide p2; have HP3 := hide p3; clear p2 p3 CP KS))
  have g3 := grown_setc w2 (w.heap.size + 1) 0 (.slice t2 L c2)
  have P3 := (g3.block _ (Array.getElem?_eq_some_iff.1 HP2.out).1 (by simp)).trans HP2.out
  obtain ⟨P5, G5⟩ := store4 P3 (.slice t2 L c2) (.int .i64 v.log) (.int .i64 v.seq) (.int .i64 v.next)
  have D2 := B1.out.trans (b2.mono B1.out.size)
  have D3 := D2.grown g3 D2.size (fun k hk => by cases hk; omega)
  have B5 : Below w.heap.size w _ := D3.grown G5 D3.size (fun k hk => by cases hk; exact Nat.le_refl _)
  have off1 : ∀ k, k < w.heap.size + 2 → (Value.slice t2 L c2).ownBlock = none ∨ (Value.slice t2 L c2).ownBlock ≠ some k := fun k hk => by
    cases ho : (Value.slice t2 L c2).ownBlock with
    | none => exact .inl rfl
    | some g => exact .inr (by have := (HO.out.lt g ho).1; simp; omega)
  have O5 := hide ((HO.out.kept g3 (off1 _ (by omega))).kept G5 (off1 _ (by omega)))
  generalize (((((w2.setCell ⟨w.heap.size + 1, 0, none⟩ (.slice t2 L c2)).setCell ⟨w.heap.size, 0, none⟩ (.slice t2 L c2)).setCell ⟨w.heap.size, 1, none⟩ (.int .i64 v.log)).setCell ⟨w.heap.size, 2, none⟩ (.int .i64 v.seq)).setCell ⟨w.heap.size, 3, none⟩ (.int .i64 v.next)) = W5 at P5 B5 O5 ⊢
  obtain ⟨q0, q1, q2, q3, _⟩ := slot4 P5
  refine bodyPost_ret (v := vv (.slice t2 L c2) v.log v.seq v.next) (by simp [results, Tryz.results9, go_sem, q0, q1, q2, q3]) rfl ?_
  have hLL : L = v.tabs.length := by have := O5.out.1; rw [mcs_length] at this; omega
  exact ⟨t2, c2, rfl, MtsAt.own (by rw [← hLL]; exact O5.out), B5⟩
end
end Go.Proofs.YtlhnjloimhcpfabGreatDoor
namespace Go.Proofs.YtlhnjloimhcpfabGreatDoor
open Go.RowKit

/-- The tables that a manifest holds now were made since. -/
def TabNew (w w' : World) (c : Nat) : Prop := ∀ ta n tc, w'.cell? ⟨c, 3, none⟩ = some (.slice ta n tc) → ∀ ad, ta = some ad → w.heap.size ≤ ad.block
theorem mts_same {w w' : World} {va : Option Addr} {n c : Nat} {l : List Mf.Mt} (h : MtsAt w (.slice va n c) l) (hs : l ≠ [] → ∀ ad, va = some ad → w'.heap[ad.block]? = w.heap[ad.block]?) : MtsAt w' (.slice va n c) l := by
  obtain ⟨⟨a, cap, e, hf⟩⟩ := h
  refine ⟨⟨a, cap, e, fun h0 => ?_⟩⟩
  obtain ⟨b, off, ha, hat⟩ := hf h0
  cases e
  have hb := hs h0 _ ha
  have hc : ∀ {o : Nat} {x : Value}, w.cell? ⟨b, o, none⟩ = some x → w'.cell? ⟨b, o, none⟩ = some x := fun {o x} hx => (World.cell?_of_block (a := ⟨b, o, none⟩) hb).trans hx
  exact ⟨b, off, ha, fun j hj => ⟨hc (hat j hj).1, hc (hat j hj).2.1, hc (hat j hj).2.2.1, hc (hat j hj).2.2.2.1, hc (hat j hj).2.2.2.2⟩⟩

/-- Behind the version that comes: its block, and its tables. -/
structure BhEnd (X wx : World) (B : Nat) (t4 : Option Addr) (n4 c4 : Nat) (l : List Mf.Mt) (lo se ne : Int) : Prop where
  blk : wx.heap[B]? = some (vO (.slice t4 n4 c4) lo se ne)
  new : X.heap.size ≤ B
  own : wx.ownsRow X.heap.size 43 5 (.slice t4 n4 c4) l.length (mcs l)
  len : n4 = l.length
  bel : Below X.heap.size X wx
theorem bh_store {X wx : World} {B : Nat} {t4 : Option Addr} {n4 c4 : Nat} {l : List Mf.Mt} {lo se ne : Int} (hb : wx.heap[B]? = some (vO (.slice none 0 0) 0 0 0)) (hB : X.heap.size ≤ B) (ho : wx.ownsRow X.heap.size 43 5 (.slice t4 n4 c4) l.length (mcs l)) (hl : n4 = l.length) (hx : Below X.heap.size X wx) :
    BhEnd X ((((wx.setCell ⟨B, 0, none⟩ (.slice t4 n4 c4)).setCell ⟨B, 1, none⟩ (.int .i64 lo)).setCell ⟨B, 2, none⟩ (.int .i64 se)).setCell ⟨B, 3, none⟩ (.int .i64 ne)) B t4 n4 c4 l lo se ne := by
  obtain ⟨P5, G5⟩ := store4 hb (.slice t4 n4 c4) (.int .i64 lo) (.int .i64 se) (.int .i64 ne)
  refine ⟨P5, hB, ho.kept G5 ?_, hl, hx.grown G5 hx.size (fun k hk => by cases hk; exact hB)⟩
  rcases ho.2 with ⟨e, _⟩ | ⟨g, cap, cur, e, _, hg, _⟩
  · rw [e]; exact .inl rfl
  · rw [e]
    refine .inr fun e1 => ?_
    have e2 : g = B := Option.some.inj e1
    subst e2
    rw [hb] at hg
    have := (Obj.cells.inj (Option.some.inj hg)).2.1
    revert this
    decide

section
variable {P : Nat → Prop} {base : Nat}
set_option maxRecDepth 100000 in
theorem noted_ok (w : World) (c : Nat) : Calls Tryz.prog 28 #[.pointer (some ⟨c, 0, none⟩), .int .i64 0] w fun e w' => e = .returned (.int .i64 0) ∧ w' = w := by
  go_enter Tryz.func28, Tryz.ntmps28
  go_wp2_with (fail)
  go_ret
  exact ⟨rfl, rfl⟩

set_option maxRecDepth 100000 in
set_option maxHeartbeats 8000000 in
theorem add_ok (w : World) (b c : Nat) (σ : Vf.St) (f : Mf.Bs) (v : Mf.Vn) (e : Mf.Ed) (a2 a3 : Option Addr) (cap2 cap3 : Nat) (h : MfIn P base w c b σ f v false) (hon : σ.on = true) (hd : IzAt w (.slice a2 e.drops.length cap2) e.drops) (ha : MtsAt w (.slice a3 e.adds.length cap3) e.adds) (hm : ∀ x ∈ e.adds, MtFit x) (hvm : ∀ x ∈ v.tabs, MtFit x) (hvl : v.tabs.length ≤ 1000000) (he : Mf.encE e = 0) (hg : Mf.goes v e = true) (hr : (Mf.recB e).length ≤ 1048576) (hf : f.length ≤ 1000000) (hs : σ.steps ≤ 30000000) (hl : ((frm (Mf.recB e)).length : Int) ≤ Vf.left σ) (hap : Mf.appE σ f (frm (Mf.recB e)) = 0) :
    Calls Tryz.prog 10 #[.pointer (some ⟨c, 0, none⟩), ev (.slice a2 e.drops.length cap2) (.slice a3 e.adds.length cap3) e.log e.seq e.next] w fun r w' => r = .returned (.int .i64 0) ∧ (∃ Q, MfIn Q base w' c b (Mf.appS σ f (frm (Mf.recB e))) f (Mf.behind v e) false ∧ (∀ i, P i → Q i) ∧ TabNew w w' c) ∧ Kp (fun i => P i ∧ i ≠ c) base w w' := by
  obtain ⟨ta, tc, hc, ht, htp⟩ := h.blk
  have hlow := h.fs.low
  have hal : e.adds.length ≤ 1024 ∧ e.drops.length ≤ 1024 := by
    unfold Mf.encE at he
    split at he
    · cases he
    · omega
  obtain ⟨M, hM⟩ : ∃ M, M = e.drops.length := ⟨_, rfl⟩
  obtain ⟨K, hK⟩ : ∃ K, K = e.adds.length := ⟨_, rfl⟩
  obtain ⟨L, hL⟩ : ∃ L, L = v.tabs.length := ⟨_, rfl⟩
  rw [← hM] at hd hal ⊢
  rw [← hK] at ha hal ⊢
  rw [← hL] at hc ht hvl
  have clt := (Array.getElem?_eq_some_iff.1 hc).1
  have MD : Hid (∀ wx, Below w.heap.size w wx → Calls Tryz.prog 25 #[.pointer (some ⟨c, 0, none⟩)] wx fun e w' => e = .returned (.bool true) ∧ w' = wx) := fun wx hx => made_yes ((hx.block _ clt).trans hc)
  have ON : Hid (∀ wx, Below w.heap.size w wx → Calls Tryz.prog 27 #[.pointer (some ⟨b, 0, none⟩)] wx fun e w' => e = .returned (.bool true) ∧ w' = wx) := fun wx hx => by
    have := on_k (h.fs.later hx)
    rw [hon] at this
    exact this
  have LF : Hid (∀ wx, Below w.heap.size w wx → Calls Tryz.prog 32 #[.pointer (some ⟨b, 0, none⟩)] wx fun e w' => e = .returned (.int .i64 (Vf.left σ)) ∧ Below wx.heap.size wx w') := fun wx hx => left_k (h.fs.later hx) (by omega)
  have KC : Hid (∀ wx, Below w.heap.size w wx → (wx.cell? ⟨c, 1, none⟩ = some (.pointer (some ⟨b, 0, none⟩)) ∧ wx.cell? ⟨c, 2, none⟩ = some (str f) ∧ wx.cell? ⟨c, 3, none⟩ = some (.slice ta L tc) ∧ wx.cell? ⟨c, 4, none⟩ = some (.int .i64 v.log) ∧ wx.cell? ⟨c, 5, none⟩ = some (.int .i64 v.seq) ∧ wx.cell? ⟨c, 6, none⟩ = some (.int .i64 v.next)) ∧ wx.cell? ⟨c, 7, none⟩ = some (.bool false)) := fun wx hx => by
    have := (hx.block _ clt).trans hc
    exact ⟨mf_cells this, Joins.cell_of_block this 7⟩
  have EN : Hid (∀ wx, Below w.heap.size w wx → Calls Tryz.prog 29 #[ev (.slice a2 M cap2) (.slice a3 K cap3) e.log e.seq e.next] wx fun r w' => ∃ g n cc, r = .returned (.tuple #[.slice (some ⟨g, 0, none⟩) n cc, .int .i64 0]) ∧ Hid (n = (Mf.recB e).length) ∧ Hid (w'.ownsRow (wx.heap.size + 1) 5 1 (.slice (some ⟨g, 0, none⟩) n cc) (Mf.recB e).length (bc (Mf.recB e))) ∧ Below wx.heap.size wx w') := fun wx hx => by
    have := encode_ok wx a2 a3 cap2 cap3 e (by rw [← hM]; exact hd.later hx) (by rw [← hK]; exact ha.later hx) hm he
    rw [← hM, ← hK] at this
    exact this
  have CP : Hid (∀ wx, Below w.heap.size w wx → Calls Tryz.prog 26 #[.slice a3 K cap3] wx fun r w' => ∃ t2 c2, r = .returned (.slice t2 K c2) ∧ Hid (w'.ownsRow wx.heap.size 43 5 (.slice t2 K c2) K (mcs e.adds)) ∧ Below wx.heap.size wx w') := fun wx hx => by
    have := copied_any wx a3 cap3 e.adds (by rw [← hK]; exact ha.later hx) (by omega) (fun x hx => (hm x hx).2)
    rw [← hK] at this
    refine this.mono ?_
    rintro r w' ⟨u, rfl, o, bb⟩
    obtain ⟨t2, c2, rfl⟩ := row_shp o
    exact ⟨t2, c2, rfl, o, bb⟩
  have BH : Hid (∀ wx t2 c2, Below w.heap.size w wx → MtsAt wx (.slice t2 K c2) e.adds → Calls Tryz.prog 30 #[.agg #[.slice ta L tc, .int .i64 v.log, .int .i64 v.seq, .int .i64 v.next], .agg #[.slice a2 M cap2, .slice t2 K c2, .int .i64 e.log, .int .i64 e.seq, .int .i64 e.next]] wx fun r w' => ∃ t4 n4 c4, r = .returned (.tuple #[vv (.slice t4 n4 c4) e.log e.seq e.next, .bool true]) ∧ Hid (n4 = (Mf.newTabs v e).length ∧ w'.ownsRow (wx.heap.size + 3) 43 5 (.slice t4 n4 c4) (Mf.newTabs v e).length (mcs (Mf.newTabs v e))) ∧ Below wx.heap.size wx w') := fun wx t2 c2 hx hx2 => by
    have := behind_any wx ta a2 t2 tc cap2 c2 v e (by rw [← hL]; exact ht.later hx) (by rw [← hM]; exact hd.later hx) (by rw [← hK]; exact hx2) (by omega) (by omega) (by omega) hvm (fun n hn => by
      have h1 : Mf.bounds e = true := by
        unfold Mf.encE at he
        split at he
        · cases he
        · split at he
          · assumption
          · cases he
      unfold Mf.bounds at h1
      rw [Bool.and_eq_true, Bool.and_eq_true, List.all_eq_true] at h1
      have h2 := h1.1.1 n hn
      simp [Mf.inB] at h2
      exact ⟨by omega, by omega⟩) hm
    rw [← hL, ← hM, ← hK] at this
    refine this.mono ?_
    rintro r w' ⟨t4, n4, c4, x, y, z, g, rfl, I⟩
    have hgt : g = true := by rw [I.goes, hg]
    obtain ⟨rfl, rfl, rfl⟩ := I.num hgt
    subst hgt
    have ho := I.own rfl
    refine ⟨t4, n4, c4, rfl, ⟨?_, ho⟩, I.bel⟩
    rcases ho.2 with ⟨e1, e2⟩ | ⟨g', cap', cur, e1, _⟩
    · cases e1; exact e2.symm
    · cases e1; rfl
  have FA : Hid (∀ wx bb g n cc, n = (Mf.recB e).length → wx.ownsRow bb 5 1 (.slice (some ⟨g, 0, none⟩) n cc) (Mf.recB e).length (bc (Mf.recB e)) → Calls Tryz.prog 31 #[.slice none 0 0, .slice (some ⟨g, 0, none⟩) n cc] wx fun r w' => ∃ g' n' c', r = .returned (.tuple #[.slice (some ⟨g', 0, none⟩) n' c', .int .i64 0]) ∧ Hid (n' = (frm (Mf.recB e)).length) ∧ Hid (Ext wx.heap.size wx (.slice none 0 0) w' (.slice (some ⟨g', 0, none⟩) n' c') (frm (Mf.recB e)))) := fun wx bb g n cc hn ho => by
    subst hn
    refine (fappend_any wx none (some ⟨g, 0, none⟩) 0 cc [] (Mf.recB e) ⟨⟨none, 0, rfl, fun h => absurd rfl h⟩, by simp⟩ (bytes_of_own ho (by omega)) (fun _ => rfl) hr (by simp; omega)).mono ?_
    rintro r w' ⟨g', c', rfl, x⟩
    rw [List.nil_append] at x
    have hl : ([] : List UInt8).length + (Mf.recB e).length + 12 = (frm (Mf.recB e)).length := by rw [frm_length]; simp
    exact ⟨g', _, c', rfl, hl, x⟩
  obtain ⟨F, hF⟩ : ∃ F, F = frm (Mf.recB e) := ⟨_, rfl⟩
  have hFl : F.length ≤ 1048600 := by rw [hF, frm_length]; omega
  rw [← hF] at FA hl hap ⊢
  have AP : Hid (∀ wx g n cc, Below w.heap.size w wx → n = F.length → w.heap.size ≤ g → g < wx.heap.size → wx.ownsRow w.heap.size 5 1 (.slice (some ⟨g, 0, none⟩) n cc) F.length (bc F) → Calls Tryz.prog 33 #[.pointer (some ⟨b, 0, none⟩), str f, .slice (some ⟨g, 0, none⟩) n cc] wx fun r w' => r = .returned (.int .i64 0) ∧ Hid (FsK (fun i => P i ∨ (w.heap.size ≤ i ∧ i < wx.heap.size)) base w' b (Mf.appS σ f F)) ∧ Kp (fun i => P i ∨ (w.heap.size ≤ i ∧ i < wx.heap.size)) base wx w') := fun wx g n cc hx hn hg1 hg2 ho => by
    have fk := h.fs.add hx
    have hp : (fun i => P i ∨ (w.heap.size ≤ i ∧ i < wx.heap.size)) g := .inr ⟨hg1, hg2⟩
    refine (appended_k fk f hf (some ⟨g, 0, none⟩) n cc F (by omega) (held_own hn ho (by omega) hp)).mono ?_
    rintro r w' ⟨rfl, f1, k1⟩
    exact ⟨by rw [hap], f1, k1⟩
  have NT := hide noted_ok
  have E0 := hide (EdIn.new w (.slice a2 M cap2) (.slice a3 K cap3) e.log e.seq e.next)
  obtain ⟨LFT, hLFT⟩ : ∃ LFT, LFT = Vf.left σ := ⟨_, rfl⟩
  rw [← hLFT] at LF hl
  have HC := hide hc
  have HP := hide h.pc
  have HKP : Hid (∀ wx, Below w.heap.size w wx → Kp P base w wx) := fun wx hx => h.fs.kp hx
  have HNEW := hide h.new
  have HPRO := hide h.fs.pro
  obtain ⟨⟨m1, m2, m3, m4, m5, m6⟩, m7⟩ := KC.out _ E0.out.bel
  obtain ⟨k0, k1, k2, k3, k4⟩ := E0.out.cells
  clear h hon hd ha hm hvm hvl he hg hr hf hs hap ht htp hc hal hF hFl hLFT hL hM hK
  go_enter Tryz.func10, Tryz.ntmps10
  go_wp2_with (first
    | (go_at_call 25; refine still (MD.out _ E0.out.bel) ?_)
    | (go_at_call 27; refine still (ON.out _ E0.out.bel) ?_)
    | (go_at_call 29; refine (EN.out _ E0.out.bel).mono ?_; rintro r w2 ⟨g2, n2, cc2, rfl, HN2, HO2, b2⟩; have E2 := hide (E0.out.later b2); clear m1 m2 m3 m4 m5 m6 m7 k0 k1 k2 k3 k4; obtain ⟨k0, k1, k2, k3, k4⟩ := E2.out.cells; have z2 := E2.out.bel.size; clear EN)
    | (go_at_call 26; refine (CP.out _ E2.out.bel).mono ?_; rintro r w3 ⟨t2, c2, rfl, HO3, b3⟩; have E3 := hide (E2.out.later b3); clear k0 k1 k2 k3 k4; obtain ⟨k0, k1, k2, k3, k4⟩ := E3.out.cells; have u1 := Joins.unfrozen_of_block E3.out.blk 1; have z3 := E3.out.bel.size; clear CP))
  obtain ⟨X3, hX3⟩ : ∃ X3, X3 = w3.setCell ⟨w.heap.size, 1, none⟩ (.slice t2 K c2) := ⟨_, rfl⟩
  have g3 : w3.grownBy X3 (some w.heap.size) := by rw [hX3]; exact grown_setc _ _ _ _
  have p3 : X3.heap[w.heap.size]? = some (eO (.slice a2 M cap2) (.slice t2 K c2) e.log e.seq e.next) := by rw [hX3]; exact (Joins.block_setCell E3.out.blk _).trans rfl
  have B3 : Below w.heap.size w X3 := E3.out.bel.grown g3 E3.out.bel.size (fun k hk => by cases hk; exact Nat.le_refl _)
  have y1 := (Array.getElem?_eq_some_iff.1 E0.out.blk).1
  have y2 := b2.size
  have offK : ∀ {b' e' s' n' : Nat} {u : Value} {xs : List Value}, w.heap.size < b' → w3.ownsRow b' e' s' u n' xs → X3.ownsRow b' e' s' u n' xs := fun {b' e' s' n' u xs} hb ho => ho.kept g3 (by
    cases hu : u.ownBlock with
    | none => exact .inl rfl
    | some g => exact .inr (by have := (ho.lt g hu).1; simp; omega))
  have A3 : Hid (MtsAt X3 (.slice t2 K c2) e.adds) := by
    have o := offK (by omega) HO3.out
    have hk : K = e.adds.length := by have := o.1; rw [mcs_length] at this; omega
    rw [hk] at o ⊢
    exact MtsAt.own o
  have O3 := hide (offK (by omega) (own_aft HO2.out b3))
  have HB3 := hide B3
  have KS : Hid (∀ wx, Below X3.heap.size X3 wx → (wx.cell? ⟨c, 1, none⟩ = some (.pointer (some ⟨b, 0, none⟩)) ∧ wx.cell? ⟨c, 2, none⟩ = some (str f) ∧ wx.cell? ⟨c, 3, none⟩ = some (.slice ta L tc) ∧ wx.cell? ⟨c, 4, none⟩ = some (.int .i64 v.log) ∧ wx.cell? ⟨c, 5, none⟩ = some (.int .i64 v.seq) ∧ wx.cell? ⟨c, 6, none⟩ = some (.int .i64 v.next)) ∧ (wx.cell? ⟨w.heap.size, 0, none⟩ = some (.slice a2 M cap2) ∧ wx.cell? ⟨w.heap.size, 1, none⟩ = some (.slice t2 K c2) ∧ wx.cell? ⟨w.heap.size, 2, none⟩ = some (.int .i64 e.log) ∧ wx.cell? ⟨w.heap.size, 3, none⟩ = some (.int .i64 e.seq) ∧ wx.cell? ⟨w.heap.size, 4, none⟩ = some (.int .i64 e.next))) := fun wx hx => by
    have q := (hx.block _ (Array.getElem?_eq_some_iff.1 p3).1).trans p3
    obtain ⟨r0, r1, r2, r3, r4, _⟩ := slot5 q
    exact ⟨(KC.out _ (B3.trans (hx.mono B3.size))).1, r0, r1, r2, r3, r4⟩
  have P0 := KS.out _ (Below.refl _ X3).drew
  have s3 := B3.size
  rw [← hX3]
  clear hX3 g3 p3 offK HO2 HO3 k0 k1 k2 k3 k4 u1 E2 E3 b2 b3 y1 y2 E0 B3
  go_cut [7, 8] from 40 to 48 (fun z y wx => ∃ B t4 n4 c4, z = .pointer (some ⟨B, 0, none⟩) ∧ y = .bool true ∧ BhEnd X3 wx B t4 n4 c4 (Mf.newTabs v e) e.log e.seq e.next)
  case first =>
    refine wp_region_held_drew (S := (fun wx => (wx.cell? ⟨c, 1, none⟩ = some (.pointer (some ⟨b, 0, none⟩)) ∧ wx.cell? ⟨c, 2, none⟩ = some (str f) ∧ wx.cell? ⟨c, 3, none⟩ = some (.slice ta L tc) ∧ wx.cell? ⟨c, 4, none⟩ = some (.int .i64 v.log) ∧ wx.cell? ⟨c, 5, none⟩ = some (.int .i64 v.seq) ∧ wx.cell? ⟨c, 6, none⟩ = some (.int .i64 v.next)) ∧ (wx.cell? ⟨w.heap.size, 0, none⟩ = some (.slice a2 M cap2) ∧ wx.cell? ⟨w.heap.size, 1, none⟩ = some (.slice t2 K c2) ∧ wx.cell? ⟨w.heap.size, 2, none⟩ = some (.int .i64 e.log) ∧ wx.cell? ⟨w.heap.size, 3, none⟩ = some (.int .i64 e.seq) ∧ wx.cell? ⟨w.heap.size, 4, none⟩ = some (.int .i64 e.next)))) (by kernel_rfl) P0 (fun hHeld => ?_)
    refine takeH (oi := ?oii1) 0 41 (.pointer (some ⟨c, 0, none⟩)) ?hii1 ?hdi1 ?hwi1 ?hyi1 (by kernel_rfl) (by kernel_rfl) (by kernel_rfl) ?hQi1 (by assumption) ?_
    case hii1 => simp only [List.getElem?_toArray, List.getElem?_cons_zero]; rfl
    case hdi1 => rfl
    case hwi1 => rfl
    case hyi1 => (intro w hSw; (try dsimp only at hSw); go_simp)
    case hQi1 => exact fun _ _ _ h => h
    simp only [Act.put, List.setIfInBounds_toArray, List.set_cons_zero, List.set_cons_succ]
    refine takeH (oi := ?oii2) 1 42 (.pointer (some ⟨c, 0, none⟩)) ?hii2 ?hdi2 ?hwi2 ?hyi2 (by kernel_rfl) (by kernel_rfl) (by kernel_rfl) ?hQi2 (by assumption) ?_
    case hii2 => simp only [List.getElem?_toArray, List.getElem?_cons_zero, List.getElem?_cons_succ]; rfl
    case hdi2 => rfl
    case hwi2 => rfl
    case hyi2 => (intro w hSw; (try dsimp only at hSw); go_simp)
    case hQi2 => exact fun _ _ _ h => h
    simp only [Act.put, List.setIfInBounds_toArray, List.set_cons_zero, List.set_cons_succ]
    refine takeH (oi := ?oii3) 2 43 (.pointer (some ⟨c, 3, none⟩)) ?hii3 ?hdi3 ?hwi3 ?hyi3 (by kernel_rfl) (by kernel_rfl) (by kernel_rfl) ?hQi3 (by assumption) ?_
    case hii3 => simp only [List.getElem?_toArray, List.getElem?_cons_zero, List.getElem?_cons_succ]; rfl
    case hdi3 => rfl
    case hwi3 => rfl
    case hyi3 => (intro w hSw; (try dsimp only at hSw); go_simp)
    case hQi3 => exact fun _ _ _ h => h
    simp only [Act.put, List.setIfInBounds_toArray, List.set_cons_zero, List.set_cons_succ]
    refine takeH (oi := ?oii4) 3 44 (.agg #[.slice ta L tc, .int .i64 v.log, .int .i64 v.seq, .int .i64 v.next]) ?hii4 ?hdi4 ?hwi4 ?hyi4 (by kernel_rfl) (by kernel_rfl) (by kernel_rfl) ?hQi4 (by assumption) ?_
    case hii4 => simp only [List.getElem?_toArray, List.getElem?_cons_zero, List.getElem?_cons_succ]; rfl
    case hdi4 => rfl
    case hwi4 => rfl
    case hyi4 => (intro w hSw; (try dsimp only at hSw); go_simp)
    case hQi4 => exact fun _ _ _ h => h
    simp only [Act.put, List.setIfInBounds_toArray, List.set_cons_zero, List.set_cons_succ]
    refine takeH (oi := ?oii5) 4 45 (.agg #[.slice a2 M cap2, .slice t2 K c2, .int .i64 e.log, .int .i64 e.seq, .int .i64 e.next]) ?hii5 ?hdi5 ?hwi5 ?hyi5 (by kernel_rfl) (by kernel_rfl) (by kernel_rfl) ?hQi5 (by assumption) ?_
    case hii5 => simp only [List.getElem?_toArray, List.getElem?_cons_zero, List.getElem?_cons_succ]; rfl
    case hdi5 => rfl
    case hwi5 => rfl
    case hyi5 => (intro w hSw; (try dsimp only at hSw); go_simp)
    case hQi5 => exact fun _ _ _ h => h
    simp only [Act.put, List.setIfInBounds_toArray, List.set_cons_zero, List.set_cons_succ]
    refine wpAnyH_ready (rs := [5, 9]) (by kernel_rfl) (by simp) ?_
    refine AllReadyH.cons rfl (fun KK hK => ?_) (AllReadyH.cons rfl (fun KK hK => ?_) AllReadyH.nil)
    · go_simp
      refine (BH.out _ _ _ (HB3.out.trans ((Below.refl _ X3).drew.mono HB3.out.size)) (A3.out.later (Below.refl _ X3).drew)).mono ?_
      rintro r w4 ⟨t4, n4, c4, rfl, HO4, b4⟩
      have D4 : Below X3.heap.size X3 w4 := (Below.refl _ _).drew.trans b4
      have O4 : Hid (w4.ownsRow X3.heap.size 43 5 (.slice t4 n4 c4) (Mf.newTabs v e).length (mcs (Mf.newTabs v e))) := own_lift HO4.out.2 (by simp)
      have F4 := KS.out _ D4
      go_wp2_with (fail)
      refine hK.out _ _ F4 (fun hHeld => ?_)
      clear hK KK
      refine takeH (oi := ?oii6) 6 40 (.tuple #[.agg #[.slice t4 n4 c4, .int .i64 e.log, .int .i64 e.seq, .int .i64 e.next], .bool true]) ?hii6 ?hdi6 ?hwi6 ?hyi6 (by kernel_rfl) (by kernel_rfl) (by kernel_rfl) ?hQi6 (by assumption) ?_
      case hii6 => simp only [List.getElem?_toArray, List.getElem?_cons_zero, List.getElem?_cons_succ]; rfl
      case hdi6 => rfl
      case hwi6 => rfl
      case hyi6 => (intro w hSw; (try dsimp only at hSw); go_simp)
      case hQi6 => exact fun _ _ _ h => h
      simp only [Act.put, List.setIfInBounds_toArray, List.set_cons_zero, List.set_cons_succ]
      refine takeH (oi := ?oii7) 7 47 (.agg #[.slice t4 n4 c4, .int .i64 e.log, .int .i64 e.seq, .int .i64 e.next]) ?hii7 ?hdi7 ?hwi7 ?hyi7 (by kernel_rfl) (by kernel_rfl) (by kernel_rfl) ?hQi7 (by assumption) ?_
      case hii7 => simp only [List.getElem?_toArray, List.getElem?_cons_zero, List.getElem?_cons_succ]; rfl
      case hdi7 => rfl
      case hwi7 => rfl
      case hyi7 => (intro w hSw; (try dsimp only at hSw); go_simp)
      case hQi7 => exact fun _ _ _ h => h
      simp only [Act.put, List.setIfInBounds_toArray, List.set_cons_zero, List.set_cons_succ]
      refine takeH (oi := ?oii8) 8 48 (.bool true) ?hii8 ?hdi8 ?hwi8 ?hyi8 (by kernel_rfl) (by kernel_rfl) (by kernel_rfl) ?hQi8 (by assumption) ?_
      case hii8 => simp only [List.getElem?_toArray, List.getElem?_cons_zero, List.getElem?_cons_succ]; rfl
      case hdi8 => rfl
      case hwi8 => rfl
      case hyi8 => (intro w hSw; (try dsimp only at hSw); go_simp)
      case hQi8 => exact fun _ _ _ h => h
      simp only [Act.put, List.setIfInBounds_toArray, List.set_cons_zero, List.set_cons_succ]
      refine wpAnyH_ready (rs := [9]) (by kernel_rfl) (by simp) ?_
      refine AllReadyH.cons rfl (fun KK hK => ?_) AllReadyH.nil
      go_simp
      obtain ⟨W5, hW5⟩ : ∃ W5, W5 = w4.alloc (vO (.slice none 0 0) 0 0 0) := ⟨_, rfl⟩
      have D5 : Below X3.heap.size X3 W5 := by rw [hW5]; exact D4.trans ((Below.refl X3.heap.size w4).alloc D4.size _)
      have F5 := KS.out _ D5
      have n5 : W5.heap[w4.heap.size]? = some (vO (.slice none 0 0) 0 0 0) := by rw [hW5]; exact World.alloc_heap_new w4 _
      have EN5 := bh_store (lo := e.log) (se := e.seq) (ne := e.next) n5 D4.size (by rw [hW5]; exact own_aft O4.out ((Below.refl _ _).alloc (Nat.le_refl _) _)) HO4.out.1 D5
      have F6 := KS.out _ EN5.bel
      obtain ⟨y0, y1, y2, y3, u0, u1, u2, u3, lt5⟩ := slot4 n5
      clear n5
      go_wp2_with (fail)
      rw [← hW5]
      refine hK.out _ _ F5 (fun hHeld => ?_)
      clear hK KK hW5
      refine wpAnyH_ready (rs := [10]) (by kernel_rfl) (by simp) ?_
      refine AllReadyH.cons rfl (fun KK hK => ?_) AllReadyH.nil
      go_simp
      go_wp2_with (fail)
      refine hK.out _ _ F6 (fun hHeld => ?_)
      clear hK KK
      refine takeH (oi := ?oii9) 11 8 (.bool true) ?hii9 ?hdi9 ?hwi9 ?hyi9 (by kernel_rfl) (by kernel_rfl) (by kernel_rfl) ?hQi9 (by assumption) ?_
      case hii9 => simp only [List.getElem?_toArray, List.getElem?_cons_zero, List.getElem?_cons_succ]; rfl
      case hdi9 => rfl
      case hwi9 => rfl
      case hyi9 => (intro w hSw; (try dsimp only at hSw); go_simp)
      case hQi9 => exact fun _ _ _ h => h
      simp only [Act.put, List.setIfInBounds_toArray, List.set_cons_zero, List.set_cons_succ]
      refine wpAnyH_done (by kernel_rfl) ?_ _
      go_wp2_with (fail)
      go_meet
      case rel => exact ⟨_, t4, n4, c4, rfl, rfl, EN5⟩
    · go_simp
      obtain ⟨W5, hW5⟩ : ∃ W5, W5 = X3.drew.alloc (vO (.slice none 0 0) 0 0 0) := ⟨_, rfl⟩
      have D5 : Below X3.heap.size X3 W5 := by rw [hW5]; exact (Below.refl X3.heap.size X3).drew.trans ((Below.refl X3.heap.size X3.drew).alloc (Nat.le_refl _) _)
      have F5 := KS.out _ D5
      have n5 : Hid (W5.heap[X3.heap.size]? = some (vO (.slice none 0 0) 0 0 0)) := by show _ = _; rw [hW5]; exact World.alloc_heap_new X3.drew _
      have z5 : Hid (X3.heap.size + 1 ≤ W5.heap.size) := by show _ ≤ _; rw [hW5]; simp
      go_wp2_with (fail)
      have hW6 : (X3.alloc (vO (.slice none 0 0) 0 0 0)).drew = W5 := by rw [hW5]; rfl
      rw [hW6]
      refine hK.out _ _ F5 (fun hHeld => ?_)
      clear hK KK hW5 hW6
      refine wpAnyH_ready (rs := [5]) (by kernel_rfl) (by simp) ?_
      refine AllReadyH.cons rfl (fun KK hK => ?_) AllReadyH.nil
      go_simp
      refine (BH.out _ _ _ (HB3.out.trans (D5.mono HB3.out.size)) (A3.out.later D5)).mono ?_
      rintro r w4 ⟨t4, n4, c4, rfl, HO4, b4⟩
      have D4 : Below X3.heap.size X3 w4 := D5.trans (b4.mono D5.size)
      have O4 : Hid (w4.ownsRow X3.heap.size 43 5 (.slice t4 n4 c4) (Mf.newTabs v e).length (mcs (Mf.newTabs v e))) := own_lift HO4.out.2 (by have := D5.size; omega)
      have F4 := KS.out _ D4
      have n4' := (b4.block _ (Array.getElem?_eq_some_iff.1 n5.out).1).trans n5.out
      have EN5 := bh_store (lo := e.log) (se := e.seq) (ne := e.next) n4' (Nat.le_refl _) O4.out HO4.out.1 D4
      have F6 := KS.out _ EN5.bel
      obtain ⟨y0, y1, y2, y3, u0, u1, u2, u3, lt5⟩ := slot4 n4'
      clear n4'
      go_wp2_with (fail)
      refine hK.out _ _ F4 (fun hHeld => ?_)
      clear hK KK
      refine takeH (oi := ?oii10) 6 40 (.tuple #[.agg #[.slice t4 n4 c4, .int .i64 e.log, .int .i64 e.seq, .int .i64 e.next], .bool true]) ?hii10 ?hdi10 ?hwi10 ?hyi10 (by kernel_rfl) (by kernel_rfl) (by kernel_rfl) ?hQi10 (by assumption) ?_
      case hii10 => simp only [List.getElem?_toArray, List.getElem?_cons_zero, List.getElem?_cons_succ]; rfl
      case hdi10 => rfl
      case hwi10 => rfl
      case hyi10 => (intro w hSw; (try dsimp only at hSw); go_simp)
      case hQi10 => exact fun _ _ _ h => h
      simp only [Act.put, List.setIfInBounds_toArray, List.set_cons_zero, List.set_cons_succ]
      refine takeH (oi := ?oii11) 7 47 (.agg #[.slice t4 n4 c4, .int .i64 e.log, .int .i64 e.seq, .int .i64 e.next]) ?hii11 ?hdi11 ?hwi11 ?hyi11 (by kernel_rfl) (by kernel_rfl) (by kernel_rfl) ?hQi11 (by assumption) ?_
      case hii11 => simp only [List.getElem?_toArray, List.getElem?_cons_zero, List.getElem?_cons_succ]; rfl
      case hdi11 => rfl
      case hwi11 => rfl
      case hyi11 => (intro w hSw; (try dsimp only at hSw); go_simp)
      case hQi11 => exact fun _ _ _ h => h
      simp only [Act.put, List.setIfInBounds_toArray, List.set_cons_zero, List.set_cons_succ]
      refine takeH (oi := ?oii12) 8 48 (.bool true) ?hii12 ?hdi12 ?hwi12 ?hyi12 (by kernel_rfl) (by kernel_rfl) (by kernel_rfl) ?hQi12 (by assumption) ?_
      case hii12 => simp only [List.getElem?_toArray, List.getElem?_cons_zero, List.getElem?_cons_succ]; rfl
      case hdi12 => rfl
      case hwi12 => rfl
      case hyi12 => (intro w hSw; (try dsimp only at hSw); go_simp)
      case hQi12 => exact fun _ _ _ h => h
      simp only [Act.put, List.setIfInBounds_toArray, List.set_cons_zero, List.set_cons_succ]
      refine wpAnyH_ready (rs := [10]) (by kernel_rfl) (by simp) ?_
      refine AllReadyH.cons rfl (fun KK hK => ?_) AllReadyH.nil
      go_simp
      go_wp2_with (fail)
      refine hK.out _ _ F6 (fun hHeld => ?_)
      clear hK KK
      refine takeH (oi := ?oii13) 11 8 (.bool true) ?hii13 ?hdi13 ?hwi13 ?hyi13 (by kernel_rfl) (by kernel_rfl) (by kernel_rfl) ?hQi13 (by assumption) ?_
      case hii13 => simp only [List.getElem?_toArray, List.getElem?_cons_zero, List.getElem?_cons_succ]; rfl
      case hdi13 => rfl
      case hwi13 => rfl
      case hyi13 => (intro w hSw; (try dsimp only at hSw); go_simp)
      case hQi13 => exact fun _ _ _ h => h
      simp only [Act.put, List.setIfInBounds_toArray, List.set_cons_zero, List.set_cons_succ]
      refine wpAnyH_done (by kernel_rfl) ?_ _
      go_wp2_with (fail)
      go_meet
      case rel => exact ⟨_, t4, n4, c4, rfl, rfl, EN5⟩
  case rest =>
    obtain ⟨B, t4, n4, c4, rfl, rfl, BE⟩ := hcut
    obtain ⟨w5, hw5⟩ : ∃ w5, w5 = wc := ⟨_, rfl⟩
    rw [← hw5] at BE ⊢
    have HBE := hide BE
    have O5 := hide (own_aft O3.out BE.bel)
    have B5 := hide (HB3.out.trans (BE.bel.mono HB3.out.size))
    clear hw5 BE BH A3 KS P0 O3 MD ON
    go_wp2_with (first
      | (go_at_call 31; refine (FA.out _ _ _ _ _ HN2.out O5.out).mono ?_; rintro r w6 ⟨g6, n6, c6, rfl, HN6, x6⟩; have b6 := below_of x6.out.grown; have B6 := hide (B5.out.trans (b6.mono B5.out.size)); obtain ⟨⟨m1, m2, _, _, _, _⟩, _⟩ := KC.out _ B6.out; have nl : ¬ (n6 : Int) > LFT := (by rw [HN6.out]; omega); have nl2 : ¬ LFT < (n6 : Int) := nl; clear FA)
      | (go_at_call 32; refine (LF.out _ B6.out).mono ?_; rintro r w7 ⟨rfl, b7⟩; have B7 := hide (B6.out.trans (b7.mono B6.out.size)); have O7 := hide (own_aft x6.out.own b7); clear LF))
    have l7 := O7.out.lt g6 rfl
    have s5 := B5.out.size
    have s7 := B7.out.size
    have BD := hide (B7.out.trans ((Below.refl _ w7).drew.mono s7))
    have A7 := hide (AP.out w7.drew g6 n6 c6 BD.out HN6.out (by omega) l7.2 (own_lift (own_aft O7.out (Below.refl _ w7).drew) (by omega)))
    have HB8 := hide (HBE.out.blk)
    have b57 := hide (b6.trans (b7.mono b6.size))
    have P0 : w7.drew.cell? ⟨c, 1, none⟩ = some (.pointer (some ⟨b, 0, none⟩)) ∧ w7.drew.cell? ⟨c, 2, none⟩ = some (str f) := by
      obtain ⟨⟨q1, q2, _⟩, _⟩ := KC.out _ (B7.out.trans ((Below.refl _ w7).drew.mono s7))
      exact ⟨q1, q2⟩
    clear m1 m2 nl nl2 AP x6 HN6 HN2 O5 b6 b7
    refine wp_region_held_drew (S := (fun wx => wx.cell? ⟨c, 1, none⟩ = some (.pointer (some ⟨b, 0, none⟩)) ∧ wx.cell? ⟨c, 2, none⟩ = some (str f))) (by kernel_rfl) P0 (fun hHeld => ?_)
    refine takeH (oi := ?oij1) 0 67 (.pointer (some ⟨c, 0, none⟩)) ?hij1 ?hdj1 ?hwj1 ?hyj1 (by kernel_rfl) (by kernel_rfl) (by kernel_rfl) ?hQj1 (by assumption) ?_
    case hij1 => simp only [List.getElem?_toArray, List.getElem?_cons_zero]; rfl
    case hdj1 => rfl
    case hwj1 => rfl
    case hyj1 => (intro w hSw; (try dsimp only at hSw); go_simp)
    case hQj1 => exact fun _ _ _ h => h
    simp only [Act.put, List.setIfInBounds_toArray, List.set_cons_zero, List.set_cons_succ]
    refine takeH (oi := ?oij2) 1 68 (.pointer (some ⟨c, 0, none⟩)) ?hij2 ?hdj2 ?hwj2 ?hyj2 (by kernel_rfl) (by kernel_rfl) (by kernel_rfl) ?hQj2 (by assumption) ?_
    case hij2 => simp only [List.getElem?_toArray, List.getElem?_cons_zero, List.getElem?_cons_succ]; rfl
    case hdj2 => rfl
    case hwj2 => rfl
    case hyj2 => (intro w hSw; (try dsimp only at hSw); go_simp)
    case hQj2 => exact fun _ _ _ h => h
    simp only [Act.put, List.setIfInBounds_toArray, List.set_cons_zero, List.set_cons_succ]
    refine takeH (oi := ?oij3) 2 69 (.pointer (some ⟨c, 0, none⟩)) ?hij3 ?hdj3 ?hwj3 ?hyj3 (by kernel_rfl) (by kernel_rfl) (by kernel_rfl) ?hQj3 (by assumption) ?_
    case hij3 => simp only [List.getElem?_toArray, List.getElem?_cons_zero, List.getElem?_cons_succ]; rfl
    case hdj3 => rfl
    case hwj3 => rfl
    case hyj3 => (intro w hSw; (try dsimp only at hSw); go_simp)
    case hQj3 => exact fun _ _ _ h => h
    simp only [Act.put, List.setIfInBounds_toArray, List.set_cons_zero, List.set_cons_succ]
    refine takeH (oi := ?oij4) 3 70 (.pointer (some ⟨c, 1, none⟩)) ?hij4 ?hdj4 ?hwj4 ?hyj4 (by kernel_rfl) (by kernel_rfl) (by kernel_rfl) ?hQj4 (by assumption) ?_
    case hij4 => simp only [List.getElem?_toArray, List.getElem?_cons_zero, List.getElem?_cons_succ]; rfl
    case hdj4 => rfl
    case hwj4 => rfl
    case hyj4 => (intro w hSw; (try dsimp only at hSw); go_simp)
    case hQj4 => exact fun _ _ _ h => h
    simp only [Act.put, List.setIfInBounds_toArray, List.set_cons_zero, List.set_cons_succ]
    refine takeH (oi := ?oij5) 4 71 (.pointer (some ⟨b, 0, none⟩)) ?hij5 ?hdj5 ?hwj5 ?hyj5 (by kernel_rfl) (by kernel_rfl) (by kernel_rfl) ?hQj5 (by assumption) ?_
    case hij5 => simp only [List.getElem?_toArray, List.getElem?_cons_zero, List.getElem?_cons_succ]; rfl
    case hdj5 => rfl
    case hwj5 => rfl
    case hyj5 => (intro w hSw; (try dsimp only at hSw); go_simp)
    case hQj5 => exact fun _ _ _ h => h
    simp only [Act.put, List.setIfInBounds_toArray, List.set_cons_zero, List.set_cons_succ]
    refine takeH (oi := ?oij6) 5 72 (.pointer (some ⟨c, 0, none⟩)) ?hij6 ?hdj6 ?hwj6 ?hyj6 (by kernel_rfl) (by kernel_rfl) (by kernel_rfl) ?hQj6 (by assumption) ?_
    case hij6 => simp only [List.getElem?_toArray, List.getElem?_cons_zero, List.getElem?_cons_succ]; rfl
    case hdj6 => rfl
    case hwj6 => rfl
    case hyj6 => (intro w hSw; (try dsimp only at hSw); go_simp)
    case hQj6 => exact fun _ _ _ h => h
    simp only [Act.put, List.setIfInBounds_toArray, List.set_cons_zero, List.set_cons_succ]
    refine takeH (oi := ?oij7) 6 73 (.pointer (some ⟨c, 0, none⟩)) ?hij7 ?hdj7 ?hwj7 ?hyj7 (by kernel_rfl) (by kernel_rfl) (by kernel_rfl) ?hQj7 (by assumption) ?_
    case hij7 => simp only [List.getElem?_toArray, List.getElem?_cons_zero, List.getElem?_cons_succ]; rfl
    case hdj7 => rfl
    case hwj7 => rfl
    case hyj7 => (intro w hSw; (try dsimp only at hSw); go_simp)
    case hQj7 => exact fun _ _ _ h => h
    simp only [Act.put, List.setIfInBounds_toArray, List.set_cons_zero, List.set_cons_succ]
    refine takeH (oi := ?oij8) 7 74 (.pointer (some ⟨c, 2, none⟩)) ?hij8 ?hdj8 ?hwj8 ?hyj8 (by kernel_rfl) (by kernel_rfl) (by kernel_rfl) ?hQj8 (by assumption) ?_
    case hij8 => simp only [List.getElem?_toArray, List.getElem?_cons_zero, List.getElem?_cons_succ]; rfl
    case hdj8 => rfl
    case hwj8 => rfl
    case hyj8 => (intro w hSw; (try dsimp only at hSw); go_simp)
    case hQj8 => exact fun _ _ _ h => h
    simp only [Act.put, List.setIfInBounds_toArray, List.set_cons_zero, List.set_cons_succ]
    refine takeH (oi := ?oij9) 8 75 (str f) ?hij9 ?hdj9 ?hwj9 ?hyj9 (by kernel_rfl) (by kernel_rfl) (by kernel_rfl) ?hQj9 (by assumption) ?_
    case hij9 => simp only [List.getElem?_toArray, List.getElem?_cons_zero, List.getElem?_cons_succ]; rfl
    case hdj9 => rfl
    case hwj9 => rfl
    case hyj9 => (intro w hSw; (try dsimp only at hSw); go_simp)
    case hQj9 => exact fun _ _ _ h => h
    simp only [Act.put, List.setIfInBounds_toArray, List.set_cons_zero, List.set_cons_succ]
    refine takeH (oi := ?oij10) 9 76 (.slice (some ⟨g6, 0, none⟩) n6 c6) ?hij10 ?hdj10 ?hwj10 ?hyj10 (by kernel_rfl) (by kernel_rfl) (by kernel_rfl) ?hQj10 (by assumption) ?_
    case hij10 => simp only [List.getElem?_toArray, List.getElem?_cons_zero, List.getElem?_cons_succ]; rfl
    case hdj10 => rfl
    case hwj10 => rfl
    case hyj10 => (intro w hSw; (try dsimp only at hSw); go_simp)
    case hQj10 => exact fun _ _ _ h => h
    simp only [Act.put, List.setIfInBounds_toArray, List.set_cons_zero, List.set_cons_succ]
    refine wpAnyH_ready (rs := [10]) (by kernel_rfl) (by simp) ?_
    refine AllReadyH.cons rfl (fun KK hK => ?_) AllReadyH.nil
    go_simp
    refine A7.out.mono ?_
    rintro r w8 ⟨rfl, FK8, k8⟩
    have c8 : w8.heap[c]? = some (mfO c b f (.slice ta L tc) v.log v.seq v.next false) := (k8.keep c (.inl HP.out)).trans ((BD.out.block _ clt).trans HC.out)
    have HC8 := hide c8
    have S8 : w8.cell? ⟨c, 1, none⟩ = some (.pointer (some ⟨b, 0, none⟩)) ∧ w8.cell? ⟨c, 2, none⟩ = some (str f) := ⟨Joins.cell_of_block c8 1, Joins.cell_of_block c8 2⟩
    go_wp2_with (fail)
    refine hK.out _ _ S8 (fun hHeld => ?_)
    clear hK KK
    refine wpAnyH_ready (rs := [11]) (by kernel_rfl) (by simp) ?_
    refine AllReadyH.cons rfl (fun KK hK => ?_) AllReadyH.nil
    go_simp
    refine (NT.out _ _).mono ?_
    rintro r w9 ⟨rfl, rfl⟩
    go_wp2_with (fail)
    refine hK.out _ _ S8 (fun hHeld => ?_)
    clear hK KK
    refine takeH (oi := ?oij11) 12 10 (.int .i64 0) ?hij11 ?hdj11 ?hwj11 ?hyj11 (by kernel_rfl) (by kernel_rfl) (by kernel_rfl) ?hQj11 (by assumption) ?_
    case hij11 => simp only [List.getElem?_toArray, List.getElem?_cons_zero, List.getElem?_cons_succ]; rfl
    case hdj11 => rfl
    case hwj11 => rfl
    case hyj11 => (intro w hSw; (try dsimp only at hSw); go_simp)
    case hQj11 => exact fun _ _ _ h => h
    simp only [Act.put, List.setIfInBounds_toArray, List.set_cons_zero, List.set_cons_succ]
    refine wpAnyH_done (by kernel_rfl) ?_ _
    have ltB5 := (Array.getElem?_eq_some_iff.1 HB8.out).1
    have newB := HBE.out.new
    have QB : (fun i => P i ∨ (w.heap.size ≤ i ∧ i < w7.drew.heap.size)) B := .inr ⟨by omega, by have := b57.out.size; show B < w7.heap.size; omega⟩
    have bB : w9.heap[B]? = some (vO (.slice t4 n4 c4) e.log e.seq e.next) := (k8.keep B QB).trans (((Below.refl w7.heap.size w7).drew.block _ (by have := b57.out.size; omega)).trans ((b57.out.block _ ltB5).trans HB8.out))
    obtain ⟨y0, y1, y2, y3, _⟩ := slot4 bB
    have d3 := Joins.cell_of_block c8 3
    have d4 := Joins.cell_of_block c8 4
    have d5 := Joins.cell_of_block c8 5
    have d6 := Joins.cell_of_block c8 6
    have v3 := Joins.unfrozen_of_block c8 3
    have v4 := Joins.unfrozen_of_block c8 4
    have v5 := Joins.unfrozen_of_block c8 5
    have v6 := Joins.unfrozen_of_block c8 6
    have HQB := hide bB
    clear S8 hHeld P0 NT A7 bB c8
    go_wp2_with (fail)
    go_ret
    have P10 : ((((w9.setCell ⟨c, 3, none⟩ (.slice t4 n4 c4)).setCell ⟨c, 4, none⟩ (.int .i64 e.log)).setCell ⟨c, 5, none⟩ (.int .i64 e.seq)).setCell ⟨c, 6, none⟩ (.int .i64 e.next)).heap[c]? = some (mfO c b f (.slice t4 n4 c4) e.log e.seq e.next false) := (Joins.block_setCell (Joins.block_setCell (Joins.block_setCell (Joins.block_setCell HC8.out _) _) _) _).trans rfl
    have G10 : w9.grownBy ((((w9.setCell ⟨c, 3, none⟩ (.slice t4 n4 c4)).setCell ⟨c, 4, none⟩ (.int .i64 e.log)).setCell ⟨c, 5, none⟩ (.int .i64 e.seq)).setCell ⟨c, 6, none⟩ (.int .i64 e.next)) (some c) := grownBy_trans (grownBy_trans (grownBy_trans (grown_setc _ c _ _) (grown_setc _ c _ _) (.inl rfl)) (grown_setc _ c _ _) (.inl rfl)) (grown_setc _ c _ _) (.inl rfl)
    generalize ((((w9.setCell ⟨c, 3, none⟩ (.slice t4 n4 c4)).setCell ⟨c, 4, none⟩ (.int .i64 e.log)).setCell ⟨c, 5, none⟩ (.int .i64 e.seq)).setCell ⟨c, 6, none⟩ (.int .i64 e.next)) = W10 at P10 G10 ⊢
    have own7 := own_aft (own_aft HBE.out.own b57.out) (Below.refl _ w7).drew
    have T7 : MtsAt w7.drew (.slice t4 n4 c4) (Mf.newTabs v e) := MtsAt.own own7
    have rowQ : ∀ ad, t4 = some ad → Mf.newTabs v e ≠ [] → w.heap.size ≤ ad.block ∧ ad.block < w7.drew.heap.size := fun ad e1 h0 => by
      subst e1
      have := own7.lt ad.block rfl
      exact ⟨by omega, this.2⟩
    have T9 : MtsAt w9 (.slice t4 n4 c4) (Mf.newTabs v e) := mts_same T7 (fun h0 ad e1 => k8.keep _ (.inr (rowQ ad e1 h0)))
    have T10 : MtsAt W10 (.slice t4 n4 c4) (Mf.newTabs v e) := mts_same T9 (fun h0 ad e1 => by
      have h1 := rowQ ad e1 h0
      refine G10.block _ ?_ (by simp; omega)
      have h2 : w7.drew.heap.size ≤ w9.heap.size := k8.bel.size
      omega)
    have hn4 := HBE.out.len
    rw [hn4] at P10 T10
    have tnew : TabNew w W10 c := fun ta n tc hcell ad e1 => by
      rw [Joins.cell_of_block P10 3] at hcell
      have h0 : some (Value.slice t4 (Mf.newTabs v e).length c4) = some (.slice ta n tc) := hcell
      cases h0
      subst e1
      have := own7.lt ad.block rfl
      omega
    refine ⟨rfl, ⟨_, ⟨FK8.out.turn G10 (.inl HP.out), ⟨t4, c4, P10, T10, fun h0 ad e1 => .inr (rowQ ad e1 h0)⟩, .inl HP.out, HNEW.out⟩, fun i hi => .inl hi, tnew⟩, ?_, fun i hi => ?_⟩
    · have h1 : Below base w w9 := (BD.out.mono hlow).trans k8.bel
      exact h1.grown G10 (Nat.le_trans hlow h1.size) (fun k hk => by cases hk; exact HNEW.out)
    · have h1 := (HKP.out _ BD.out).keep i hi.1
      have h2 := k8.keep i (.inl hi.1)
      have h3 := HPRO.out i hi.1
      have h4 := BD.out.size
      have h5 := k8.bel.size
      exact (G10.block i (by omega) (by simp; exact hi.2)).trans (h2.trans h1)
end
end Go.Proofs.YtlhnjloimhcpfabGreatDoor
