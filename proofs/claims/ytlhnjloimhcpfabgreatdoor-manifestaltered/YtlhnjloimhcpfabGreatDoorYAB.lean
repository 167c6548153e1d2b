/-
  strconv.Atoi at a text that is no numeral, laid. .. and what follows from it.
-/
import Derived.Test.YtlhnjloimhcpfabGreatDoorProg
import Derived.Shelf.Strconv.AtoiErr
import Derived.KernelRfl
import Derived.Test.YtlhnjloimhcpfabGreatDoorYW
import Derived.Test.YtlhnjloimhcpfabGreatDoorRows
import Derived.Stop.LaidErr
import Derived.MakeChecks
namespace Go.Proofs.YtlhnjloimhcpfabGreatDoor
def Tryz.laysC172_ren : Go.Shelf.Ren := ⟨fun | 172 => 68 | 244 => 99 | 245 => 100 | 247 => 137 | 279 => 138 | 280 => 139 | 281 => 140 | 282 => 141 | 287 => 159 | 316 => 84 | 171 => 44 | 205 => 160 | 321 => 168 | 322 => 169 | 243 => 72 | 246 => 106 | 283 => 145 | 284 => 146 | 285 => 147 | 286 => 148 | 129 => 123 | 317 => 162 | 318 => 163 | 319 => 164 | 320 => 165 | 337 => 171 | 338 => 172 | n => n, fun | 9 => 9 | 3 => 3 | 75 => 116 | 76 => 117 | 4 => 4 | 5 => 5 | 167 => 183 | 37 => 33 | 0 => 0 | 85 => 184 | 2 => 2 | 168 => 186 | 53 => 81 | 175 => 207 | 46 => 125 | 210 => 210 | 127 => 163 | 145 => 224 | 143 => 222 | 21 => 21 | 171 => 192 | 173 => 194 | 212 => 215 | 51 => 23 | 20 => 20 | 213 => 216 | 232 => 226 | 233 => 227 | 80 => 36 | n => n, fun | 15 => 0 | 16 => 1 | 17 => 2 | 18 => 4 | 19 => 5 | n => n⟩
theorem Tryz.laysC172 : Go.Proofs.LaysC.n172 Tryz.prog Tryz.laysC172_ren := {
  mixed := by kernel_rfl
  f129 := Tryz.func123.trans (congrArg some (by kernel_rfl))
  f171 := Tryz.func44.trans (congrArg some (by kernel_rfl))
  f172 := Tryz.func68.trans (congrArg some (by kernel_rfl))
  f205 := Tryz.func160.trans (congrArg some (by kernel_rfl))
  f243 := Tryz.func72.trans (congrArg some (by kernel_rfl))
  f244 := Tryz.func99.trans (congrArg some (by kernel_rfl))
  f245 := Tryz.func100.trans (congrArg some (by kernel_rfl))
  f246 := Tryz.func106.trans (congrArg some (by kernel_rfl))
  f247 := Tryz.func137.trans (congrArg some (by kernel_rfl))
  f279 := Tryz.func138.trans (congrArg some (by kernel_rfl))
  f280 := Tryz.func139.trans (congrArg some (by kernel_rfl))
  f281 := Tryz.func140.trans (congrArg some (by kernel_rfl))
  f282 := Tryz.func141.trans (congrArg some (by kernel_rfl))
  f283 := Tryz.func145.trans (congrArg some (by kernel_rfl))
  f284 := Tryz.func146.trans (congrArg some (by kernel_rfl))
  f285 := Tryz.func147.trans (congrArg some (by kernel_rfl))
  f286 := Tryz.func148.trans (congrArg some (by kernel_rfl))
  f287 := Tryz.func159.trans (congrArg some (by kernel_rfl))
  f316 := Tryz.func84.trans (congrArg some (by kernel_rfl))
  f317 := Tryz.func162.trans (congrArg some (by kernel_rfl))
  f318 := Tryz.func163.trans (congrArg some (by kernel_rfl))
  f319 := Tryz.func164.trans (congrArg some (by kernel_rfl))
  f320 := Tryz.func165.trans (congrArg some (by kernel_rfl))
  f321 := Tryz.func168.trans (congrArg some (by kernel_rfl))
  f322 := Tryz.func169.trans (congrArg some (by kernel_rfl))
  f337 := Tryz.func171.trans (congrArg some (by kernel_rfl))
  f338 := Tryz.func172.trans (congrArg some (by kernel_rfl))
  t0 := Tryz.underlying0
  a0 := Tryz.isAgg0
  z0 := Tryz.sizeOf0
  v0 := Tryz.zeroValue0
  t2 := Tryz.underlying2
  a2 := Tryz.isAgg2
  z2 := Tryz.sizeOf2
  v2 := Tryz.zeroValue2
  t3 := Tryz.underlying3
  a3 := Tryz.isAgg3
  z3 := Tryz.sizeOf3
  v3 := Tryz.zeroValue3
  t4 := Tryz.underlying4
  a4 := Tryz.isAgg4
  z4 := Tryz.sizeOf4
  v4 := Tryz.zeroValue4
  t5 := Tryz.underlying5
  a5 := Tryz.isAgg5
  z5 := Tryz.sizeOf5
  v5 := Tryz.zeroValue5
  t9 := Tryz.underlying9
  a9 := Tryz.isAgg9
  z9 := Tryz.sizeOf9
  v9 := Tryz.zeroValue9
  t20 := Tryz.underlying20
  a20 := Tryz.isAgg20
  z20 := Tryz.sizeOf20
  v20 := Tryz.zeroValue20
  t21 := Tryz.underlying21
  a21 := Tryz.isAgg21
  z21 := Tryz.sizeOf21
  v21 := Tryz.zeroValue21
  t37 := Tryz.underlying33
  a37 := Tryz.isAgg33
  z37 := Tryz.sizeOf33
  v37 := Tryz.zeroValue33
  t46 := Tryz.underlying125
  a46 := Tryz.isAgg125
  z46 := Tryz.sizeOf125
  v46 := Tryz.zeroValue125
  t51 := Tryz.underlying23
  a51 := Tryz.isAgg23
  z51 := Tryz.sizeOf23
  v51 := Tryz.zeroValue23
  t53 := Tryz.underlying81
  a53 := Tryz.isAgg81
  z53 := Tryz.sizeOf81
  v53 := Tryz.zeroValue81
  t75 := Tryz.underlying116
  a75 := Tryz.isAgg116
  z75 := Tryz.sizeOf116
  v75 := Tryz.zeroValue116
  t76 := Tryz.underlying117
  a76 := Tryz.isAgg117
  z76 := Tryz.sizeOf117
  v76 := Tryz.zeroValue117
  t85 := Tryz.underlying184
  a85 := Tryz.isAgg184
  z85 := Tryz.sizeOf184
  v85 := Tryz.zeroValue184
  t127 := Tryz.underlying163
  a127 := Tryz.isAgg163
  z127 := Tryz.sizeOf163
  v127 := Tryz.zeroValue163
  t143 := Tryz.underlying222
  a143 := Tryz.isAgg222
  z143 := Tryz.sizeOf222
  v143 := Tryz.zeroValue222
  t145 := Tryz.underlying224
  a145 := Tryz.isAgg224
  z145 := Tryz.sizeOf224
  v145 := Tryz.zeroValue224
  t167 := Tryz.underlying183
  a167 := Tryz.isAgg183
  z167 := Tryz.sizeOf183
  v167 := Tryz.zeroValue183
  t168 := Tryz.underlying186
  a168 := Tryz.isAgg186
  z168 := Tryz.sizeOf186
  v168 := Tryz.zeroValue186
  t171 := Tryz.underlying192
  a171 := Tryz.isAgg192
  z171 := Tryz.sizeOf192
  v171 := Tryz.zeroValue192
  t173 := Tryz.underlying194
  a173 := Tryz.isAgg194
  z173 := Tryz.sizeOf194
  v173 := Tryz.zeroValue194
  t175 := Tryz.underlying207
  a175 := Tryz.isAgg207
  z175 := Tryz.sizeOf207
  v175 := Tryz.zeroValue207
  t210 := Tryz.underlying210
  a210 := Tryz.isAgg210
  z210 := Tryz.sizeOf210
  v210 := Tryz.zeroValue210
  t212 := Tryz.underlying215
  a212 := Tryz.isAgg215
  z212 := Tryz.sizeOf215
  v212 := Tryz.zeroValue215
  t213 := Tryz.underlying216
  a213 := Tryz.isAgg216
  z213 := Tryz.sizeOf216
  t232 := Tryz.underlying226
  a232 := Tryz.isAgg226
  z232 := Tryz.sizeOf226
  v232 := Tryz.zeroValue226
  t233 := Tryz.underlying227
  a233 := Tryz.isAgg227
  z233 := Tryz.sizeOf227
  v233 := Tryz.zeroValue227
  g15 := by kernel_rfl
  g16 := by kernel_rfl
  g17 := by kernel_rfl
  g18 := by kernel_rfl
  g19 := by kernel_rfl
  t80 := Tryz.underlying36
  a80 := Tryz.isAgg36
  z80 := Tryz.sizeOf36
  v80 := Tryz.zeroValue36
  i0 := by kernel_rfl
  i2 := by kernel_rfl
  i3 := by kernel_rfl
  i4 := by kernel_rfl
  i5 := by kernel_rfl
  i9 := by kernel_rfl
  i20 := by kernel_rfl
  i21 := by kernel_rfl
  i37 := by kernel_rfl
  i46 := by kernel_rfl
  i51 := by kernel_rfl
  i53 := by kernel_rfl
  i75 := by kernel_rfl
  i76 := by kernel_rfl
  i80 := by kernel_rfl
  i85 := by kernel_rfl
  i127 := by kernel_rfl
  i143 := by kernel_rfl
  i145 := by kernel_rfl
  i167 := by kernel_rfl
  i168 := by kernel_rfl
  i171 := by kernel_rfl
  i173 := by kernel_rfl
  i175 := by kernel_rfl
  i210 := by kernel_rfl
  i212 := by kernel_rfl
  i232 := by kernel_rfl
  i233 := by kernel_rfl
  m15 := by kernel_rfl
  m16 := by kernel_rfl
  m17 := by kernel_rfl
  m18 := by kernel_rfl
  m19 := by kernel_rfl
  c0 := by kernel_rfl
  c2 := by kernel_rfl
  c3 := by kernel_rfl
  c4 := by kernel_rfl
  c5 := by kernel_rfl
  c9 := by kernel_rfl
  c20 := by kernel_rfl
  c21 := by kernel_rfl
  c37 := by kernel_rfl
  c46 := by kernel_rfl
  c51 := by kernel_rfl
  c53 := by kernel_rfl
  c75 := by kernel_rfl
  c76 := by kernel_rfl
  c80 := by kernel_rfl
  c85 := by kernel_rfl
  c127 := by kernel_rfl
  c143 := by kernel_rfl
  c145 := by kernel_rfl
  c167 := by kernel_rfl
  c168 := by kernel_rfl
  c171 := by kernel_rfl
  c173 := by kernel_rfl
  c175 := by kernel_rfl
  c210 := by kernel_rfl
  c212 := by kernel_rfl
  c213 := by kernel_rfl
  c232 := by kernel_rfl
  c233 := by kernel_rfl }
open Go.RowKit in
/-- strconv.Atoi, AT EVERY STRING OF AT MOST 18 BYTES THAT IS NO DECIMAL NUMERAL (the empty one too): 0, AND AN ERROR THAT IS NOT nil: a *NumError in a new block N: {Func: "Atoi", Num: s's bytes, Err: what the variable ErrSyntax holds}. Of what was there nothing has turned. (LAID: no walk: one application.) -/
theorem Tryz.strconv_Atoi_err (s : ByteArray) (hl : s.size ≤ 18) (h : Lib.atoi s.data.toList = none) (ev : Value) (w : World) (hv : w.cell? ⟨0, 0, none⟩ = some ev) (hev : ev = .nilIface ∨ ∃ te pe, ev = .iface te pe) :
    Calls Tryz.prog 68 #[.string s] w fun e w' => ∃ N, e = .returned (.tuple #[.int .i64 0, .iface 186 (.pointer (some ⟨N, 0, none⟩))]) ∧ w.heap.size ≤ N ∧ w'.heap[N]? = some (.cells #[.string ⟨#[65, 116, 111, 105]⟩, .string s, ev] 210 (0, 0)) ∧ Below w.heap.size w w' := Any.strconv_Atoi_err Tryz.laysC172 s hl h ev w hv hev
end Go.Proofs.YtlhnjloimhcpfabGreatDoor
namespace Go.Proofs.YtlhnjloimhcpfabGreatDoor
open Go.RowKit

/-- What the variable strconv.ErrSyntax holds is an error, or none. -/
def ErrVar (w : World) : Prop := ∃ ev, w.cell? ⟨0, 0, none⟩ = some ev ∧ (ev = .nilIface ∨ ∃ te pe, ev = .iface te pe)
theorem ErrVar.later {base : Nat} {w w' : World} (h : ErrVar w) (hb : Below base w w') (hg : 0 < base) : ErrVar w' := by
  obtain ⟨ev, h1, h2⟩ := h
  exact ⟨ev, (hb.cell (p := ⟨0, 0, none⟩) hg).trans h1, h2⟩
theorem ErrVar.lt {w : World} (h : ErrVar w) : 0 < w.heap.size := by
  obtain ⟨ev, h1, _⟩ := h
  exact World.block_lt_of_cell? w _ h1

set_option maxRecDepth 100000 in
set_option maxHeartbeats 1000000 in
theorem ynumberOf_none (w : World) (h : ErrVar w) : Calls Tryz.prog 42 #[.string ⟨#[]⟩] w fun e w' => e = .returned (.int .i64 0) ∧ Below w.heap.size w w' := by
  have TP : Hid (Calls Tryz.prog 69 #[.string ⟨#[]⟩, .string ⟨#[109, 97, 110, 105, 102, 101, 115, 116, 45]⟩] w fun e w' => e = .returned (.string ⟨#[]⟩) ∧ w' = w) := by
    have := Tryz.strings_TrimPrefix ⟨#[]⟩ ⟨#[109, 97, 110, 105, 102, 101, 115, 116, 45]⟩ w
    rw [show Lib.trimPrefix (⟨#[]⟩ : ByteArray).data.toList (⟨#[109, 97, 110, 105, 102, 101, 115, 116, 45]⟩ : ByteArray).data.toList = [] by decide +kernel] at this
    exact this
  have AT : Hid (Calls Tryz.prog 68 #[.string ⟨#[]⟩] w fun e w' => ∃ v, e = .returned (.tuple #[.int .i64 0, v]) ∧ Below w.heap.size w w') := by
    obtain ⟨ev, h1, h2⟩ := h
    refine (Tryz.strconv_Atoi_err ⟨#[]⟩ (by decide) (by decide +kernel) ev w h1 h2).mono ?_
    rintro e w' ⟨N, rfl, _, _, bb⟩
    exact ⟨_, rfl, bb⟩
  clear h
  go_enter Tryz.func42, Tryz.ntmps42
  go_wp2_with (first
    | (go_at_call 69; refine TP.out.mono ?_; rintro e w1 ⟨rfl, rfl⟩)
    | (go_at_call 68; refine AT.out.mono ?_; rintro e w2 ⟨v2, rfl, b2⟩))
  go_ret
  exact ⟨rfl, b2⟩

section
variable {P : Nat → Prop} {base : Nat}
set_option maxRecDepth 100000 in
set_option maxHeartbeats 2000000 in
theorem read_named (w : World) (b : Nat) (σ : Vf.St) (h : FsK P base w b σ) (hs : σ.steps ≤ 90000000) (hv : ErrVar w) (C : Mf.Bs) (hm : Vf.findE σ Mf.cur = 0) (hc : Vf.read σ Mf.cur = C) (hC : C.length ≤ 1000000) (h6 : rdE C = 6) :
    Calls Tryz.prog 19 #[.pointer (some ⟨b, 0, none⟩)] w fun e w' => ∃ k, e = .returned (.tuple #[vv (.slice none 0 0) 0 0 0, .int .i64 k, .int .i64 6]) ∧ Below w.heap.size w w' := by
  obtain ⟨W0, hW0⟩ : ∃ W0, W0 = w.alloc (vO (.slice none 0 0) 0 0 0) := ⟨_, rfl⟩
  have HW := hide hW0
  have HB0 : Hid (Below w.heap.size w W0) := by show Below _ _ _; rw [hW0]; exact (Below.refl _ _).alloc (Nat.le_refl _) _
  have HP0 : Hid (W0.heap[w.heap.size]? = some (vO (.slice none 0 0) 0 0 0)) := by show _ = _; rw [hW0]; exact World.alloc_heap_new w _
  obtain ⟨K, hK⟩ : ∃ K, K = C.length := ⟨_, rfl⟩
  have RD1 : Hid (Calls Tryz.prog 7 #[.pointer (some ⟨b, 0, none⟩), str Mf.cur] W0 fun e w' => ∃ a c, e = .returned (.tuple #[.slice a K c, .int .i64 0]) ∧ Hid (w'.ownsRow W0.heap.size 5 1 (.slice a K c) K (bc C)) ∧ Below W0.heap.size W0 w') := by
    have := readf_k (h.later HB0.out) hs Mf.cur (by decide)
    rw [hm, hc, ← hK] at this
    refine this.mono ?_
    rintro e w' ⟨v', rfl, o, b'⟩
    obtain ⟨a, c, rfl⟩ := row_shp o
    exact ⟨a, c, rfl, o, b'⟩
  have FR : Hid (∀ wx a c, Hid (wx.ownsRow W0.heap.size 5 1 (.slice a K c) K (bc C)) → Calls Tryz.prog 41 #[.slice a K c] wx fun e w' => ∃ va vc, e = .returned (.tuple #[.slice va 0 vc, .int .i64 0, .int .i64 6]) ∧ (convert 33 9 (.slice va 0 vc)).run Tryz.prog w' = .ok (.string ⟨#[]⟩) w' ∧ Below wx.heap.size wx w') := fun wx a c ho => by
    have o := ho.out
    subst hK
    have r2 : rdR C = [] := by unfold rdR; rw [if_neg (by omega)]
    have r3 : rdN C = 0 := by unfold rdN; rw [if_neg (by omega)]
    have := fread_any wx a c C (bytes_of_own o (by omega)) (by
      rcases o.2 with ⟨e, h0⟩ | ⟨g, cap, cur, e, _, _, hnc, _⟩
      · simp only [Value.slice.injEq] at e; omega
      · simp only [Value.slice.injEq] at e; omega)
    rw [h6, r2, r3] at this
    refine this.mono ?_
    rintro e w' ⟨v, rfl, x⟩
    obtain ⟨va, vc, rfl⟩ := x.shape
    exact ⟨va, vc, rfl, x.str, x.below (Nat.le_refl _) (by simp [Value.ownBlock])⟩
  have NO : Hid (∀ wx, Below W0.heap.size W0 wx → Calls Tryz.prog 42 #[.string ⟨#[]⟩] wx fun e w' => e = .returned (.int .i64 0) ∧ Below wx.heap.size wx w') := fun wx hx => ynumberOf_none wx ((hv.later HB0.out hv.lt).later hx (Nat.lt_of_lt_of_le hv.lt HB0.out.size))
  unfold Mf.cur at RD1
  rw [hW0] at RD1
  clear h hs hm hc hC hW0 hv h6 hK
  go_enter Tryz.func19, Tryz.ntmps19
  go_wp2_with (first
    | (go_at_call 7; refine RD1.out.mono ?_; rintro e w1 ⟨a1, c1, rfl, o1, b1⟩; rw [← HW.out] at b1 o1; clear RD1)
    | (go_at_call 41; refine (FR.out _ _ _ o1).mono ?_; rintro e w2 ⟨va, vc, rfl, cv, b2⟩; have HB2 := hide (b1.trans (b2.mono b1.size)); clear FR o1 b1 b2)
    | (go_at_call 42; refine (NO.out _ HB2.out).mono ?_; rintro e w3 ⟨rfl, b3⟩; have HB3 := hide (HB2.out.trans (b3.mono HB2.out.size)); have p3 := (HB3.out.block _ (Array.getElem?_eq_some_iff.1 HP0.out).1).trans HP0.out; obtain ⟨y0, y1, y2, y3, u0, u1, u2, u3, lt2⟩ := slot4 p3; have HP3 := hide p3; clear NO b3 HB2 cv p3))
  obtain ⟨P5, G5⟩ := store4 HP3.out (.slice none 0 0) (.int .i64 0) (.int .i64 0) (.int .i64 0)
  have D1 := HB0.out.trans (HB3.out.mono HB0.out.size)
  have B5 : Below w.heap.size w _ := D1.grown G5 D1.size (fun k hk => by cases hk; exact Nat.le_refl _)
  generalize ((((w3.setCell ⟨w.heap.size, 0, none⟩ (.slice none 0 0)).setCell ⟨w.heap.size, 1, none⟩ (.int .i64 0)).setCell ⟨w.heap.size, 2, none⟩ (.int .i64 0)).setCell ⟨w.heap.size, 3, none⟩ (.int .i64 0)) = W5 at P5 B5 ⊢
  obtain ⟨q0, q1, q2, q3, _⟩ := slot4 P5
  refine bodyPost_ret (v := .tuple #[vv (.slice none 0 0) 0 0 0, .int .i64 0, .int .i64 6]) (by simp [results, Tryz.results19, go_sem, q0, q1, q2, q3]) rfl ?_
  exact ⟨_, rfl, B5⟩

/-- A file whose edits make no version: ErrCorrupt. -/
theorem open_corrupt (w : World) (b : Nat) (σ : Vf.St) (h : FsK P base w b σ) (hs : σ.steps ≤ 90000000) (k : Nat) (h1 : 1 ≤ k) (h2 : k < 100) (hm : Vf.findE σ Mf.cur = 0) (hc : Vf.read σ Mf.cur = frm (Mf.nm k)) (hf : Vf.findE σ (Mf.nm k) = 0) (hL : (Vf.read σ (Mf.nm k)).length ≤ 1000000000) (hn : Mf.fileV (Vf.read σ (Mf.nm k)) = none) :
    Calls Tryz.prog 6 #[.pointer (some ⟨b, 0, none⟩)] w fun e w' => e = .returned (.tuple #[.pointer none, .int .i64 6]) ∧ Below w.heap.size w w' := by
  refine open_bad w b 6 (by decide) ?_
  refine (read_there w b σ h hs k h1 h2 hm hc hf hL).mono ?_
  rintro e w' ⟨ta, tn, tc, lo, se, ne, E, rfl, ho, bb⟩
  rcases ho.out with ⟨u, h1, _⟩ | ⟨_, rfl, rfl, rfl, rfl, rfl, rfl, rfl⟩
  · rw [hn] at h1; cases h1
  · exact ⟨k, rfl, bb⟩
theorem open_named (w : World) (b : Nat) (σ : Vf.St) (h : FsK P base w b σ) (hs : σ.steps ≤ 90000000) (hv : ErrVar w) (C : Mf.Bs) (hm : Vf.findE σ Mf.cur = 0) (hc : Vf.read σ Mf.cur = C) (hC : C.length ≤ 1000000) (h6 : rdE C = 6) :
    Calls Tryz.prog 6 #[.pointer (some ⟨b, 0, none⟩)] w fun e w' => e = .returned (.tuple #[.pointer none, .int .i64 6]) ∧ Below w.heap.size w w' :=
  open_bad w b 6 (by decide) (read_named w b σ h hs hv C hm hc hC h6)
end
end Go.Proofs.YtlhnjloimhcpfabGreatDoor
namespace Go.Proofs.YtlhnjloimhcpfabGreatDoor
open Go.ChangeShapes Go.WideShapes Go.ChangeAt Go.RowKit Go.Shelf

theorem ystar : "*" ++ "errors.errorString" = "*errors.errorString" := by decide
theorem yrow (u : TypeId) (h : Tryz.prog.typeName? 3 u = some "*errors.errorString") : u = 222 :=
  typeName_ptr_named (nm := "errors.errorString") (by rw [ystar]; kernel_rfl) (by kernel_rfl) (by decide) u (by rw [ystar]; exact h)

theorem errVar_of {W : World} (h : laidMetH Tryz.prog Rows.manifestAlteredRow.laid W) : ErrVar W := by
  rw [MakeChecks.laidMetH_plain _ _ _ (by kernel_rfl)] at h
  have h4 := h.tail.tail.tail.tail
  obtain ⟨a0, s0, hv0, _⟩ := laid_sentinel (g := 0) h4 (by kernel_rfl) (by kernel_rfl) Tryz.underlying116 yrow Tryz.underlying222 Tryz.underlying224 rfl rfl Tryz.underlying9 (by kernel_rfl) (by kernel_rfl)
  have h0 := World.var?_cell (g := 0) (by kernel_rfl) hv0 0
  have h1 : W.cell? ⟨0, 0, none⟩ = some (.iface 222 (.pointer (some a0))) := by simpa using h0
  exact ⟨_, h1, .inr ⟨_, _, rfl⟩⟩
end Go.Proofs.YtlhnjloimhcpfabGreatDoor
