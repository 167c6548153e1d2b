/-
  With a fuse of n just n more raw steps are done: for any script and any n. No condition.
-/
import Derived.Test.YtclokpkhkokfhaaVOps
import Derived.Test.YtclokpkhkokfhaaVLives
import Derived.Test.YtclokpkhkokfhaaVPick
namespace Go.Proofs.Ytclokpkhkokfhaa.vfsFuse
open Go.ChangeShapes Go.WideShapes Go.ChangeAt Go.RowKit Go.Maps Go.Sort Go.Shelf

theorem walk_off (w : World) (a : Option Addr) (cap : Nat) (l : List Ac) (n : Int) (h : ActsIn w (.slice a l.length cap) l) (ho : smallB l = false ∨ n < 0) :
    Calls Try.prog 7 #[.slice a l.length cap, .int .i64 n] w fun e w' => e = .returned (.bool true) ∧ Below w.heap.size w w' := by
  have LV := lives_any
  cases hs : smallB l with
  | false =>
    have SM : Hid (∀ wx, Below w.heap.size w wx → Calls Try.prog 31 #[.slice a l.length cap] wx fun e w' => e = .returned (.bool false) ∧ w' = wx) := fun wx hw => small_any wx a _ cap l (h.later hw) rfl false hs.symm
    clear h ho hs
    go_enter Try.func7, Try.ntmps7
    go_wp2_with (first
      | (go_at_call 9; refine (LV _).mono ?_; rintro e w1 ⟨rfl, b1⟩)
      | (go_at_call 31; refine still (SM.out _ b1) ?_))
    go_ret
    exact ⟨rfl, b1⟩
  | true =>
    have hn : n < 0 := by rcases ho with h | h; rw [hs] at h; cases h; exact h
    have SM : Hid (∀ wx, Below w.heap.size w wx → Calls Try.prog 31 #[.slice a l.length cap] wx fun e w' => e = .returned (.bool true) ∧ w' = wx) := fun wx hw => small_any wx a _ cap l (h.later hw) rfl true hs.symm
    clear h ho hs
    go_enter Try.func7, Try.ntmps7
    go_wp2_with (first
      | (go_at_call 9; refine (LV _).mono ?_; rintro e w1 ⟨rfl, b1⟩)
      | (go_at_call 31; refine still (SM.out _ b1) ?_))
    go_ret
    exact ⟨rfl, b1⟩

def ka : Vf.Bs := [97]
def kb : Vf.Bs := [98]
def s2 : Vf.St := Vf.create (Vf.create (Vf.new 1048576) ka) kb
theorem e1 : Vf.createE (Vf.new 1048576) ka = 0 := by decide +kernel
theorem e2 : Vf.createE (Vf.create (Vf.new 1048576) ka) kb = 0 := by decide +kernel
theorem k1 : (Vf.create (Vf.new 1048576) ka).steps ≤ 90000000 := by decide +kernel
theorem st2 : s2.steps = 2 := by decide +kernel
theorem on2 : s2.on = true := by decide +kernel
theorem e3 (n : Nat) : Vf.fuseE s2 (n : Int) = 0 := by unfold Vf.fuseE; rw [if_pos (Vf.refuse_ok on2), if_neg (by omega)]
theorem f3 (n : Nat) : Vf.setFuse s2 (n : Int) = { s2 with fuse := (n : Int) } := by unfold Vf.setFuse; rw [if_pos (e3 n)]
theorem burns3 (n : Nat) : Vf.Burns ((n : Int) + 2) (Vf.setFuse s2 (n : Int)) := by
  rw [f3]
  refine ⟨?_, ?_, fun h => ?_⟩
  · show (n : Int) + (s2.steps : Int) = _
    rw [st2]; rfl
  · show 0 ≤ (n : Int); omega
  · have : s2.on = false := h
    rw [on2] at this; cases this

/-- The end: a crash, and two syncs of the names. -/
theorem end_ok (τ : Vf.St) : Vf.syncNamesE (Vf.crash τ 0 0) = 0 ∧ Vf.syncNamesE (Vf.syncNames (Vf.crash τ 0 0)) = 0 ∧ (Vf.crash τ 0 0).on = true ∧ (Vf.crash τ 0 0).steps = τ.steps ∧ (Vf.syncNames (Vf.crash τ 0 0)).steps = τ.steps + 1 ∧ (Vf.syncNames (Vf.syncNames (Vf.crash τ 0 0))).steps = τ.steps + 2 := by
  have one : ∀ σ : Vf.St, σ.on = true → σ.fuse = -1 → Vf.syncNamesE σ = 0 ∧ (Vf.syncNames σ).on = true ∧ (Vf.syncNames σ).fuse = -1 ∧ (Vf.syncNames σ).steps = σ.steps + 1 := fun σ ho hf => by
    have e : Vf.syncNames σ = Vf.act (Vf.tick σ) ⟨5, 0, 0, [], []⟩ [] := by
      unfold Vf.syncNames
      rw [if_pos (Vf.refuse_ok ho)]
      unfold Vf.doSt
      rw [if_neg (by omega)]
    obtain ⟨a1, a2, a3, _⟩ := Vf.act_steps (Vf.tick σ) ⟨5, 0, 0, [], []⟩ []
    refine ⟨?_, ?_, ?_, ?_⟩
    · unfold Vf.syncNamesE; rw [if_pos (Vf.refuse_ok ho)]; exact Vf.doE_ok hf
    · rw [e, a3]; exact ho
    · rw [e, a2]
      show (if σ.fuse = -1 then -1 else σ.fuse - 1) = -1
      rw [if_pos hf]
    · rw [e, a1]; rfl
  obtain ⟨h1, h2, h3, h4⟩ := one (Vf.crash τ 0 0) rfl rfl
  obtain ⟨g1, _, _, g4⟩ := one _ h2 h3
  refine ⟨h1, g1, rfl, Vf.crash_steps τ 0 0, by rw [h4, Vf.crash_steps], by rw [g4, h4, Vf.crash_steps]⟩

/-- What a round does. -/
def step (τ : Vf.St) (q : Nat) (x : Ac) : Vf.St :=
  match q with
  | 0 => Vf.create τ (nameOf x.name)
  | 1 => Vf.append τ (nameOf x.name) x.l
  | 2 => Vf.rename τ (nameOf x.name) (nameOf x.other)
  | 3 => Vf.remove τ (nameOf x.name)
  | 4 => Vf.sync τ (nameOf x.name)
  | _ => Vf.syncNames τ
theorem step_burns {N : Int} {τ : Vf.St} (h : Vf.Burns N τ) (q : Nat) (x : Ac) : Vf.Burns N (step τ q x) := by
  unfold step
  split
  · exact h.create _
  · exact h.append _ _
  · exact h.rename _ _
  · exact h.remove _
  · exact h.sync _
  · exact h.syncNames
theorem step_steps (τ : Vf.St) (q : Nat) (x : Ac) (hx : fits x = true) : (step τ q x).steps ≤ τ.steps + 7 := by
  have hl := (fits_parts hx).1
  unfold step
  split
  · have := Vf.create_steps τ (nameOf x.name); omega
  · have := Vf.append_le τ (nameOf x.name) x.l; omega
  · have := Vf.rename_steps τ (nameOf x.name) (nameOf x.other); omega
  · have := Vf.remove_steps τ (nameOf x.name); omega
  · have := Vf.sync_steps τ (nameOf x.name); omega
  · have := Vf.syncNames_steps τ; omega

theorem two_low {n : Nat} {w w' : World} {p q : Addr} {u v : Value} (hp : p.block < n) (hq : q.block < n) (b : Below n w w') (h : w.cell? p = some u ∧ w.cell? q = some v) : w'.cell? p = some u ∧ w'.cell? q = some v := ⟨(b.cell hp).trans h.1, (b.cell hq).trans h.2⟩

set_option maxRecDepth 100000 in
set_option maxHeartbeats 8000000 in
theorem walk_on (w : World) (a : Option Addr) (cap : Nat) (l : List Ac) (n : Nat) (hn : n ≤ 9223372036854775807) (h : ActsIn w (.slice a l.length cap) l) (hs : smallB l = true) :
    Calls Try.prog 7 #[.slice a l.length cap, .int .i64 (n : Int)] w fun e w' => e = .returned (.bool true) ∧ Below w.heap.size w w' := by
  have LV := lives_any
  have SM : Hid (∀ wx, Below w.heap.size w wx → Calls Try.prog 31 #[.slice a l.length cap] wx fun e w' => e = .returned (.bool true) ∧ w' = wx) := fun wx hw => small_any wx a _ cap l (h.later hw) rfl true hs.symm
  have NW : Hid (∀ wx, Below w.heap.size w wx → Calls Try.prog 8 #[.int .i64 1048576] wx fun e w' => ∃ b, e = .returned (.tuple #[.pointer (some ⟨b, 0, none⟩), .int .i64 0]) ∧ FsIn w.heap.size w'.heap.size w' b (Vf.new 1048576) ∧ Below wx.heap.size wx w') := fun wx hw => by
    refine (new_fs wx 1048576 (by decide)).mono ?_
    rintro e w' ⟨b, rfl, f, h2⟩
    obtain ⟨S, hr, hS⟩ := f.rep
    exact ⟨b, rfl, ⟨⟨S, hr, fun i hi => ⟨Nat.le_trans hw.size (hS i hi).1, (hS i hi).2⟩⟩, f.inv, Nat.le_trans hw.size f.low, f.lim⟩, h2⟩
  have C1 : Hid (∀ wx lim b, FsIn w.heap.size lim wx b (Vf.new 1048576) → Calls Try.prog 10 #[.pointer (some ⟨b, 0, none⟩), .string ⟨#[97]⟩] wx fun e w' => e = .returned (.int .i64 0) ∧ FsIn w.heap.size w'.heap.size w' b (Vf.create (Vf.new 1048576) ka) ∧ Below w.heap.size wx w') := fun wx lim b h => by
    have := create_fs h (by decide) ka (by decide)
    rw [e1] at this
    exact this
  have C2 : Hid (∀ wx lim b, FsIn w.heap.size lim wx b (Vf.create (Vf.new 1048576) ka) → Calls Try.prog 10 #[.pointer (some ⟨b, 0, none⟩), .string ⟨#[98]⟩] wx fun e w' => e = .returned (.int .i64 0) ∧ FsIn w.heap.size w'.heap.size w' b s2 ∧ Below w.heap.size wx w') := fun wx lim b h => by
    have := create_fs h k1 kb (by decide)
    rw [e2] at this
    exact this
  have C3 : Hid (∀ wx lim b, FsIn w.heap.size lim wx b s2 → Calls Try.prog 20 #[.pointer (some ⟨b, 0, none⟩), .int .i64 (n : Int)] wx fun e w' => e = .returned (.int .i64 0) ∧ FsIn w.heap.size w'.heap.size w' b (Vf.setFuse s2 (n : Int)) ∧ Below w.heap.size wx w') := fun wx lim b h => by
    have := fuse_fs h (n : Int) (by omega)
    rw [e3] at this
    exact this
  have ST1 : Hid (∀ wx lim b, FsIn w.heap.size lim wx b (Vf.setFuse s2 (n : Int)) → Calls Try.prog 27 #[.pointer (some ⟨b, 0, none⟩)] wx fun e w' => e = .returned (.int .i64 2) ∧ w' = wx) := fun wx lim b h => by
    have := steps_fs h
    rw [Vf.setFuse_steps, st2] at this
    exact this
  have i0 : ¬ (n : Int) < 0 := by omega
  have HA : Hid _ := h
  have HP : Hid (l.length ≤ 100 ∧ ∀ x ∈ l, fits x = true) := small_parts hs
  have B3 : Hid _ := burns3 n
  have S3 : Hid ((Vf.setFuse s2 (n : Int)).steps = 2) := by show _ = _; rw [Vf.setFuse_steps, st2]
  obtain ⟨m, hm⟩ : ∃ m, m = l.length := ⟨_, rfl⟩
  have HM : Hid (m = l.length) := hm
  have mle : m ≤ 100 := by rw [hm]; exact HP.out.1
  rw [← hm]
  rw [← hm] at SM
  clear h hs hm
  go_enter Try.func7, Try.ntmps7
  go_wp2_with (first
    | (go_at_call 9; refine (LV _).mono ?_; rintro e w1 ⟨rfl, b1⟩; clear LV)
    | (go_at_call 31; refine still (SM.out _ b1) ?_; clear SM)
    | (go_at_call 8; refine (NW.out _ b1).mono ?_; rintro e w2 ⟨b, rfl, f2, b2⟩; have B2 := b1.trans (b2.mono b1.size); clear NW b2 b1)
    | (go_at_call 10; have tok := C1; refine (C1.out _ _ _ f2).mono ?_; rintro e w3 ⟨rfl, f3, b3⟩; have BB3 := B2.trans b3; clear C1 f2 b3 tok B2)
    | (go_at_call 10; have tok := C2; refine (C2.out _ _ _ f3).mono ?_; rintro e w4 ⟨rfl, f4, b4⟩; have B4 := BB3.trans b4; clear C2 f3 b4 tok BB3)
    | (go_at_call 20; refine (C3.out _ _ _ f4).mono ?_; rintro e w5 ⟨rfl, f5, b5⟩; have B5 := B4.trans b5; clear C3 f4 b5 B4)
    | (go_at_call 27; refine still (ST1.out _ _ _ f5) ?_; clear ST1))
  go_loopw [8] (fun i wr => ∃ (j lim : Nat) (τ : Vf.St), j ≤ m ∧ i = .int .i64 j ∧ FsIn w.heap.size lim wr b τ ∧ Vf.Burns ((n : Int) + 2) τ ∧ Hid (τ.steps ≤ 2 + 7 * j) ∧ Below w.heap.size w wr) (fun i _ => m - (intOf i).toNat)
  case atStart => exact ⟨0, _, _, Nat.zero_le _, rfl, f5, B3.out, by show _ ≤ _; rw [S3.out]; omega, B5⟩
  case round =>
    obtain ⟨j, lim, τ, hj, rfl, fx, hb, HS, bx⟩ := hrel
    clear f5 B3 S3 B5
    by_cases hlt : j < m
    · have hl : j < l.length := by have := HM.out; omega
      obtain ⟨B, off, rfl⟩ : ∃ b off, a = some ⟨b, off, none⟩ := by
        obtain ⟨⟨a', c', e, hf⟩, _⟩ := HA.out
        obtain ⟨b, off, ha, _⟩ := hf (fun h0 => by rw [h0] at hl; cases hl)
        cases e
        exact ⟨b, off, ha⟩
      obtain ⟨c0, c1, c2, c3, c4, c5⟩ := (HA.out.later bx).cells j hl
      have hB : B < w.heap.size := World.block_lt_of_cell? w _ (HA.out.cells j hl).1
      have ok := HA.out.ok l[j] (List.getElem_mem hl)
      have hx := HP.out.2 l[j] (List.getElem_mem hl)
      obtain ⟨x, hxe⟩ : ∃ x, x = l[j] := ⟨_, rfl⟩
      rw [← hxe] at c0 c1 c2 c5 ok hx
      have sx : τ.steps ≤ 10000 := by have := HS.out; omega
      have NB : Hid (∀ q, Vf.Burns ((n : Int) + 2) (step τ q x)) := fun q => step_burns hb q x
      have NS : Hid (∀ q, Hid ((step τ q x).steps ≤ 2 + 7 * (j + 1))) := fun q => by have := step_steps τ q x hx; have := HS.out; show _ ≤ _; omega
      have PK := pick_is wr x.kind 6 (by decide) (by decide) ok.kind.1 ok.kind.2
      have PK2 := pickN_lt x.kind (n := 6) (by decide)
      obtain ⟨q, hq⟩ : ∃ q, q = pickN x.kind 6 := ⟨_, rfl⟩
      rw [← hq] at PK PK2
      clear hxe hq hb HS HA HP HM c3 c4 hl
      match q, PK2 with
      | 0, _ =>
        have OP := op_create x fx sx hx
        clear ok PK2
        go_wp2_with (first
          | (go_at_call 32; refine still PK ?_)
          | (go_at_call 10; refine OP.mono ?_; rintro e wn ⟨rfl, fn, bn⟩))
        exact ⟨⟨j + 1, _, step τ 0 x, by omega, rfl, fn, NB.out _, NS.out _, bx.trans bn⟩, by simp [intOf]; omega⟩
      | 1, _ =>
        have OP := op_append x bx.drew ok (fx.later (Below.refl _ _).drew) sx hx
        have P1 : wr.drew.cell? ⟨B, off + j * 6 + 1, none⟩ = some (.string x.name) ∧ wr.drew.cell? ⟨B, off + j * 6 + 5, none⟩ = some (x.v) := ⟨c1, c5⟩
        clear ok PK2
        go_wp2_with (first
          | (go_at_call 32; refine still PK ?_))
        go_region_held3 (fun w' => w'.cell? ⟨B, off + j * 6 + 1, none⟩ = some (.string x.name) ∧ w'.cell? ⟨B, off + j * 6 + 5, none⟩ = some (x.v))
          (first | exact P1 | exact P2)
          (first | (go_at_call 11; refine OP.mono ?_; rintro e wn ⟨rfl, fn, bn⟩; have P2 := two_low hB hB bn P1))
        go_wp2_with (fail)
        exact ⟨⟨j + 1, _, step τ 1 x, by omega, rfl, fn, NB.out _, NS.out _, bx.drew.trans bn⟩, by simp [intOf]; omega⟩
      | 2, _ =>
        have OP := op_rename x (fx.later (Below.refl _ _).drew) sx hx
        have P1 : wr.drew.cell? ⟨B, off + j * 6 + 1, none⟩ = some (.string x.name) ∧ wr.drew.cell? ⟨B, off + j * 6 + 2, none⟩ = some (.string x.other) := ⟨c1, c2⟩
        clear ok PK2
        go_wp2_with (first
          | (go_at_call 32; refine still PK ?_))
        go_region_held3 (fun w' => w'.cell? ⟨B, off + j * 6 + 1, none⟩ = some (.string x.name) ∧ w'.cell? ⟨B, off + j * 6 + 2, none⟩ = some (.string x.other))
          (first | exact P1 | exact P2)
          (first | (go_at_call 16; refine OP.mono ?_; rintro e wn ⟨rfl, fn, bn⟩; have P2 := two_low hB hB bn P1))
        go_wp2_with (fail)
        exact ⟨⟨j + 1, _, step τ 2 x, by omega, rfl, fn, NB.out _, NS.out _, bx.drew.trans bn⟩, by simp [intOf]; omega⟩
      | 3, _ =>
        have OP := op_remove x fx sx hx
        clear ok PK2
        go_wp2_with (first
          | (go_at_call 32; refine still PK ?_)
          | (go_at_call 24; refine OP.mono ?_; rintro e wn ⟨rfl, fn, bn⟩))
        exact ⟨⟨j + 1, _, step τ 3 x, by omega, rfl, fn, NB.out _, NS.out _, bx.trans bn⟩, by simp [intOf]; omega⟩
      | 4, _ =>
        have OP := op_sync x fx sx hx
        clear ok PK2
        go_wp2_with (first
          | (go_at_call 32; refine still PK ?_)
          | (go_at_call 15; refine OP.mono ?_; rintro e wn ⟨rfl, fn, bn⟩))
        exact ⟨⟨j + 1, _, step τ 4 x, by omega, rfl, fn, NB.out _, NS.out _, bx.trans bn⟩, by simp [intOf]; omega⟩
      | 5, _ =>
        have OP := syncNames_fs fx (by omega)
        clear ok PK2
        go_wp2_with (first
          | (go_at_call 32; refine still PK ?_)
          | (go_at_call 12; refine OP.mono ?_; rintro e wn ⟨rfl, fn, bn⟩))
        exact ⟨⟨j + 1, _, step τ 5 x, by omega, rfl, fn, NB.out _, NS.out _, bx.trans bn⟩, by simp [intOf]; omega⟩
    · have e : j = m := by omega
      obtain ⟨h1, h2, h3⟩ := hb
      obtain ⟨q1, q2, q3, q4, q5, q6⟩ := end_ok τ
      have sx := HS.out
      obtain ⟨D, hD⟩ : ∃ D, D = τ.steps := ⟨_, rfl⟩
      have ST1 := steps_fs fx
      have ON1 := on_fs fx
      have CR : Hid (Calls Try.prog 13 #[.pointer (some ⟨b, 0, none⟩), .int .i64 0, .int .i64 0] wr fun e w' => e = .returned (.int .i64 0) ∧ FsIn w.heap.size w'.heap.size w' b (Vf.crash τ 0 0) ∧ Below w.heap.size wr w') := crash_fs fx (by omega) 0 0
      have ON2 : Hid (∀ wx lim, FsIn w.heap.size lim wx b (Vf.crash τ 0 0) → Calls Try.prog 21 #[.pointer (some ⟨b, 0, none⟩)] wx fun e w' => e = .returned (.bool true) ∧ w' = wx) := fun wx lim h => on_fs h
      have ST2 : Hid (∀ wx lim, FsIn w.heap.size lim wx b (Vf.crash τ 0 0) → Calls Try.prog 27 #[.pointer (some ⟨b, 0, none⟩)] wx fun e w' => e = .returned (.int .i64 (D : Int)) ∧ w' = wx) := fun wx lim h => by
        have := steps_fs h
        rw [q4, ← hD] at this
        exact this
      have SN1 : Hid (∀ wx lim, FsIn w.heap.size lim wx b (Vf.crash τ 0 0) → Calls Try.prog 12 #[.pointer (some ⟨b, 0, none⟩)] wx fun e w' => e = .returned (.int .i64 0) ∧ FsIn w.heap.size w'.heap.size w' b (Vf.syncNames (Vf.crash τ 0 0)) ∧ Below w.heap.size wx w') := fun wx lim h => by
        have := syncNames_fs h (by rw [q4]; omega)
        rw [q1] at this
        exact this
      have SN2 : Hid (∀ wx lim, FsIn w.heap.size lim wx b (Vf.syncNames (Vf.crash τ 0 0)) → Calls Try.prog 12 #[.pointer (some ⟨b, 0, none⟩)] wx fun e w' => e = .returned (.int .i64 0) ∧ FsIn w.heap.size w'.heap.size w' b (Vf.syncNames (Vf.syncNames (Vf.crash τ 0 0))) ∧ Below w.heap.size wx w') := fun wx lim h => by
        have := syncNames_fs h (by rw [q5]; omega)
        rw [q2] at this
        exact this
      have ST3 : Hid (∀ wx lim, FsIn w.heap.size lim wx b (Vf.syncNames (Vf.syncNames (Vf.crash τ 0 0))) → Calls Try.prog 27 #[.pointer (some ⟨b, 0, none⟩)] wx fun e w' => e = .returned (.int .i64 ((D : Int) + 2)) ∧ w' = wx) := fun wx lim h => by
        have := steps_fs h
        rw [q6, ← hD] at this
        exact this
      rw [← hD] at ST1 h1 sx
      have i3 : ¬ (j : Int) < (m : Int) := by omega
      have i4 : ¬ (D : Int) - 2 > (n : Int) := by omega
      have i6 : τ.on = false → ((D : Int) - 2 != (n : Int)) = false := fun ho => by have := h3 ho; simp; omega
      have i7 : (D : Int) ≤ 1000 := by omega
      have i8 : ((D : Int) - 2 == (D : Int) - 2) = true := by simp
      have i9 : ((D : Int) + 2 - 2 == (D : Int) - 2 + 2) = true := by simp
      obtain ⟨O, hO⟩ : ∃ O, O = τ.on := ⟨_, rfl⟩
      rw [← hO] at ON1 i6
      clear h1 h2 h3 q1 q2 q3 q4 q5 q6 HS HA HP HM hD hO e fx hlt hj mle hn
      cases O with
      | true =>
        clear i6
        go_wp2_with (first
          | (go_at_call 27; have tok := ST1; refine still ST1 ?_; clear ST1 tok)
          | (go_at_call 21; have tok := ON1; refine still ON1 ?_; clear ON1 tok)
          | (go_at_call 13; refine CR.out.mono ?_; rintro e w6 ⟨rfl, f6, b6⟩; have B6 := bx.trans b6; clear CR b6 bx)
          | (go_at_call 21; have tok := ON2; refine still (ON2.out _ _ f6) ?_; clear ON2 tok)
          | (go_at_call 27; have tok := ST2; refine still (ST2.out _ _ f6) ?_; clear ST2 tok)
          | (go_at_call 12; have tok := SN1; refine (SN1.out _ _ f6).mono ?_; rintro e w7 ⟨rfl, f7, b7⟩; have B7 := B6.trans b7; clear SN1 b7 B6 f6 tok)
          | (go_at_call 12; have tok := SN2; refine (SN2.out _ _ f7).mono ?_; rintro e w8 ⟨rfl, f8, b8⟩; have B8 := B7.trans b8; clear SN2 b8 B7 f7 tok)
          | (go_at_call 27; have tok := f8; refine still (ST3.out _ _ f8) ?_; clear ST3 tok))
        go_ret
        exact ⟨rfl, B8⟩
      | false =>
        have i6' := i6 rfl
        clear i6
        go_wp2_with (first
          | (go_at_call 27; have tok := ST1; refine still ST1 ?_; clear ST1 tok)
          | (go_at_call 21; have tok := ON1; refine still ON1 ?_; clear ON1 tok)
          | (go_at_call 13; refine CR.out.mono ?_; rintro e w6 ⟨rfl, f6, b6⟩; have B6 := bx.trans b6; clear CR b6 bx)
          | (go_at_call 21; have tok := ON2; refine still (ON2.out _ _ f6) ?_; clear ON2 tok)
          | (go_at_call 27; have tok := ST2; refine still (ST2.out _ _ f6) ?_; clear ST2 tok)
          | (go_at_call 12; have tok := SN1; refine (SN1.out _ _ f6).mono ?_; rintro e w7 ⟨rfl, f7, b7⟩; have B7 := B6.trans b7; clear SN1 b7 B6 f6 tok)
          | (go_at_call 12; have tok := SN2; refine (SN2.out _ _ f7).mono ?_; rintro e w8 ⟨rfl, f8, b8⟩; have B8 := B7.trans b8; clear SN2 b8 B7 f7 tok)
          | (go_at_call 27; have tok := f8; refine still (ST3.out _ _ f8) ?_; clear ST3 tok))
        go_ret
        exact ⟨rfl, B8⟩
theorem walk (w : World) (a : Option Addr) (cap : Nat) (l : List Ac) (n : Int) (h : ActsIn w (.slice a l.length cap) l) (hn : n ≤ 9223372036854775807) :
    Calls Try.prog 7 #[.slice a l.length cap, .int .i64 n] w fun e w' => e = .returned (.bool true) ∧ Below w.heap.size w w' := by
  by_cases ho : smallB l = false ∨ n < 0
  · exact walk_off w a cap l n h ho
  · obtain ⟨m, rfl⟩ : ∃ m : Nat, n = (m : Int) := ⟨n.toNat, by omega⟩
    have hs : smallB l = true := by
      cases e : smallB l with
      | true => rfl
      | false => exact absurd (.inl e) ho
    exact walk_on w a cap l m (by omega) h hs

set_option maxRecDepth 100000 in
theorem lifted (os : Os) (started : os.Started) (H : Type) (enc : TypeId × Value → H) :
    ReturnsInHanded {} Try.checked os 7 .any (Rows.vfsFuseSpec.pre6 enc Try.prog Try.f7 Rows.vfsFuseRow.domain false) (Rows.vfsFuseSpec.post enc Try.prog Try.f7 false true false false) := by
  refine returnsInHanded_of_change_sized (C := Try.checked) own started (by kernel_rfl) Try.func7
    (ChangeSpec.witness6 (enc := enc) (C := Try.checked) false ⟨#[], #[.slice none 0 0, .int .i64 0], []⟩ 8 (by kernel_rfl) (by kernel_rfl) (by kernel_rfl) (by kernel_rfl)) ?_
  intro W base args ds gs before hval0 hW hcnd hsz0 _
  have hsz : (DataW.weightsEach Try.prog (Try.f7.params.toList ++ Rows.vfsFuseSpec.plain.varTypes Try.prog) (ds ++ gs)).all (· ≤ reachBytes) = true := hsz0
  have hval : ∀ (j : Nat) t v, Try.f7.params[j]? = some t → args[j]? = some v → Value.okWide Try.prog W .any base t v := hval0
  have hW' := hW
  obtain ⟨p, q, hA0, hV, rfl, hfz, hnd⟩ := hW
  have hA : DataW.TrodAll enc Try.prog W 0 (fun _ => true) true Try.f7.params.toList args.toList ds p := hA0
  rw [Try.params7] at hA hval hsz
  obtain ⟨v0, vs0, d0, ds0, p0, q0, hargs, rfl, rfl, h0, r0⟩ := trodAll_cons hA
  obtain ⟨v1, vs1, d1, ds1, p1, q1, rfl, rfl, rfl, h1, r1⟩ := trodAll_cons r0
  obtain ⟨rfl, rfl, rfl⟩ := trodAll_nil r1
  obtain rfl : args = #[v0, v1] := by cases args; simp_all
  obtain ⟨rfl, rfl⟩ := trodVars_none hV
  have k0 := h0
  have lt0 : ∀ x ∈ p0, x.block < W.heap.size := by obtain ⟨m, hm⟩ := k0; exact DataW.trod_lt m _ _ _ hm
  obtain ⟨a0, len0, cap0, rfl⟩ := okWide_slice Try.underlying58 (hval 0 58 v0 rfl rfl)
  obtain ⟨x1, rfl, rfl, rfl, w1⟩ := open_int Try.underlying3 (hval 1 3 v1 rfl rfl) h1
  have bx1 := bounds_i64 w1
  obtain ⟨l0, rfl, hb0⟩ := acts_in h0
  clear hA0 hval0
  refine (walk W a0 cap0 l0 x1 hb0 (by omega)).mono fun e W' ⟨he, bel⟩ => ?_
  subst he
  exact ⟨_, rfl, _, _, _, [], _, [], hW', trodAll_mk1 (shut_bool Try.underlying4 _), (trodAll_cons_mk (Below.trod laidOut (by kernel_rfl) (of_decide_eq_true (by kernel_rfl)) k0 bel lt0) (trodAll_cons_mk (shut_int Try.underlying3 w1) trodAll_mk0)), rfl, bel.frame _, fun h => by cases h⟩

theorem over : Rows.vfsFuseRow.holds Try.pinned (OpenSpec.ofChange Rows.vfsFuseSpec) :=
  OpenClaim.holds_of_wide 7 Try.f7 rfl rfl rfl rfl rfl rfl rfl ⟨rfl, rfl, rfl, rfl, rfl⟩ rfl rfl rfl rfl rfl (by kernel_rfl) Try.func7 (by kernel_rfl)
    (of_decide_eq_true (by kernel_rfl)) (by unfold Func.isWrapper; first | (rw [if_pos (by decide +kernel)]; kernel_rfl) | (rw [if_neg (by decide +kernel)]; exact ⟨rfl, rfl⟩))
    (fun os started H enc _ => lifted os started H enc)
end Go.Proofs.Ytclokpkhkokfhaa.vfsFuse

namespace Go.Proofs.Ytclokpkhkokfhaa
/-- THE STATEMENT. -/
theorem vfsFuse_holds : Rows.VfsFuseSaid := vfsFuse.over
#print axioms vfsFuse_holds
end Go.Proofs.Ytclokpkhkokfhaa
