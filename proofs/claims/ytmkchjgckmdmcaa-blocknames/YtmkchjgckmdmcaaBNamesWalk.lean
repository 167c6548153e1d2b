/-
  The chapter's examples: the statement's own walk.
-/
import Derived.Test.YtmkchjgckmdmcaaBLives
import Derived.Test.YtmkchjgckmdmcaaBAsk
import Derived.Test.YtmkchjgckmdmcaaBFind
import Derived.Deep.RegionWith
import Derived.Deep.Cut
import Derived.Deep.CutRange
import Derived.Laws.MakeOwn
namespace Go.Proofs.Ytmkchjgckmdmcaa
open Go.RowKit
namespace Bk
def deadE : List Mm.Ent := [⟨[97], [], 5, true⟩, ⟨[97], [118], 2, false⟩]
theorem ex_up : Mm.Up exE := up_inOrd (checkE_ok exE_ok).2.2.2
theorem ex_find1 : findE exE [97, 98] 2 = some ⟨[97, 98], [], 1, true⟩ := by kernel_rfl
theorem ex_find2 : findE exE [98] 9 = none := by kernel_rfl
theorem ex_fold1 : foldR (1073741824 :: [1]) false none exE = exE := by kernel_rfl
theorem ex_fold2 : foldR (1073741824 :: []) true none exE = [⟨[97, 98], [120], 3, false⟩, ⟨[97, 98, 99], [121], 2, false⟩] := by kernel_rfl
theorem ex_fold3 : foldR (1073741824 :: []) false none deadE = [⟨[97], [], 5, true⟩] := by kernel_rfl
theorem ex_fold4 : foldR (1073741824 :: []) true none deadE = [] := by kernel_rfl
theorem ex_check1 : checkE [] = 2 := by kernel_rfl
theorem ex_check2 : checkE [⟨[97], [], 1, false⟩, ⟨[97], [], 2, false⟩] = 10 := by kernel_rfl
theorem ex_check3 : checkE (List.replicate 65 ⟨[], [], 0, false⟩) = 3 := by kernel_rfl
end Bk
theorem ints_lit (w : World) (l : List Int) (cs : Array Value) (hcs : cs.toList = ics l) : IntsAt (w.alloc (.cells cs 3)) (.slice (some ⟨w.heap.size, 0, none⟩) l.length l.length) l := by
  refine ⟨_, _, rfl, (fun h => by cases h), (fun _ => ⟨_, 0, rfl, fun j hj => ?_⟩)⟩
  rw [Joins.cell_of_block (World.alloc_heap_new w _) (0 + j), Nat.zero_add, ← Array.getElem?_toList, hcs]
  simp [ics, hj]
theorem fold_call {w : World} {a : Option Addr} {c n : Nat} {l : List Mm.Ent} (h : EntsAt w (.slice a n c) l) (hn : n = l.length) (hl : n ≤ 100) (hk : ∀ x ∈ l, x.key.length ≤ 1000 ∧ x.value.length ≤ 1000) {ka : Option Addr} {kc kn : Nat} {keep : List Int} (hkeep : IntsAt w (.slice ka kn kc) keep) (hkn : kn = keep.length) (hkl : kn ≤ 100) (last : Bool) {R : List Mm.Ent} (hR : Bk.foldR (1073741824 :: keep) last none l = R) :
    Calls Try.prog 12 #[.slice a n c, .slice ka kn kc, .bool last] w fun e w' => ∃ fa fc L, e = .returned (.slice fa L fc) ∧ Hid (L = R.length) ∧ Hid (EntsAt w' (.slice fa L fc) R) ∧ Below w.heap.size w w' := by
  refine (fold_any w a c n l h hn (by omega) (fun x hx => by have := hk x hx; omega) ka kc kn keep hkeep hkn (by omega) last).mono ?_
  rintro e w' ⟨v, rfl, o, b⟩
  rw [hR] at o
  obtain ⟨fa, fc, rfl⟩ := row_shape o
  exact ⟨fa, fc, _, rfl, rfl, EntsAt.own o, b⟩

theorem ents_take1 {w : World} {b n c : Nat} {x : Mm.Ent} {l : List Mm.Ent} (h : EntsAt w (.slice (some ⟨b, 0, none⟩) n c) (x :: l)) (c' : Nat) : EntsAt w (.slice (some ⟨b, 0, none⟩) 1 c') [x] := by
  refine ⟨⟨_, c', rfl, fun _ => ⟨b, 0, rfl, fun j hj => ?_⟩⟩⟩
  have hj0 : j = 0 := by simpa using hj
  subst hj0
  exact h.cells 0 (by simp)

set_option maxRecDepth 100000 in
theorem check_long (w : World) (a : Option Addr) (c : Nat) : Calls Try.prog 13 #[.slice a 65 c] w fun e w' => e = .returned (.int .i64 3) ∧ w' = w := by
  go_enter Try.func13, Try.ntmps13
  go_wp2_with (fail)
  go_ret
  exact ⟨rfl, rfl⟩
theorem make_65 : ∃ MC : Array Value, ∀ u : World, (Instr.makeSlice 22 (.int .i64 65) (.int .i64 65)).run Try.prog u = .ok (.slice (some ⟨u.heap.size, 0, none⟩) 65 65) (u.alloc (.cells MC 27)) := by
  obtain ⟨i0, hi, hz0, hz1, hz2⟩ := info_parts infoE
  exact ⟨_, fun u => run_make (P := Try.prog) u 22 27 i0 _ Try.underlying22 hi hz0 .i64 .i64 65 65 (by omega) (by omega) (by rw [hz2]; omega) (by omega)⟩

set_option maxRecDepth 100000 in
set_option maxHeartbeats 8000000 in
theorem names_walk (w : World) : Calls Try.prog 3 #[] w fun e w' => e = .returned (.bool true) ∧ Below w.heap.size w w' := by
  have EX := hide (bexample_any w)
  have hk3 : ∀ x ∈ Bk.exE, x.key.length ≤ 1000000 ∧ x.value.length ≤ 1000000 := by
    intro x hx
    simp [Bk.exE] at hx
    rcases hx with rfl | rfl | rfl <;> simp
  have FN1 : Hid (∀ wx B, EntsAt wx (.slice (some ⟨B, 0, none⟩) 3 3) Bk.exE → Calls Try.prog 10 #[.slice (some ⟨B, 0, none⟩) 3 3, .string ⟨#[97, 98]⟩, .int .i64 2] wx fun e w' => e = .returned (.tuple #[.agg #[.string ⟨#[97, 98]⟩, .string ⟨#[]⟩, .int .i64 1, .bool true], .bool true]) ∧ Below wx.heap.size wx w') := fun wx B h => by
    have := find_any wx _ 3 3 Bk.exE h rfl (by decide) hk3 Bk.ex_up [97, 98] 2
    rw [Bk.ex_find1] at this
    exact this
  have FN2 : Hid (∀ wx B, EntsAt wx (.slice (some ⟨B, 0, none⟩) 3 3) Bk.exE → Calls Try.prog 10 #[.slice (some ⟨B, 0, none⟩) 3 3, .string ⟨#[98]⟩, .int .i64 9] wx fun e w' => e = .returned (.tuple #[.agg #[.string ⟨#[]⟩, .string ⟨#[]⟩, .int .i64 0, .bool false], .bool false]) ∧ Below wx.heap.size wx w') := fun wx B h => by
    have := find_any wx _ 3 3 Bk.exE h rfl (by decide) hk3 Bk.ex_up [98] 9
    rw [Bk.ex_find2] at this
    exact this
  go_enter Try.func3, Try.ntmps3
  go_wp2_with (first
    | (go_at_call 9; refine EX.out.mono ?_; rintro r w1 ⟨B, C, rfl, e1, c1, b1⟩; clear EX)
    | (go_at_call 10; have tok := FN1; refine (FN1.out _ B e1).mono ?_; rintro r w2 ⟨rfl, b2⟩; have e2 := e1.later b2; have B2 := b1.trans (b2.mono b1.size); clear FN1 tok)
    | (go_at_call 10; refine (FN2.out _ B (e2.later ((Below.refl _ _).alloc (Nat.le_refl _) _))).mono ?_; rintro r w3 ⟨rfl, b3⟩; clear FN2))
  obtain ⟨W, hW⟩ : ∃ W, W = (w3.alloc (.cells #[.string ⟨#[]⟩, .string ⟨#[]⟩, .int .i64 0, .bool false] 27)).alloc (.cells #[.string ⟨#[97]⟩, .string ⟨#[]⟩, .int .i64 5, .bool true, .string ⟨#[97]⟩, .string ⟨#[118]⟩, .int .i64 2, .bool false] 27) := ⟨_, rfl⟩
  have b4 : Below w3.heap.size w3 W := by rw [hW]; exact ((Below.refl _ _).alloc (Nat.le_refl _) _).alloc (by simp) _
  have b34 : Below w2.heap.size w2 W := ((Below.refl _ w2).alloc (Nat.le_refl _) _).trans ((b3.trans (b4.mono b3.size)).mono (by simp))
  have e4 := e2.later b34
  have dd : EntsAt W (.slice (some ⟨w3.heap.size + 1, 0, none⟩) 2 2) Bk.deadE := by
    have := ents_lit (w3.alloc (.cells #[.string ⟨#[]⟩, .string ⟨#[]⟩, .int .i64 0, .bool false] 27)) Bk.deadE #[.string ⟨#[97]⟩, .string ⟨#[]⟩, .int .i64 5, .bool true, .string ⟨#[97]⟩, .string ⟨#[118]⟩, .int .i64 2, .bool false] rfl 2 rfl
    rw [World.size_alloc] at this
    rw [hW]
    exact this
  have xx : W.heap[w2.heap.size]? = some (eO ⟨[97, 98], [], 1, true⟩) := by
    have h1 := keepB b3 (World.alloc_heap_new w2 (.cells #[.string ⟨#[97, 98]⟩, .string ⟨#[]⟩, .int .i64 1, .bool true] 27))
    exact keepB b4 h1
  have B4 : Below w.heap.size w W := B2.trans (b34.mono B2.size)
  rw [← hW]
  obtain ⟨G, hG⟩ : ∃ G, G = w3.heap.size + 1 := ⟨_, rfl⟩
  rw [← hG] at dd ⊢
  obtain ⟨X, hX⟩ : ∃ X, X = w2.heap.size := ⟨_, rfl⟩
  rw [← hX] at xx ⊢
  have E4 := hide e4
  have DD := hide dd
  have XX := hide xx
  clear e1 e2 c1 b1 b2 b3 b4 b34 hW hG hX e4 dd xx B2
  have kx : ∀ x ∈ Bk.exE, x.key.length ≤ 1000 ∧ x.value.length ≤ 1000 := by
    intro x hx
    simp [Bk.exE] at hx
    rcases hx with rfl | rfl | rfl <;> simp
  have kd : ∀ x ∈ Bk.deadE, x.key.length ≤ 1000 ∧ x.value.length ≤ 1000 := by
    intro x hx
    simp [Bk.deadE] at hx
    rcases hx with rfl | rfl <;> simp
  have F1 : Hid (∀ wx g, Below W.heap.size W wx → IntsAt wx (.slice (some ⟨g, 0, none⟩) 1 1) [1] → Calls Try.prog 12 #[.slice (some ⟨B, 0, none⟩) 3 3, .slice (some ⟨g, 0, none⟩) 1 1, .bool false] wx fun e w' => ∃ fa fc L, e = .returned (.slice fa L fc) ∧ Hid (L = 3) ∧ Hid (EntsAt w' (.slice fa L fc) Bk.exE) ∧ Below wx.heap.size wx w') := fun wx g hx hi => fold_call (E4.out.later hx) rfl (by decide) kx hi rfl (by decide) false Bk.ex_fold1
  have F2 : Hid (∀ wx, Below W.heap.size W wx → Calls Try.prog 12 #[.slice (some ⟨B, 0, none⟩) 3 3, .slice none 0 0, .bool true] wx fun e w' => ∃ fa fc L, e = .returned (.slice fa L fc) ∧ Hid (L = 2) ∧ Hid (EntsAt w' (.slice fa L fc) [⟨[97, 98], [120], 3, false⟩, ⟨[97, 98, 99], [121], 2, false⟩]) ∧ Below wx.heap.size wx w') := fun wx hx => fold_call (E4.out.later hx) rfl (by decide) kx (IntsAt.nil wx) rfl (by decide) true Bk.ex_fold2
  have F3 : Hid (∀ wx, Below W.heap.size W wx → Calls Try.prog 12 #[.slice (some ⟨G, 0, none⟩) 2 2, .slice none 0 0, .bool false] wx fun e w' => ∃ fa fc L, e = .returned (.slice fa L fc) ∧ Hid (L = 1) ∧ Hid (EntsAt w' (.slice fa L fc) [⟨[97], [], 5, true⟩]) ∧ Below wx.heap.size wx w') := fun wx hx => fold_call (DD.out.later hx) rfl (by decide) kd (IntsAt.nil wx) rfl (by decide) false Bk.ex_fold3
  have F4 : Hid (∀ wx, Below W.heap.size W wx → Calls Try.prog 12 #[.slice (some ⟨G, 0, none⟩) 2 2, .slice none 0 0, .bool true] wx fun e w' => ∃ fa fc, e = .returned (.slice fa 0 fc) ∧ Below wx.heap.size wx w') := fun wx hx => by
    refine (fold_call (DD.out.later hx) rfl (by decide) kd (IntsAt.nil wx) rfl (by decide) true Bk.ex_fold4).mono ?_
    rintro e w' ⟨fa, fc, L, rfl, hL, _, b⟩
    have := hL.out
    subst this
    exact ⟨fa, fc, rfl, b⟩
  have SE : Hid (∀ wx v v2 m, EntsAt wx v m → EntsAt wx v2 m → m.length ≤ 100 → Calls Try.prog 11 #[v, v2] wx fun e w' => e = .returned (.bool true) ∧ Below wx.heap.size wx w') := fun wx v v2 m h1 h2 h3 => samee_any wx v v2 m h1 h2 (by omega)
  clear kx kd hk3
  obtain ⟨c0, c1, c2, c3⟩ := E4.out.cells 0 (by decide)
  obtain ⟨d0, d1, d2, d3⟩ := E4.out.cells 2 (by decide)
  go_cut [8] from 27 to 56 (fun z wx => z = .bool true ∧ Below W.heap.size W wx)
  case first =>
    have CE : Hid (∀ wx, Below W.heap.size W wx → (wx.cell? ⟨B, 0, none⟩ = some (str [97, 98]) ∧ wx.cell? ⟨B, 1, none⟩ = some (str [120]) ∧ wx.cell? ⟨B, 2, none⟩ = some (.int .i64 3) ∧ wx.cell? ⟨B, 3, none⟩ = some (.bool false)) ∧ wx.cell? ⟨B, 8, none⟩ = some (str [97, 98, 99]) ∧ wx.cell? ⟨B, 9, none⟩ = some (str [121]) ∧ wx.cell? ⟨B, 10, none⟩ = some (.int .i64 2) ∧ wx.cell? ⟨B, 11, none⟩ = some (.bool false)) := fun wx hx => by
      have h1 := (E4.out.later hx).cells 0 (by decide)
      have h2 := (E4.out.later hx).cells 2 (by decide)
      simp only [Nat.zero_add, Nat.zero_mul, Nat.reduceMul, Nat.reduceAdd] at h1 h2
      exact ⟨h1, h2⟩
    have LT : Hid (∀ wx : World, EntsAt (wx.alloc (.cells #[str [97, 98], str [120], .int .i64 3, .bool false, str [97, 98, 99], str [121], .int .i64 2, .bool false] 27)) (.slice (some ⟨wx.heap.size, 0, none⟩) 2 2) [⟨[97, 98], [120], 3, false⟩, ⟨[97, 98, 99], [121], 2, false⟩]) := fun wx => ents_lit wx [⟨[97, 98], [120], 3, false⟩, ⟨[97, 98, 99], [121], 2, false⟩] #[str [97, 98], str [120], .int .i64 3, .bool false, str [97, 98, 99], str [121], .int .i64 2, .bool false] rfl 2 rfl
    clear c0 c1 c2 c3 d0 d1 d2 d3
    have P0 := CE.out _ (Below.refl W.heap.size W).drew
    go_region_held3 (fun wx => (wx.cell? ⟨B, 0, none⟩ = some (str [97, 98]) ∧ wx.cell? ⟨B, 1, none⟩ = some (str [120]) ∧ wx.cell? ⟨B, 2, none⟩ = some (.int .i64 3) ∧ wx.cell? ⟨B, 3, none⟩ = some (.bool false)) ∧ wx.cell? ⟨B, 8, none⟩ = some (str [97, 98, 99]) ∧ wx.cell? ⟨B, 9, none⟩ = some (str [121]) ∧ wx.cell? ⟨B, 10, none⟩ = some (.int .i64 2) ∧ wx.cell? ⟨B, 11, none⟩ = some (.bool false))
      (first | exact P0 | exact P5 | exact P6 | exact P7 | exact P8 | exact P9 | exact P10 | exact P11 | exact CE.out _ (((Below.refl W.heap.size W).alloc (Nat.le_refl _) _).drew) | exact CE.out _ (B6.alloc B6.size _) | exact CE.out _ (B7.alloc B7.size _) | (go_keep; done))
      (first
      | (go_at_call 12; have tok := F1; refine (F1.out _ _ ((Below.refl _ _).alloc (Nat.le_refl _) _).drew ((ints_lit _ [1] #[.int .i64 1] rfl).later (Below.refl _ _).drew)).mono ?_; rintro e w5 ⟨fa5, fc5, L5, rfl, HL5, y5, b5⟩; have B5 := ((Below.refl W.heap.size W).alloc (Nat.le_refl _) _).drew.trans (b5.mono (by simp)); have P5 := CE.out _ B5; clear F1 tok)
      | (go_at_call 11; have tok := y5; refine (SE.out _ _ _ Bk.exE y5.out (E4.out.later B5) (by decide)).mono ?_; rintro e w6 ⟨rfl, b6⟩; have B6 := B5.trans (b6.mono B5.size); have P6 := CE.out _ B6; clear y5 tok)
      | (go_at_call 12; have tok := F2; refine (F2.out _ B6).mono ?_; rintro e w7 ⟨fa7, fc7, L7, rfl, HL7, y7, b7⟩; have B7 := B6.trans (b7.mono B6.size); have P7 := CE.out _ B7; clear F2 tok)
      | (go_at_call 12; have tok := F2; refine (F2.out _ (B6.alloc B6.size _)).mono ?_; rintro e w7 ⟨fa7, fc7, L7, rfl, HL7, y7, b7⟩; have B7 := (B6.alloc B6.size _).trans (b7.mono (B6.alloc B6.size _).size); have l7 := hide ((LT.out w6).later b7); have P7 := CE.out _ B7; clear F2 tok)
      | (go_at_call 11; have tok := l7; refine (SE.out _ _ _ _ y7.out l7.out (by decide)).mono ?_; rintro e w8 ⟨rfl, b8⟩; have B8 := B7.trans (b8.mono B7.size); have P8 := CE.out _ B8; clear y7 l7 tok)
      | (go_at_call 11; have tok := y7; refine (SE.out _ _ _ _ (y7.out.later ((Below.refl _ _).alloc (Nat.le_refl _) _)) (LT.out _) (by decide)).mono ?_; rintro e w8 ⟨rfl, b8⟩; have B8 := (B7.alloc B7.size _).trans (b8.mono (B7.alloc B7.size _).size); have P8 := CE.out _ B8; clear y7 tok)
      | (go_at_call 12; have tok := F3; refine (F3.out _ B8).mono ?_; rintro e w9 ⟨fa9, fc9, L9, rfl, HL9, y9, b9⟩; have B9 := B8.trans (b9.mono B8.size); have P9 := CE.out _ B9; clear F3 tok)
      | (go_at_call 11; have tok := y9; refine (SE.out _ _ _ _ y9.out (ents_take1 (DD.out.later B9) _) (by decide)).mono ?_; rintro e w10 ⟨rfl, b10⟩; have B10 := B9.trans (b10.mono B9.size); have P10 := CE.out _ B10; clear y9 tok)
      | (go_at_call 12; refine (F4.out _ B10).mono ?_; rintro e w11 ⟨fa11, fc11, rfl, b11⟩; have B11 := B10.trans (b11.mono B10.size); have P11 := CE.out _ B11; clear F4))
    all_goals
      go_wp2_with (fail)
      go_meet
      case rel => exact ⟨rfl, B11⟩
  case rest =>
    obtain ⟨rfl, b5⟩ := hcut
    obtain ⟨w5, hw5⟩ : ∃ w5, w5 = wc := ⟨_, rfl⟩
    rw [← hw5] at b5 ⊢
    clear hw5 F1 F2 F3 F4 SE c0 c1 c2 c3 d0 d1 d2 d3
    obtain ⟨MC, MK⟩ := make_65
    have C1 : Hid (∀ wx, Calls Try.prog 13 #[.slice none 0 0] wx fun e w' => e = .returned (.int .i64 2) ∧ Below wx.heap.size wx w') := fun wx => bcheck_any wx none 0 0 [] (EntsAt.nil _ _ _) rfl (by omega) (by simp) 2 Bk.ex_check1.symm
    have C2 : Hid (∀ wx : World, Calls Try.prog 13 #[.slice (some ⟨wx.heap.size, 0, none⟩) 2 2] (wx.alloc (.cells #[.string ⟨#[97]⟩, .string ⟨#[]⟩, .int .i64 1, .bool false, .string ⟨#[97]⟩, .string ⟨#[]⟩, .int .i64 2, .bool false] 27)) fun e w' => e = .returned (.int .i64 10) ∧ Below wx.heap.size wx w') := fun wx => by
      refine (bcheck_any _ _ 2 2 [⟨[97], [], 1, false⟩, ⟨[97], [], 2, false⟩] (ents_lit wx [⟨[97], [], 1, false⟩, ⟨[97], [], 2, false⟩] #[.string ⟨#[97]⟩, .string ⟨#[]⟩, .int .i64 1, .bool false, .string ⟨#[97]⟩, .string ⟨#[]⟩, .int .i64 2, .bool false] rfl 2 rfl) rfl (by omega) (by simp) 10 Bk.ex_check2.symm).mono ?_
      rintro e w' ⟨rfl, b⟩
      exact ⟨rfl, ((Below.refl _ _).alloc (Nat.le_refl _) _).trans (b.mono (by simp))⟩
    have C3 : Hid (∀ wx a c, Calls Try.prog 13 #[.slice a 65 c] wx fun e w' => e = .returned (.int .i64 3) ∧ w' = wx) := fun wx a c => check_long wx a c
    have LV : Hid (∀ wx, Calls Try.prog 14 #[] wx fun e w' => e = .returned (.bool true) ∧ Below wx.heap.size wx w') := fun wx => blives_any wx
    go_wp2_with (first
      | (go_at_call 13; have tok := C1; refine (C1.out _).mono ?_; rintro e w6 ⟨rfl, b6⟩; have B6 := b5.trans (b6.mono b5.size); clear C1 tok)
      | (go_at_call 13; have tok := C2; refine (C2.out _).mono ?_; rintro e w7 ⟨rfl, b7⟩; have B7 := B6.trans (b7.mono B6.size); clear C2 tok)
      | (go_at_call 13; refine (C3.out _ _ _).mono ?_; rintro e w8 ⟨rfl, rfl⟩; clear C3))
    have B8 : Below W.heap.size W (w7.alloc (.cells MC 27)) := B7.alloc B7.size _
    obtain ⟨w9, hw9⟩ : ∃ w9, w9 = w7.alloc (.cells MC 27) := ⟨_, rfl⟩
    rw [← hw9] at B8 ⊢
    clear hw9 B7 B6 b5 b6 b7 MK
    have PX : Hid (∀ wx, Below W.heap.size W wx → (wx.cell? ⟨X, 0, none⟩ = some (str [97, 98]) ∧ wx.cell? ⟨X, 1, none⟩ = some (str []) ∧ wx.cell? ⟨X, 2, none⟩ = some (.int .i64 1) ∧ wx.cell? ⟨X, 3, none⟩ = some (.bool true)) ∧ wx.cell? ⟨B, 4, none⟩ = some (str [97, 98]) ∧ wx.cell? ⟨B, 5, none⟩ = some (str []) ∧ wx.cell? ⟨B, 6, none⟩ = some (.int .i64 1) ∧ wx.cell? ⟨B, 7, none⟩ = some (.bool true)) := fun wx hx => by
      have h1 := keepB hx XX.out
      have h2 := (E4.out.later hx).cells 1 (by decide)
      simp only [Nat.zero_add, Nat.one_mul, Nat.reduceAdd] at h2
      exact ⟨⟨Joins.cell_of_block h1 0, Joins.cell_of_block h1 1, Joins.cell_of_block h1 2, Joins.cell_of_block h1 3⟩, h2⟩
    have P9 := PX.out _ B8.drew
    go_region_held3 (fun wx => (wx.cell? ⟨X, 0, none⟩ = some (str [97, 98]) ∧ wx.cell? ⟨X, 1, none⟩ = some (str []) ∧ wx.cell? ⟨X, 2, none⟩ = some (.int .i64 1) ∧ wx.cell? ⟨X, 3, none⟩ = some (.bool true)) ∧ wx.cell? ⟨B, 4, none⟩ = some (str [97, 98]) ∧ wx.cell? ⟨B, 5, none⟩ = some (str []) ∧ wx.cell? ⟨B, 6, none⟩ = some (.int .i64 1) ∧ wx.cell? ⟨B, 7, none⟩ = some (.bool true))
      (first | exact P9 | exact P10)
      (first
        | (go_at_call 14; refine (LV.out _).mono ?_; rintro e w10 ⟨rfl, b10⟩; have B10 := B8.drew.trans (b10.mono B8.drew.size); have P10 := PX.out _ B10))
    go_wp2_with (fail)
    go_ret
    exact ⟨rfl, B4.trans (B10.mono B4.size)⟩
end Go.Proofs.Ytmkchjgckmdmcaa
