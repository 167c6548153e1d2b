/-
  Package parser: the teller's expr: every expression. .. and what follows from it.
-/
import Derived.Test.YtedamaccflhmfaaGreatDoorXTc
namespace Go.Proofs.YtedamaccflhmfaaGreatDoor
open Go.RowKit
attribute [local go_sem ↓] Go.wp_at_zero Go.wp_at_succ

/-- One expression more was asked for. -/
theorem Tl.more {w : World} {base T : Nat} {v : Value} {l : List Lx.Tk} {c : Nat} (h : Tl w base T v l c) : Tl (w.setCell ⟨T, 1, none⟩ (.int .i64 ((c : Int) + 1))) base T v l (c + 1) ∧ Ts T v v w (w.setCell ⟨T, 1, none⟩ (.int .i64 ((c : Int) + 1))) := by
  have hs : w.grownBy (w.setCell ⟨T, 1, none⟩ (.int .i64 ((c : Int) + 1))) (some T) := ⟨rfl, rfl, rfl, by simp [World.setCell], fun k _ hk => Below.heap_setCell _ _ _ _ (fun e => hk (by rw [e]))⟩
  refine ⟨⟨(heap_set h.cell _).trans rfl, h.own.kept hs (.inr (fun e => h.ne e)), h.ne, h.bt, h.tab.keep fun k hk => Below.heap_setCell _ _ _ _ (by have h1 := h.tb; have h2 := h.bt; show k ≠ T; omega), h.tb⟩, rfl, rfl, rfl, by simp [World.setCell], fun k _ hn _ => Below.heap_setCell _ _ _ _ hn, .inl rfl⟩
theorem exs_first {P : Nat → Prop} {w : World} {o k n : Int} {t : ByteArray} {tb nm : List UInt8} {sl kd : Int} {ag r : List Ps.Ex} {b off : Nat} (h : ExsAt P w (.mk o ⟨k, n, t⟩ tb nm sl kd ag :: r) b off) : ∃ S, (w.cell? ⟨b, off, none⟩ = some (.int .u8 o) ∧ w.cell? ⟨b, off + 1, none⟩ = some (.int .u8 k) ∧ w.cell? ⟨b, off + 2, none⟩ = some (.int .i64 n) ∧ w.cell? ⟨b, off + 3, none⟩ = some (.string t) ∧ w.cell? ⟨b, off + 4, none⟩ = some (.string ⟨tb.toArray⟩) ∧ w.cell? ⟨b, off + 5, none⟩ = some (.string ⟨nm.toArray⟩) ∧ w.cell? ⟨b, off + 6, none⟩ = some (.int .i64 sl) ∧ w.cell? ⟨b, off + 7, none⟩ = some (.int .u8 kd) ∧ w.cell? ⟨b, off + 8, none⟩ = some S) ∧ ExAt P w (.mk o ⟨k, n, t⟩ tb nm sl kd ag) S ∧ ExsAt P w r b (off + 9) := by
  rw [ExsAt] at h
  obtain ⟨⟨S, hc, hx⟩, hr⟩ := h
  exact ⟨S, ⟨hc 0 (by decide), hc 1 (by decide), hc 2 (by decide), hc 3 (by decide), hc 4 (by decide), hc 5 (by decide), hc 6 (by decide), hc 7 (by decide), hc 8 (by decide)⟩, hx, hr⟩
theorem exs_second {P : Nat → Prop} {w : World} {o k n : Int} {t : ByteArray} {tb nm : List UInt8} {sl kd : Int} {ag r : List Ps.Ex} {b off : Nat} (h : ExsAt P w (.mk o ⟨k, n, t⟩ tb nm sl kd ag :: r) b (off + 9)) : ∃ S, (w.cell? ⟨b, off + 9, none⟩ = some (.int .u8 o) ∧ w.cell? ⟨b, off + 10, none⟩ = some (.int .u8 k) ∧ w.cell? ⟨b, off + 11, none⟩ = some (.int .i64 n) ∧ w.cell? ⟨b, off + 12, none⟩ = some (.string t) ∧ w.cell? ⟨b, off + 13, none⟩ = some (.string ⟨tb.toArray⟩) ∧ w.cell? ⟨b, off + 14, none⟩ = some (.string ⟨nm.toArray⟩) ∧ w.cell? ⟨b, off + 15, none⟩ = some (.int .i64 sl) ∧ w.cell? ⟨b, off + 16, none⟩ = some (.int .u8 kd) ∧ w.cell? ⟨b, off + 17, none⟩ = some S) ∧ ExAt P w (.mk o ⟨k, n, t⟩ tb nm sl kd ag) S := by
  obtain ⟨S, hc, hx, _⟩ := exs_first h
  exact ⟨S, hc, hx⟩
theorem tell_one (op : Int) (v : Val) (tb nm : List UInt8) (sl kd : Int) (x : Ps.Ex) (c : Nat) : Ps.tellE (.mk op v tb nm sl kd [x]) c = if 65536 ≤ c then ([], c + 1) else oneT op x (c + 1) := by
  rw [Ps.tellE, oneT]
  split
  · rfl
  · simp only [aggT, negT]
    repeat' split
    all_goals simp_all [Ps.par]
theorem tell_two (op : Int) (v : Val) (tb nm : List UInt8) (sl kd : Int) (x y : Ps.Ex) (c : Nat) : Ps.tellE (.mk op v tb nm sl kd [x, y]) c = if 65536 ≤ c then ([], c + 1) else twoT op x y (c + 1) := by
  rw [Ps.tellE, twoT]
  rfl
theorem tell_cnt : ∀ (x : Ps.Ex) (c : Nat), (Ps.tellE x c).2 ≤ c + wtE x
  | .mk op v tb nm _ _ [], c => by
    rw [Ps.tellE, wtE]
    split
    · show c + 1 ≤ _; omega
    · show c + 1 ≤ _; omega
  | .mk op v tb nm sl kd [x], c => by
    have h1 := tell_cnt x (c + 1)
    rw [tell_one, oneT, wtE, wtL, wtL]
    repeat' split
    all_goals simp only
    all_goals omega
  | .mk op v tb nm sl kd [x, y], c => by
    have h1 := tell_cnt x (c + 1)
    have h2 := tell_cnt y (Ps.tellE x (c + 1)).2
    rw [tell_two, twoT, wtE, wtL, wtL, wtL]
    repeat' split
    all_goals simp only
    all_goals omega
  | .mk _ _ _ _ _ _ (_ :: _ :: _ :: _), c => by rw [Ps.tellE, wtE]; show c + 1 ≤ _; omega
set_option maxRecDepth 100000 in
set_option maxHeartbeats 1600000 in
theorem expr_none (o k n : Int) (t : ByteArray) (tb nm : List UInt8) (sl kd : Int) : TellsE (.mk o ⟨k, n, t⟩ tb nm sl kd []) := by
  intro w base T vv l c a cap h hx hr hl hc
  rw [wtE] at hl hc
  have HM := h.more
  have H0 := hide (HM.1.alloc (.cells (bx o k n t tb nm sl kd (.slice a 0 cap)) 34))
  have T0 := hide (HM.2.alloc (.cells (bx o k n t tb nm sl kd (.slice a 0 cap)) 34))
  have hlt := h.lt
  have q1 : ¬ T = w.heap.size := Nat.ne_of_lt hlt
  have q2 : ¬ w.heap.size = T := fun e => q1 e.symm
  have cT := Joins.cell_of_block h.cell 1
  have fT := Joins.unfrozen_of_block h.cell 1
  have hci : (c : Int) + 1 ≤ 1000000001 := by omega
  have hc0 : (0 : Int) ≤ (c : Int) := Int.natCast_nonneg c
  have hw : IntKind.i64.wrap ((c : Int) + 1) = (c : Int) + 1 := by simp [IntKind.wrap, IntKind.bits, IntKind.signed]; omega
  have hri : inR ⟨k, n, t⟩ := by rw [rngE] at hr; exact hr.1
  have he : Ps.tellE (.mk o ⟨k, n, t⟩ tb nm sl kd []) c = if 65536 ≤ c then ([], c + 1) else (Ps.noneT o ⟨k, n, t⟩ tb nm, c + 1) := by rw [Ps.tellE]
  have hl2 : l.length ≤ 998000 := by omega
  have ON := hide (ofNone_told _ base T vv l (c + 1) H0.out hl2 o k n t tb nm sl kd (.slice a 0 cap) hri)
  clear hx hr hc hri HM h hl
  by_cases hbig : 65536 ≤ c
  · rw [he, if_pos hbig]
    have hb : (65536 : Int) < (c : Int) + 1 := by omega
    go_enter Tryz.func46, Tryz.ntmps46
    go_wp2_with (fail)
    exact bodyPost_ret (v := .tuple #[]) (by simp [results, Tryz.results46]) rfl ⟨rfl, _, by rw [List.append_nil]; exact H0.out, T0.out⟩
  · rw [he, if_neg hbig]
    have hb : ¬ (65536 : Int) < (c : Int) + 1 := by omega
    go_enter Tryz.func46, Tryz.ntmps46
    go_wp2_with (go_at_call 69; refine ON.out.mono ?_; rintro e w2 ⟨rfl, v2, h2, t2⟩; have H2 := hide h2; clear h2)
    exact bodyPost_end (v := .tuple #[]) (by simp [results, Tryz.results46]) rfl ⟨rfl, _, H2.out, T0.out.trans t2⟩
set_option maxRecDepth 100000 in
set_option maxHeartbeats 1600000 in
theorem expr_one (o k n : Int) (t : ByteArray) (tb nm : List UInt8) (sl kd : Int) (o2 k2 n2 : Int) (t2 : ByteArray) (tb2 nm2 : List UInt8) (sl2 kd2 : Int) (ag2 : List Ps.Ex) (HX : TellsE (.mk o2 ⟨k2, n2, t2⟩ tb2 nm2 sl2 kd2 ag2)) : TellsE (.mk o ⟨k, n, t⟩ tb nm sl kd [(.mk o2 ⟨k2, n2, t2⟩ tb2 nm2 sl2 kd2 ag2)]) := by
  intro w base T vv l c a cap h hx hr hl hc
  rw [wtE] at hl hc
  have HM := h.more
  have H0 := hide (HM.1.alloc (.cells (bx o k n t tb nm sl kd (.slice a 1 cap)) 34))
  have T0 := hide (HM.2.alloc (.cells (bx o k n t tb nm sl kd (.slice a 1 cap)) 34))
  have hlt := h.lt
  have q1 : ¬ T = w.heap.size := Nat.ne_of_lt hlt
  have q2 : ¬ w.heap.size = T := fun e => q1 e.symm
  have cT := Joins.cell_of_block h.cell 1
  have fT := Joins.unfrozen_of_block h.cell 1
  have hci : (c : Int) + 1 ≤ 1000000001 := by omega
  have hc0 : (0 : Int) ≤ (c : Int) := Int.natCast_nonneg c
  have hw : IntKind.i64.wrap ((c : Int) + 1) = (c : Int) + 1 := by simp [IntKind.wrap, IntKind.bits, IntKind.signed]; omega
  have hr1 : rngE (.mk o2 ⟨k2, n2, t2⟩ tb2 nm2 sl2 kd2 ag2) := by rw [rngE, rngL] at hr; exact hr.2.1.1
  have he := tell_one o ⟨k, n, t⟩ tb nm sl kd (.mk o2 ⟨k2, n2, t2⟩ tb2 nm2 sl2 kd2 ag2) c
  rw [wtL, wtL] at hl hc
  have hx2 := hx
  rw [ExAt] at hx2
  obtain ⟨a0, cap0, e0, hf⟩ := hx2
  obtain ⟨b, off, rfl, hbb, hxs⟩ := hf (by simp)
  injection e0 with e1 _ e2
  subst e1 e2
  obtain ⟨S, ⟨ya0, ya1, ya2, ya3, ya4, ya5, ya6, ya7, ya8⟩, hxy, _⟩ := exs_first hxs
  obtain ⟨a2, cap2, rfl⟩ := ExAt.slice hxy
  have hbb2 : b < base := hbb
  have hbt := h.bt
  have m1 : ¬ b = T := by omega
  have m2 : ¬ T = b := by omega
  have m3 : ¬ b = w.heap.size := by omega
  have m4 : ¬ w.heap.size = b := by omega
  have m5 : b < w.heap.size := by omega
  clear hxs hf hbb hx h HM
  have X1 := hide (ExAt.keep (P := fun b => b < base) (Q := fun b => b < base) (w' := ((w.setCell ⟨T, 1, none⟩ (.int .i64 ((c : Int) + 1))).alloc (.cells (bx o k n t tb nm sl kd (.slice (some ⟨b, off, none⟩) 1 cap)) 34)).drew) (fun i (hi : i < base) hl => (Below.heap_alloc (w.setCell ⟨T, 1, none⟩ (.int .i64 ((c : Int) + 1))) _ i (by simpa [World.setCell] using hl)).trans (Below.heap_setCell _ _ _ _ (show i ≠ T by omega))) (fun _ hk _ => hk) _ _ hxy)
  by_cases hbig : 65536 ≤ c
  · rw [he, if_pos hbig]
    have hb : (65536 : Int) < (c : Int) + 1 := by omega
    go_enter Tryz.func46, Tryz.ntmps46
    go_wp2_with (fail)
    exact bodyPost_ret (v := .tuple #[]) (by simp [results, Tryz.results46]) rfl ⟨rfl, _, by rw [List.append_nil]; exact H0.out, T0.out⟩
  · rw [he, if_neg hbig]
    have hb : ¬ (65536 : Int) < (c : Int) + 1 := by omega
    have OO := hide (ofOne_told o o2 k2 n2 t2 tb2 nm2 sl2 kd2 ag2 HX _ base T vv l (c + 1) a2 cap2 H0.out.drew X1.out hr1 (by omega) (by omega))
    clear hc hr1 hr HX
    go_enter Tryz.func46, Tryz.ntmps46
    go_wp2_with (fail)
    go_region_with (go_at_call 70; refine OO.out.mono ?_; rintro e w2 ⟨rfl, v2, h2, t2⟩; have H2 := hide h2; clear h2)
    all_goals go_wp2_with (fail)
    all_goals exact bodyPost_end (v := .tuple #[]) (by simp [results, Tryz.results46]) rfl ⟨rfl, _, H2.out, T0.out.drew.trans t2⟩
set_option maxRecDepth 100000 in
set_option maxHeartbeats 3200000 in
theorem expr_two (o k n : Int) (t : ByteArray) (tb nm : List UInt8) (sl kd : Int) (o2 k2 n2 : Int) (t2 : ByteArray) (tb2 nm2 : List UInt8) (sl2 kd2 : Int) (ag2 : List Ps.Ex) (HX : TellsE (.mk o2 ⟨k2, n2, t2⟩ tb2 nm2 sl2 kd2 ag2)) (o3 k3 n3 : Int) (t3 : ByteArray) (tb3 nm3 : List UInt8) (sl3 kd3 : Int) (ag3 : List Ps.Ex) (HX3 : TellsE (.mk o3 ⟨k3, n3, t3⟩ tb3 nm3 sl3 kd3 ag3)) : TellsE (.mk o ⟨k, n, t⟩ tb nm sl kd [(.mk o2 ⟨k2, n2, t2⟩ tb2 nm2 sl2 kd2 ag2), (.mk o3 ⟨k3, n3, t3⟩ tb3 nm3 sl3 kd3 ag3)]) := by
  intro w base T vv l c a cap h hx hr hl hc
  rw [wtE] at hl hc
  have HM := h.more
  have H0 := hide (HM.1.alloc (.cells (bx o k n t tb nm sl kd (.slice a 2 cap)) 34))
  have T0 := hide (HM.2.alloc (.cells (bx o k n t tb nm sl kd (.slice a 2 cap)) 34))
  have hlt := h.lt
  have q1 : ¬ T = w.heap.size := Nat.ne_of_lt hlt
  have q2 : ¬ w.heap.size = T := fun e => q1 e.symm
  have cT := Joins.cell_of_block h.cell 1
  have fT := Joins.unfrozen_of_block h.cell 1
  have hci : (c : Int) + 1 ≤ 1000000001 := by omega
  have hc0 : (0 : Int) ≤ (c : Int) := Int.natCast_nonneg c
  have hw : IntKind.i64.wrap ((c : Int) + 1) = (c : Int) + 1 := by simp [IntKind.wrap, IntKind.bits, IntKind.signed]; omega
  have hr1 : rngE (.mk o2 ⟨k2, n2, t2⟩ tb2 nm2 sl2 kd2 ag2) := by rw [rngE, rngL] at hr; exact hr.2.1.1
  have hr3 : rngE (.mk o3 ⟨k3, n3, t3⟩ tb3 nm3 sl3 kd3 ag3) := by rw [rngE, rngL, rngL] at hr; exact hr.2.1.2.1
  have he := tell_two o ⟨k, n, t⟩ tb nm sl kd (.mk o2 ⟨k2, n2, t2⟩ tb2 nm2 sl2 kd2 ag2) (.mk o3 ⟨k3, n3, t3⟩ tb3 nm3 sl3 kd3 ag3) c
  have hcn := tell_cnt (.mk o2 ⟨k2, n2, t2⟩ tb2 nm2 sl2 kd2 ag2) (c + 1)
  rw [wtL, wtL, wtL] at hl hc
  have hx2 := hx
  rw [ExAt] at hx2
  obtain ⟨a0, cap0, e0, hf⟩ := hx2
  obtain ⟨b, off, rfl, hbb, hxs⟩ := hf (by simp)
  injection e0 with e1 _ e2
  subst e1 e2
  obtain ⟨S, ⟨ya0, ya1, ya2, ya3, ya4, ya5, ya6, ya7, ya8⟩, hxy, hxr⟩ := exs_first hxs
  obtain ⟨a2, cap2, rfl⟩ := ExAt.slice hxy
  obtain ⟨S3, ⟨za0, za1, za2, za3, za4, za5, za6, za7, za8⟩, hxz⟩ := exs_second hxr
  obtain ⟨a3, cap3, rfl⟩ := ExAt.slice hxz
  have hbb2 : b < base := hbb
  have hbt := h.bt
  have m1 : ¬ b = T := by omega
  have m2 : ¬ T = b := by omega
  have m3 : ¬ b = w.heap.size := by omega
  have m4 : ¬ w.heap.size = b := by omega
  have m5 : b < w.heap.size := by omega
  clear hxs hf hbb hx h HM hxr
  have hkp : Kept (fun b => b < base) w (((w.setCell ⟨T, 1, none⟩ (.int .i64 ((c : Int) + 1))).alloc (.cells (bx o k n t tb nm sl kd (.slice (some ⟨b, off, none⟩) 2 cap)) 34)).drew) := fun i (hi : i < base) hl => (Below.heap_alloc (w.setCell ⟨T, 1, none⟩ (.int .i64 ((c : Int) + 1))) _ i (by simpa [World.setCell] using hl)).trans (Below.heap_setCell _ _ _ _ (show i ≠ T by omega))
  have X1 := hide (ExAt.keep (P := fun b => b < base) (Q := fun b => b < base) hkp (fun _ hk _ => hk) _ _ hxy)
  have X3 := hide (ExAt.keep (P := fun b => b < base) (Q := fun b => b < base) hkp (fun _ hk _ => hk) _ _ hxz)
  clear hkp
  by_cases hbig : 65536 ≤ c
  · rw [he, if_pos hbig]
    have hb : (65536 : Int) < (c : Int) + 1 := by omega
    go_enter Tryz.func46, Tryz.ntmps46
    go_wp2_with (fail)
    exact bodyPost_ret (v := .tuple #[]) (by simp [results, Tryz.results46]) rfl ⟨rfl, _, by rw [List.append_nil]; exact H0.out, T0.out⟩
  · rw [he, if_neg hbig]
    have hb : ¬ (65536 : Int) < (c : Int) + 1 := by omega
    have OO := hide (ofTwo_told o o2 k2 n2 t2 tb2 nm2 sl2 kd2 ag2 HX o3 k3 n3 t3 tb3 nm3 sl3 kd3 ag3 HX3 _ base T vv l (c + 1) a2 cap2 a3 cap3 H0.out.drew X1.out hr1 X3.out hr3 (by omega) (by omega) (by omega))
    clear hc hr1 hr HX HX3 hr3 hcn
    go_enter Tryz.func46, Tryz.ntmps46
    go_wp2_with (fail)
    go_region_with (go_at_call 71; refine OO.out.mono ?_; rintro e w2 ⟨rfl, v2, h2, t2⟩; have H2 := hide h2; clear h2)
    all_goals go_wp2_with (fail)
    all_goals exact bodyPost_end (v := .tuple #[]) (by simp [results, Tryz.results46]) rfl ⟨rfl, _, H2.out, T0.out.drew.trans t2⟩
theorem expr_more (o k n : Int) (t : ByteArray) (tb nm : List UInt8) (sl kd : Int) (x y z : Ps.Ex) (r : List Ps.Ex) : TellsE (.mk o ⟨k, n, t⟩ tb nm sl kd (x :: y :: z :: r)) := by
  intro w base T vv l c a cap h hx hr hl hc
  rw [rngE] at hr
  exact absurd hr.2.2 (by simp only [List.length_cons]; omega)
/-- Every expression is told so. -/
theorem tells_all : ∀ x : Ps.Ex, TellsE x
  | .mk o ⟨k, n, t⟩ tb nm sl kd [] => expr_none o k n t tb nm sl kd
  | .mk o ⟨k, n, t⟩ tb nm sl kd [.mk o2 ⟨k2, n2, t2⟩ tb2 nm2 sl2 kd2 ag2] => expr_one o k n t tb nm sl kd o2 k2 n2 t2 tb2 nm2 sl2 kd2 ag2 (tells_all _)
  | .mk o ⟨k, n, t⟩ tb nm sl kd [.mk o2 ⟨k2, n2, t2⟩ tb2 nm2 sl2 kd2 ag2, .mk o3 ⟨k3, n3, t3⟩ tb3 nm3 sl3 kd3 ag3] => expr_two o k n t tb nm sl kd o2 k2 n2 t2 tb2 nm2 sl2 kd2 ag2 (tells_all _) o3 k3 n3 t3 tb3 nm3 sl3 kd3 ag3 (tells_all _)
  | .mk o ⟨k, n, t⟩ tb nm sl kd (x :: y :: z :: r) => expr_more o k n t tb nm sl kd x y z r
end Go.Proofs.YtedamaccflhmfaaGreatDoor
namespace Go.Proofs.YtedamaccflhmfaaGreatDoor
open Go.RowKit
attribute [local go_sem ↓] Go.wp_at_zero Go.wp_at_succ

/-- Where the expression lies that is number i of a list. -/
theorem exs_nth {P : Nat → Prop} {w : World} {b : Nat} : ∀ {l : List Ps.Ex} {off i : Nat} {y : Ps.Ex}, ExsAt P w l b off → l[i]? = some y → ∃ S, (∀ j, j < 9 → w.cell? ⟨b, off + i * 9 + j, none⟩ = (exC y S)[j]?) ∧ ExAt P w y S
  | [], _, _, _, _, h => by cases h
  | x :: r, off, 0, y, h, hi => by
    injection hi with hi
    subst hi
    rw [ExsAt] at h
    obtain ⟨⟨S, hc, hx⟩, _⟩ := h
    exact ⟨S, fun j hj => by rw [Nat.zero_mul, Nat.add_zero]; exact hc j hj, hx⟩
  | x :: r, off, i + 1, y, h, hi => by
    rw [ExsAt] at h
    obtain ⟨_, hr⟩ := h
    obtain ⟨S, hc, hx⟩ := exs_nth hr (show r[i]? = some y from hi)
    exact ⟨S, fun j hj => by rw [show off + (i + 1) * 9 + j = off + 9 + i * 9 + j from by omega]; exact hc j hj, hx⟩
/-- SameExpr says so of that expression, wherever it lies. -/
def SamesE : Ps.Ex → Prop
  | .mk o v tb nm sl kd ag => ∀ (w : World) (P : Nat → Prop) (a : Option Addr) (cap : Nat) (a' : Option Addr) (cap' : Nat), ExAt P w (.mk o v tb nm sl kd ag) (.slice a ag.length cap) → ExAt P w (.mk o v tb nm sl kd ag) (.slice a' ag.length cap') → ag.length ≤ 1000000 → rngL ag →
    Calls Tryz.prog 9 #[.agg (bx o v.k v.n v.t tb nm sl kd (.slice a ag.length cap)), .agg (bx o v.k v.n v.t tb nm sl kd (.slice a' ag.length cap'))] w fun e w' => e = .returned (.bool true) ∧ Below w.heap.size w w'
theorem rngL_mem : ∀ {l : List Ps.Ex}, rngL l → ∀ y ∈ l, rngE y
  | x :: r, h, y, hy => by
    rw [rngL] at h
    rcases List.mem_cons.1 hy with rfl | hy
    · exact h.1
    · exact rngL_mem h.2 y hy
set_option maxRecDepth 100000 in
theorem eg_sameExpr (args : Array Value) (w : World) : (callFunc 9 args).run Tryz.prog w = .ok (.enter 9 args) w := rfl
set_option maxRecDepth 100000 in
set_option maxHeartbeats 3200000 in
theorem eqf_expr (l : List Ps.Ex) (HE : ∀ y ∈ l, SamesE y) (hrl : rngL l) (w : World) (P : Nat → Prop) (a : Option Addr) (cap : Nat) (a' : Option Addr) (cap' : Nat) (hV : ExsIn P w l (.slice a l.length cap)) (hV' : ExsIn P w l (.slice a' l.length cap')) (hl : l.length ≤ 1000000) : Calls Tryz.prog 52 #[.slice a l.length cap, .slice a' l.length cap', .func (.func 9) #[] #[]] w fun e w' => e = .returned (.bool true) ∧ Below w.heap.size w w' := by
  have EG := eg_sameExpr
  have HH := hide HE
  have H1 := hide hV
  have H2 := hide hV'
  have HR := hide (rngL_mem hrl)
  clear HE hV hV' hrl
  go_enter Tryz.func52, Tryz.ntmps52
  go_wp2_with (fail)
  go_loopw [17] (fun i wr => ∃ m : Nat, i = .int .i64 m ∧ m ≤ l.length ∧ Below w.heap.size w wr) (fun i _ => l.length - (intOf i).toNat)
  case atStart => exact ⟨0, rfl, Nat.zero_le _, Below.refl _ _⟩
  case round =>
    obtain ⟨m, rfl, hm, hb⟩ := hrel
    have hi0 : (0 : Int) ≤ (m : Int) := Int.natCast_nonneg m
    by_cases hlt : m < l.length
    · obtain ⟨y, hy⟩ : ∃ y, l[m]? = some y := ⟨_, List.getElem?_eq_getElem hlt⟩
      have hi1 : (m : Int) < (l.length : Int) := by exact_mod_cast hlt
      have hne : l ≠ [] := by intro e; rw [e] at hlt; exact absurd hlt (Nat.not_lt_zero _)
      obtain ⟨b, off, ea, _, hx⟩ : ∃ b off, a = some ⟨b, off, none⟩ ∧ P b ∧ ExsAt P w l b off := by
        obtain ⟨a0, c0, e, hf⟩ := H1.out
        injection e with e1 _ _
        subst e1
        exact hf hne
      obtain ⟨b2, off2, ea2, _, hx2⟩ : ∃ b off, a' = some ⟨b, off, none⟩ ∧ P b ∧ ExsAt P w l b off := by
        obtain ⟨a0, c0, e, hf⟩ := H2.out
        injection e with e1 _ _
        subst e1
        exact hf hne
      have hb1 := ExsAt.lt l b off hne hx
      have hb2 := ExsAt.lt l b2 off2 hne hx2
      subst ea ea2
      obtain ⟨S, hc, hat⟩ := exs_nth hx hy
      obtain ⟨S2, hc2, hat2⟩ := exs_nth hx2 hy
      have hmem := List.mem_of_getElem? hy
      have HY := HH.out y hmem
      have HRY := HR.out y hmem
      obtain ⟨o, ⟨k, n, t⟩, tb, nm, sl, kd, ag⟩ := y
      obtain ⟨a3, c3, rfl⟩ := ExAt.slice hat
      obtain ⟨a4, c4, rfl⟩ := ExAt.slice hat2
      rw [rngE] at HRY
      have hcw : ∀ j, j < 9 → wr.cell? ⟨b, off + m * 9 + j, none⟩ = (exC (.mk o ⟨k, n, t⟩ tb nm sl kd ag) (.slice a3 ag.length c3))[j]? := fun j hj => (World.cell?_of_block (w := w) (hb.block b hb1)).trans (hc j hj)
      have hcw2 : ∀ j, j < 9 → wr.cell? ⟨b2, off2 + m * 9 + j, none⟩ = (exC (.mk o ⟨k, n, t⟩ tb nm sl kd ag) (.slice a4 ag.length c4))[j]? := fun j hj => (World.cell?_of_block (w := w) (hb.block b2 hb2)).trans (hc2 j hj)
      have ya0 := hcw 0 (by decide); have ya1 := hcw 1 (by decide); have ya2 := hcw 2 (by decide); have ya3 := hcw 3 (by decide); have ya4 := hcw 4 (by decide); have ya5 := hcw 5 (by decide); have ya6 := hcw 6 (by decide); have ya7 := hcw 7 (by decide); have ya8 := hcw 8 (by decide)
      have za0 := hcw2 0 (by decide); have za1 := hcw2 1 (by decide); have za2 := hcw2 2 (by decide); have za3 := hcw2 3 (by decide); have za4 := hcw2 4 (by decide); have za5 := hcw2 5 (by decide); have za6 := hcw2 6 (by decide); have za7 := hcw2 7 (by decide); have za8 := hcw2 8 (by decide)
      simp only [exC, List.getElem?_cons_zero, List.getElem?_cons_succ, Nat.add_zero] at ya0 ya1 ya2 ya3 ya4 ya5 ya6 ya7 ya8 za0 za1 za2 za3 za4 za5 za6 za7 za8
      have hsz := hb.size
      have q1 : ¬ b = wr.heap.size := by omega
      have q2 : ¬ wr.heap.size = b := by omega
      have q3 : ¬ b2 = wr.heap.size := by omega
      have q4 : ¬ wr.heap.size = b2 := by omega
      have q5 : b < wr.heap.size := by omega
      have q6 : b2 < wr.heap.size := by omega
      have HB := hide (((hb.alloc hsz (.cells (bx o k n t tb nm sl kd (.slice a3 ag.length c3)) 34)).alloc (by simp; omega) (.cells (bx o k n t tb nm sl kd (.slice a4 ag.length c4)) 34)))
      have hkp : Kept P w ((wr.alloc (.cells (bx o k n t tb nm sl kd (.slice a3 ag.length c3)) 34)).alloc (.cells (bx o k n t tb nm sl kd (.slice a4 ag.length c4)) 34)) := fun i _ hi => HB.out.block i hi
      have SX := hide (HY _ P a3 c3 a4 c4 (ExAt.keep hkp (fun _ hk _ => hk) _ _ hat) (ExAt.keep hkp (fun _ hk _ => hk) _ _ hat2) (by have := HRY.2.2; omega) HRY.2.1)
      clear hx hx2 hc hc2 hat hat2 hmem HY HRY hcw hcw2 hkp hne H1 H2 HH HR hb hb1 hb2 hsz hy
      go_wp2_with (guard_target =~ Calls _ _ _ _ _; refine SX.out.mono ?_; rintro e w2 ⟨rfl, hz⟩)
      exact ⟨⟨m + 1, by simp, by omega, HB.out.trans (hz.mono HB.out.size)⟩, by simp only [intOf]; omega⟩
    · obtain rfl : m = l.length := by omega
      clear H1 H2 HH HR
      go_wp2_with (fail)
      go_ret
      exact ⟨rfl, hb⟩
theorem sameList_of (l : List Ps.Ex) (HE : ∀ y ∈ l, SamesE y) (hrl : rngL l) (w : World) (P : Nat → Prop) (a : Option Addr) (cap : Nat) (a' : Option Addr) (cap' : Nat) (hV : ExsIn P w l (.slice a l.length cap)) (hV' : ExsIn P w l (.slice a' l.length cap')) (hl : l.length ≤ 1000000) : Calls Tryz.prog 21 #[.slice a l.length cap, .slice a' l.length cap'] w fun e w' => e = .returned (.bool true) ∧ Below w.heap.size w w' := by
  have EQ := hide (eqf_expr l HE hrl w P a cap a' cap' hV hV' hl)
  clear HE hrl hV hV' hl
  go_enter Tryz.func21, Tryz.ntmps21
  go_wp2_with (go_at_call 52; refine EQ.out.mono ?_; rintro e w2 ⟨rfl, hz⟩)
  go_ret
  exact ⟨rfl, hz⟩
set_option maxRecDepth 100000 in
set_option maxHeartbeats 3200000 in
theorem same_mk (o k n : Int) (t : ByteArray) (tb nm : List UInt8) (sl kd : Int) (ag : List Ps.Ex) (HE : ∀ y ∈ ag, SamesE y) : SamesE (.mk o ⟨k, n, t⟩ tb nm sl kd ag) := by
  intro w P a cap a' cap' h1 h2 hl hr
  have HB := hide (((Below.refl w.heap.size w).alloc (Nat.le_refl _) (.cells (bx o k n t tb nm sl kd (.slice a ag.length cap)) 34)).alloc (by simp) (.cells (bx o k n t tb nm sl kd (.slice a' ag.length cap')) 34))
  rw [exAt_mk] at h1 h2
  have SL := hide (sameList_of ag HE hr _ P a cap a' cap' (h1.keep (Kept.of HB.out) (fun _ hk _ => hk)) (h2.keep (Kept.of HB.out) (fun _ hk _ => hk)) hl)
  clear HE h1 h2 hl hr
  go_enter Tryz.func9, Tryz.ntmps9
  go_wp2_with (go_at_call 21; refine SL.out.mono ?_; rintro e w2 ⟨rfl, hz⟩)
  go_ret
  exact ⟨rfl, HB.out.trans (hz.mono HB.out.size)⟩
/-- Every expression is the same as it is. -/
theorem sames_all : ∀ x : Ps.Ex, SamesE x
  | .mk o ⟨k, n, t⟩ tb nm sl kd ag => same_mk o k n t tb nm sl kd ag fun y _ => sames_all y
termination_by x => SizeOf.sizeOf x
decreasing_by
  have := List.sizeOf_lt_of_mem (by assumption : _ ∈ ag)
  simp only [Ps.Ex.mk.sizeOf_spec]
  omega
end Go.Proofs.YtedamaccflhmfaaGreatDoor
