/-
  Package parser: the teller's where, sources, and a select without GROUP BY and ORDER BY.
-/
import Derived.Test.YtedamaccflhmfaaGreatDoorPsZa
namespace Go.Proofs.YtedamaccflhmfaaGreatDoor
open Go.RowKit
attribute [local go_sem ↓] Go.wp_at_zero Go.wp_at_succ

set_option maxRecDepth 100000 in
set_option maxHeartbeats 1600000 in
theorem where_told (o k n : Int) (t : ByteArray) (tb nm : List UInt8) (sl kd : Int) (ag : List Ps.Ex) (w : World) (base T : Nat) (vv : Value) (l : List Lx.Tk) (c : Nat) (a : Option Addr) (cap : Nat) (h : Tl w base T vv l c) (hx : ExAt (fun b => b < base) w (.mk o ⟨k, n, t⟩ tb nm sl kd ag) (.slice a ag.length cap)) (hr : rngE (.mk o ⟨k, n, t⟩ tb nm sl kd ag)) (hl : l.length + wtE (.mk o ⟨k, n, t⟩ tb nm sl kd ag) ≤ 980000) (hc : c + wtE (.mk o ⟨k, n, t⟩ tb nm sl kd ag) ≤ 1000000000) :
    Calls Tryz.prog 92 #[.pointer (some ⟨T, 0, none⟩), .agg (bx o k n t tb nm sl kd (.slice a ag.length cap))] w (Told1 base T vv l c w (Ps.whereT (.mk o ⟨k, n, t⟩ tb nm sl kd ag) c).1 (Ps.whereT (.mk o ⟨k, n, t⟩ tb nm sl kd ag) c).2) := by
  have H0 := hide (h.alloc (.cells (bx o k n t tb nm sl kd (.slice a ag.length cap)) 34))
  have T0 := hide ((Ts.refl T vv w).alloc (.cells (bx o k n t tb nm sl kd (.slice a ag.length cap)) 34))
  have F0 := h.far (Nat.le_refl w.heap.size)
  have B0 := hide (heap_new (w := w) (cs := (bx o k n t tb nm sl kd (.slice a ag.length cap))) (T := 34) rfl)
  have X0 := hide (ExAt.keep (Kept.of ((Below.refl w.heap.size w).alloc (Nat.le_refl _) (.cells (bx o k n t tb nm sl kd (.slice a ag.length cap)) 34))) (fun _ hk _ => hk) _ _ hx)
  have hw : Ps.whereT (.mk o ⟨k, n, t⟩ tb nm sl kd ag) c = if o = 0 then ([], c) else (Ps.kw [119, 104, 101, 114, 101] :: (Ps.tellE (.mk o ⟨k, n, t⟩ tb nm sl kd ag) c).1, (Ps.tellE (.mk o ⟨k, n, t⟩ tb nm sl kd ag) c).2) := rfl
  rw [hw]
  by_cases o0 : o = 0
  · rw [if_pos o0]
    subst o0
    clear hw h hx hr hc
    go_enter Tryz.func92, Tryz.ntmps92
    go_wp2_with (fail)
    exact bodyPost_end (v := .tuple #[]) (by simp [results, Tryz.results92]) rfl ⟨rfl, vv, by rw [List.append_nil]; exact H0.out, T0.out⟩
  · rw [if_neg o0]
    have EX := hide (fun wx vx lx h1 h2 h3 => tells_all (.mk o ⟨k, n, t⟩ tb nm sl kd ag) wx base T vx lx c a cap h1 h2 hr h3 hc)
    clear hw h hx hr hc
    go_enter Tryz.func92, Tryz.ntmps92
    go_wp2_with (first
      | (go_at_call 46; refine (EX.out _ _ _ H2.out X2.out (by simp only [List.length_append, List.length_map, List.length_cons, List.length_nil]; omega)).mono ?_; rintro e w3 ⟨rfl, v3, h3, t3⟩; have H3 := hide h3; have T3 := hide (T2.out.trans t3); clear h3)
      | (go_at_call 88; refine (say_new _ base T vv l c H0.out [[119, 104, 101, 114, 101]] _ rfl (by decide) (by omega) (by decide) rfl (by simp)).mono ?_; rintro e w2 ⟨rfl, v2, h2, t2⟩; have H2 := hide h2; have T2 := hide (T0.out.trans t2); have X2 := hide (ExAt.keep (t2.kept H0.out) (fun _ hk _ => hk) _ _ X0.out); have C2 := t2.keeps B0.out F0; obtain ⟨⟨xa0, xa1, xa2, xa3, xa4, xa5, xa6, xa7, xa8⟩, _, _⟩ := sl9 C2; clear h2))
    exact bodyPost_end (v := .tuple #[]) (by simp [results, Tryz.results92]) rfl ⟨rfl, _, by have := H3.out; rw [List.append_assoc] at this; exact this, T3.out⟩
/-- So many tokens at most are told of sources. -/
def srW : List Ps.Src → Nat
  | [] => 0
  | i :: r => wtE i.on' + 10 + srW r
/-- What stands behind a source's names. -/
def onT (b : Bool) (x : Ps.Ex) (c : Nat) : List Lx.Tk × Nat := if b then ([], c) else (Ps.kw [111, 110] :: (Ps.tellE x c).1, (Ps.tellE x c).2)
theorem srcT_cons (b : Bool) (x : Ps.Src) (r : List Ps.Src) (c : Nat) : Ps.srcT b (x :: r) c = ((if b then [] else [Ps.kw [106, 111, 105, 110]]) ++ Ps.wd x.tb :: Ps.asT x.as' ++ (onT b x.on' c).1 ++ (Ps.srcT false r (onT b x.on' c).2).1, (Ps.srcT false r (onT b x.on' c).2).2) := by
  cases b <;> rfl
theorem items_len : ∀ (l : List Ps.Item) (b : Bool) (c : Nat), (Ps.tellL Ps.itemT b l c).1.length ≤ itW l ∧ (Ps.tellL Ps.itemT b l c).2 ≤ c + itW l
  | [], _, c => ⟨Nat.zero_le _, Nat.le_refl _⟩
  | x :: r, b, c => by
    have h1 := item_len x c
    have h2 := item_ge x c
    obtain ⟨h3, h4⟩ := items_len r false (Ps.itemT x c).2
    rw [tellL_cons, itW]
    refine ⟨?_, by show (Ps.tellL Ps.itemT false r (Ps.itemT x c).2).2 ≤ _; omega⟩
    simp only [List.length_append]
    have h5 : (if b = true then ([] : List Lx.Tk) else [Ps.kw [44]]).length ≤ 1 := by cases b <;> simp
    omega
theorem on_len (b : Bool) (x : Ps.Ex) (c : Nat) : (onT b x c).1.length ≤ wtE x + 1 ∧ (onT b x c).2 ≤ c + wtE x := by
  have h1 := tell_len x c
  have h2 := tell_cnt x c
  cases b
  · refine ⟨?_, h2⟩
    show ((Ps.tellE x c).1.length + 1) ≤ _
    omega
  · exact ⟨Nat.zero_le _, Nat.le_add_right _ _⟩
theorem src_len : ∀ (l : List Ps.Src) (b : Bool) (c : Nat), (Ps.srcT b l c).1.length ≤ srW l ∧ (Ps.srcT b l c).2 ≤ c + srW l
  | [], _, c => ⟨Nat.zero_le _, Nat.le_refl _⟩
  | x :: r, b, c => by
    obtain ⟨h1, h2⟩ := on_len b x.on' c
    obtain ⟨h3, h4⟩ := src_len r false (onT b x.on' c).2
    have h6 := asT_len x.as'
    rw [srcT_cons, srW]
    refine ⟨?_, by show (Ps.srcT false r (onT b x.on' c).2).2 ≤ _; omega⟩
    simp only [List.length_append, List.length_cons]
    have h5 : (if b = true then ([] : List Lx.Tk) else [Ps.kw [106, 111, 105, 110]]).length ≤ 1 := by cases b <;> simp
    omega
theorem where_len (x : Ps.Ex) (c : Nat) : (Ps.whereT x c).1.length ≤ wtE x + 1 := by
  have h1 := tell_len x c
  unfold Ps.whereT
  split
  · exact Nat.zero_le _
  · show ((Ps.tellE x c).1.length + 1) ≤ _; omega
/-- The loop over the sources on its way. -/
structure SrT (w0 w : World) (T : Nat) (vv : Value) (q : List Lx.Tk) (l : List Ps.Src) (R : List Lx.Tk × Nat) (B : Nat) (X : Array Value) (wr : World) (m : Nat) (v2 : Value) (qm : List Lx.Tk) (cm : Nat) : Prop where
  tl : Tl wr w0.heap.size T v2 qm cm
  ts : Ts T vv v2 w wr
  lq : qm.length + srW (l.drop m) ≤ 980000
  lc : cm + srW (l.drop m) ≤ 900000000
  eq : qm ++ (Ps.srcT (decide (m = 0)) (l.drop m) cm).1 = q ++ R.1 ∧ (Ps.srcT (decide (m = 0)) (l.drop m) cm).2 = R.2
  bx : wr.heap[B]? = some (.cells X 38 (0, 0))
  bf : B ≠ T ∧ v2.ownBlock ≠ some B
set_option maxRecDepth 100000 in
set_option maxHeartbeats 6400000 in
theorem rows_told (kind : Int) (snm stb : List UInt8) (v_cols v_key : Value) (uniq : Bool) (v_names v_rows : Value) (items : List Ps.Item) (a_i : Option Addr) (c_i : Nat) (src : List Ps.Src) (a_s : Option Addr) (c_s : Nat) (o k n : Int) (t : ByteArray) (tb nm : List UInt8) (sl kd : Int) (ag : List Ps.Ex) (a : Option Addr) (cap : Nat) (a_g : Option Addr) (c_g : Nat) (a_o : Option Addr) (c_o : Nat) (limit : Int) (v_sets : Value)
    (w0 w : World) (hb0 : Below w0.heap.size w0 w) (lo T : Nat) (vv : Value) (h : Tl w w0.heap.size T vv [] 0) (hI : listIs itemCod lo w0 items (.slice a_i items.length c_i)) (hS : listIs srcCod lo w0 src (.slice a_s src.length c_s)) (hx : ExAt (Fr lo) w0 (.mk o ⟨k, n, t⟩ tb nm sl kd ag) (.slice a ag.length cap))
    (rI : items.length ≤ 1000000 ∧ ∀ y ∈ items, rngE y.x) (rS : src.length ≤ 1000000 ∧ ∀ y ∈ src, rngE y.on') (rx : rngE (.mk o ⟨k, n, t⟩ tb nm sl kd ag)) (hlim : limit ≤ 9223372036854775807) (hW : itW items + srW src + wtE (.mk o ⟨k, n, t⟩ tb nm sl kd ag) ≤ 900000)
    (s : Ps.St) (hs1 : s.items = items) (hs2 : s.src = src) (hs3 : s.wh = (.mk o ⟨k, n, t⟩ tb nm sl kd ag)) (hs4 : s.limit = limit) (hs5 : s.group = []) (hs6 : s.order = []) :
    Calls Tryz.prog 86 #[.pointer (some ⟨T, 0, none⟩), .agg #[.int .u8 kind, .string ⟨snm.toArray⟩, .string ⟨stb.toArray⟩, v_cols, v_key, .bool uniq, v_names, v_rows, .slice a_i items.length c_i, .slice a_s src.length c_s, .int .u8 o, .int .u8 k, .int .i64 n, .string t, .string ⟨tb.toArray⟩, .string ⟨nm.toArray⟩, .int .i64 sl, .int .u8 kd, .slice a ag.length cap, .slice a_g 0 c_g, .slice a_o 0 c_o, .int .i64 limit, v_sets]] w fun e w' => ∃ c', Told1 w0.heap.size T vv [] 0 w (Ps.selectT s) c' e w' := by
  have H0 := hide (h.alloc (.cells #[.int .u8 kind, .string ⟨snm.toArray⟩, .string ⟨stb.toArray⟩, v_cols, v_key, .bool uniq, v_names, v_rows, .slice a_i items.length c_i, .slice a_s src.length c_s, .int .u8 o, .int .u8 k, .int .i64 n, .string t, .string ⟨tb.toArray⟩, .string ⟨nm.toArray⟩, .int .i64 sl, .int .u8 kd, .slice a ag.length cap, .slice a_g 0 c_g, .slice a_o 0 c_o, .int .i64 limit, v_sets] 38))
  have T0 := hide ((Ts.refl T vv w).alloc (.cells #[.int .u8 kind, .string ⟨snm.toArray⟩, .string ⟨stb.toArray⟩, v_cols, v_key, .bool uniq, v_names, v_rows, .slice a_i items.length c_i, .slice a_s src.length c_s, .int .u8 o, .int .u8 k, .int .i64 n, .string t, .string ⟨tb.toArray⟩, .string ⟨nm.toArray⟩, .int .i64 sl, .int .u8 kd, .slice a ag.length cap, .slice a_g 0 c_g, .slice a_o 0 c_o, .int .i64 limit, v_sets] 38))
  have F0 := h.far (Nat.le_refl w.heap.size)
  have B0 := hide (heap_new (w := w) (cs := #[.int .u8 kind, .string ⟨snm.toArray⟩, .string ⟨stb.toArray⟩, v_cols, v_key, .bool uniq, v_names, v_rows, .slice a_i items.length c_i, .slice a_s src.length c_s, .int .u8 o, .int .u8 k, .int .i64 n, .string t, .string ⟨tb.toArray⟩, .string ⟨nm.toArray⟩, .int .i64 sl, .int .u8 kd, .slice a ag.length cap, .slice a_g 0 c_g, .slice a_o 0 c_o, .int .i64 limit, v_sets]) (T := 38) rfl)
  have HH := hide h
  have HB0 := hide hb0
  have IT := hide (fun wx vx lx hb hq hl hc => items_told items rI.2 w0 wx hb lo a_i c_i hI T vx lx 0 hq hl hc rI.1)
  obtain ⟨ti, ci, hti⟩ : ∃ ti ci, Ps.tellL Ps.itemT true items 0 = (ti, ci) := ⟨_, _, rfl⟩
  obtain ⟨tf, cf, htf⟩ : ∃ tf cf, Ps.srcT true src ci = (tf, cf) := ⟨_, _, rfl⟩
  have WH := hide (fun wx vx lx h1 h2 h3 hc => where_told o k n t tb nm sl kd ag wx w0.heap.size T vx lx cf a cap h1 h2 rx h3 hc)
  obtain ⟨tw, cw, htw⟩ : ∃ tw cw, Ps.whereT (.mk o ⟨k, n, t⟩ tb nm sl kd ag) cf = (tw, cw) := ⟨_, _, rfl⟩
  have hsel : Ps.selectT s = [Ps.kw [115, 101, 108, 101, 99, 116]] ++ (ti ++ ([Ps.kw [102, 114, 111, 109]] ++ (tf ++ (tw ++ (if 0 ≤ limit then [Ps.kw [108, 105, 109, 105, 116], Ps.nu limit.toNat] else []))))) := by
    unfold Ps.selectT
    rw [hs1, hs2, hs3, hs4, hs5, hs6, hti]
    simp only
    rw [htf]
    simp only
    rw [htw]
    simp [List.isEmpty]
  rw [hsel]
  simp only [hti] at IT
  simp only [htw] at WH
  have HTF := hide htf
  have HS := hide hS
  have HX := hide hx
  have HRS := hide rS
  have hsl := rS.1
  have hti2 := items_len items true 0
  have htf2 := src_len src true ci
  have htw2 := where_len (.mk o ⟨k, n, t⟩ tb nm sl kd ag) cf
  rw [hti] at hti2
  rw [htf] at htf2
  rw [htw] at htw2
  simp only at hti2 htf2 htw2
  clear h hb0 hI hS hx rI rS rx hs1 hs2 hs3 hs4 hs5 hs6 hti htf htw hsel
  have hmf : ∀ (fn : Fn) (first cap : Array Value) (w : World), (Instr.makeFunc fn first cap).run Tryz.prog w = .ok (.func fn first cap) w := fun _ _ _ _ => rfl
  go_enter Tryz.func86, Tryz.ntmps86
  go_wp2_with (first
    | (go_at_call 88; refine (say_new _ w0.heap.size T _ _ ci H2.out [[102, 114, 111, 109]] _ rfl (by decide) (by simp only [List.length_append, List.length_map, List.length_cons, List.length_nil]; omega) (by decide) rfl rfl).mono ?_; rintro e w3 ⟨rfl, v3, h3, t3⟩; have H3 := hide h3; have T3 := hide (T2.out.trans t3); have B3 := t3.keeps B2 F2; have F3 := t3.far (Array.getElem?_eq_some_iff.1 B2).1 F2; have u9 := Joins.cell_of_block B3 9; clear h3)
    | (go_at_call 140; refine (IT.out _ _ _ (HB0.out.trans (T1.out.below HH.out)) H1.out (by simp only [List.length_append, List.length_map, List.length_cons, List.length_nil]; omega) (by omega)).mono ?_; rintro e w2 ⟨rfl, v2, h2, t2⟩; have H2 := hide h2; have T2 := hide (T1.out.trans t2); have B2 := t2.keeps B1 F1; have F2 := t2.far (Array.getElem?_eq_some_iff.1 B1).1 F1; clear h2)
    | (go_at_call 88; refine (say_new _ w0.heap.size T _ _ 0 H0.out [[115, 101, 108, 101, 99, 116]] _ rfl (by decide) (by simp) (by decide) rfl (by simp)).mono ?_; rintro e w1 ⟨rfl, v1, h1, t1⟩; have H1 := hide h1; have T1 := hide (T0.out.trans t1); have B1 := t1.keeps B0 F0; have F1 := t1.far (Array.getElem?_eq_some_iff.1 B0).1 F0; have u8 := Joins.cell_of_block B1 8; clear h1))
  obtain ⟨q3, hq3⟩ : ∃ q3, q3 = [] ++ List.map Ps.kw [[115, 101, 108, 101, 99, 116]] ++ ti ++ List.map Ps.kw [[102, 114, 111, 109]] := ⟨_, rfl⟩
  rw [← hq3] at H3
  have hq3l : q3.length ≤ itW items + 2 := by rw [hq3]; simp only [List.length_append, List.length_map, List.length_cons, List.length_nil]; omega
  have HQ3 := hide hq3
  clear hq3 IT
  have L0 : SrT w0 w T vv q3 src (tf, cf) w.heap.size #[.int .u8 kind, .string ⟨snm.toArray⟩, .string ⟨stb.toArray⟩, v_cols, v_key, .bool uniq, v_names, v_rows, .slice a_i items.length c_i, .slice a_s src.length c_s, .int .u8 o, .int .u8 k, .int .i64 n, .string t, .string ⟨tb.toArray⟩, .string ⟨nm.toArray⟩, .int .i64 sl, .int .u8 kd, .slice a ag.length cap, .slice a_g 0 c_g, .slice a_o 0 c_o, .int .i64 limit, v_sets] w3 0 v3 q3 ci := ⟨H3.out, T3.out, by rw [List.drop_zero]; omega, by rw [List.drop_zero]; omega, by rw [List.drop_zero, show decide (0 = 0) = true from rfl, HTF.out]; exact ⟨rfl, rfl⟩, B3, F3⟩
  have HL0 := hide L0
  clear L0 H0 T0 B0 F0 H1 T1 B1 F1 H2 T2 B2 F2 H3 T3 B3 F3 t1 t2 t3 HTF u8 u9
  go_loopw [21] (fun i wr => ∃ (m : Nat) (v2 : Value) (qm : List Lx.Tk) (cm : Nat), i = .int .i64 m ∧ m ≤ src.length ∧ SrT w0 w T vv q3 src (tf, cf) w.heap.size #[.int .u8 kind, .string ⟨snm.toArray⟩, .string ⟨stb.toArray⟩, v_cols, v_key, .bool uniq, v_names, v_rows, .slice a_i items.length c_i, .slice a_s src.length c_s, .int .u8 o, .int .u8 k, .int .i64 n, .string t, .string ⟨tb.toArray⟩, .string ⟨nm.toArray⟩, .int .i64 sl, .int .u8 kd, .slice a ag.length cap, .slice a_g 0 c_g, .slice a_o 0 c_o, .int .i64 limit, v_sets] wr m v2 qm cm) (fun i _ => src.length - (intOf i).toNat)
  case atStart => exact ⟨0, v3, q3, ci, rfl, Nat.zero_le _, HL0.out⟩
  case round =>
    clear HL0
    obtain ⟨m, v0, qm, cm, rfl, hm, L⟩ := hrel
    have HL := hide L
    have hbr := HB0.out.trans (L.ts.below HH.out)
    have hi0 : (0 : Int) ≤ (m : Int) := Int.natCast_nonneg m
    by_cases hlt : m < src.length
    · obtain ⟨y, hy⟩ : ∃ y, src[m]? = some y := ⟨_, List.getElem?_eq_getElem hlt⟩
      have hi1 : (m : Int) < (src.length : Int) := by exact_mod_cast hlt
      have HRY := HRS.out.2 y (List.mem_of_getElem? hy)
      obtain ⟨b, off, S, rfl, hb1, hcl, hat⟩ := list_nth len_src HS.out hy (by decide)
      have hd : src.drop m = y :: src.drop (m + 1) := by
        obtain ⟨h1, h2⟩ := List.getElem?_eq_some_iff.1 hy
        rw [List.drop_eq_getElem_cons h1, h2]
      obtain ⟨hE1, hE2⟩ := L.eq
      have hlq := L.lq
      have hlc := L.lc
      rw [hd, srcT_cons] at hE1 hE2
      rw [hd, srW] at hlq hlc
      obtain ⟨tn, asn, ⟨o, ⟨k, n, t⟩, tb, nm, sl, kd, ag⟩⟩ := y
      replace hat : ExAt (Fr lo) w0 (.mk o ⟨k, n, t⟩ tb nm sl kd ag) S := hat
      obtain ⟨a3, c3, rfl⟩ := ExAt.slice hat
      have hol := on_len (decide (m = 0)) (.mk o ⟨k, n, t⟩ tb nm sl kd ag) cm
      have hal := asT_len asn
      have hcw : ∀ j, j < 11 → wr.cell? ⟨b, off + m * 11 + j, none⟩ = #[.string ⟨tn.toArray⟩, .string ⟨asn.toArray⟩, .int .u8 o, .int .u8 k, .int .i64 n, .string t, .string ⟨tb.toArray⟩, .string ⟨nm.toArray⟩, .int .i64 sl, .int .u8 kd, .slice a3 ag.length c3].toList[j]? := fun j hj => (World.cell?_of_block (w := w0) (hbr.block b hb1)).trans (hcl j hj)
      have ya0 := hcw 0 (by decide); have ya1 := hcw 1 (by decide); have ya2 := hcw 2 (by decide); have ya3 := hcw 3 (by decide); have ya4 := hcw 4 (by decide); have ya5 := hcw 5 (by decide); have ya6 := hcw 6 (by decide); have ya7 := hcw 7 (by decide); have ya8 := hcw 8 (by decide); have ya9 := hcw 9 (by decide); have ya10 := hcw 10 (by decide)
      simp only [List.getElem?_cons_zero, List.getElem?_cons_succ, Nat.add_zero] at ya0 ya1 ya2 ya3 ya4 ya5 ya6 ya7 ya8 ya9 ya10
      obtain ⟨X, hX⟩ : ∃ X : Array Value, X = #[.string ⟨tn.toArray⟩, .string ⟨asn.toArray⟩, .int .u8 o, .int .u8 k, .int .i64 n, .string t, .string ⟨tb.toArray⟩, .string ⟨nm.toArray⟩, .int .i64 sl, .int .u8 kd, .slice a3 ag.length c3] := ⟨_, rfl⟩
      have HA := hide (L.tl.alloc (.cells X 104))
      have TA := hide (L.ts.alloc (.cells X 104))
      have KA := hbr.alloc hbr.size (.cells X 104)
      have XA := hide (ExAt.keep (Q := fun i => i < w0.heap.size) (Kept.of KA) (fun _ _ hk => hk) _ _ hat)
      have CA := hide (heap_new (w := wr) (cs := X) (T := 104) rfl)
      have GA := L.tl.far (Nat.le_refl wr.heap.size)
      have BA := alloc_keeps L.bx (.cells X 104)
      have FA := L.bf
      rw [hX] at HA TA XA CA BA
      clear hX KA hcw hcl hat hbr hd hy hb1 L HL
      by_cases hm0 : m = 0
      · have hmz : ¬ (0 : Int) < (m : Int) := by omega
        rw [decide_eq_true hm0] at hE1 hE2
        simp only [onT, if_true, List.nil_append] at hE1 hE2
        have HE := hide (And.intro hE1 hE2)
        clear hm0 hE1 hE2 hol WH
        go_wp2_with (first
          | (go_at_call 142; refine (as_told _ w0.heap.size T _ _ cm H4.out (by simp only [List.length_append, List.length_cons, List.length_nil]; omega) asn).mono ?_; rintro e w5 ⟨rfl, v5, h5, t5⟩; have H5 := hide h5; have T5 := hide (T4.out.trans t5); have B5 := t5.keeps B4 F4; have F5 := t5.far (Array.getElem?_eq_some_iff.1 B4).1 F4; have C5 := t5.keeps C4 G4; have G5 := t5.far (Array.getElem?_eq_some_iff.1 C4).1 G4; clear h5)
          | (go_at_call 89; refine (name_told _ w0.heap.size T _ _ cm HA.out (by omega) tn).mono ?_; rintro e w4 ⟨rfl, v4, h4, t4⟩; have H4 := hide h4; have T4 := hide (TA.out.trans t4); have B4 := t4.keeps BA FA; have F4 := t4.far (Array.getElem?_eq_some_iff.1 BA).1 FA; have C4 := t4.keeps CA.out GA; have G4 := t4.far (Array.getElem?_eq_some_iff.1 CA.out).1 GA; have zb1 := Joins.cell_of_block C4 1; clear h4))
        refine ⟨⟨m + 1, v5, _, cm, by simp, by omega, ⟨H5.out, T5.out, by simp only [List.length_append, List.length_cons, List.length_nil]; omega, by omega, ?_, B5, F5⟩⟩, by simp only [intOf]; omega⟩
        rw [decide_eq_false (by omega : ¬ m + 1 = 0)]
        refine ⟨?_, HE.out.2⟩
        rw [← HE.out.1]
        simp only [List.append_assoc, List.cons_append, List.nil_append]
      · have hmp : (0 : Int) < (m : Int) := by omega
        rw [decide_eq_false hm0] at hE1 hE2
        have hlen := tell_len (.mk o ⟨k, n, t⟩ tb nm sl kd ag) cm
        have hcnt := tell_cnt (.mk o ⟨k, n, t⟩ tb nm sl kd ag) cm
        have EX := hide (fun wx vx lx h1 h2 h3 => tells_all (.mk o ⟨k, n, t⟩ tb nm sl kd ag) wx w0.heap.size T vx lx cm a3 c3 h1 h2 HRY h3 (by have : cm + (wtE (.mk o ⟨k, n, t⟩ tb nm sl kd ag) + 10 + srW (List.drop (m + 1) src)) ≤ 900000000 := hlc; omega))
        obtain ⟨te, ce, hte⟩ : ∃ te ce, Ps.tellE (.mk o ⟨k, n, t⟩ tb nm sl kd ag) cm = (te, ce) := ⟨_, _, rfl⟩
        rw [hte] at hlen hcnt EX
        simp only at hlen hcnt
        have hon : onT false (.mk o ⟨k, n, t⟩ tb nm sl kd ag) cm = (Ps.kw [111, 110] :: te, ce) := by
          show (Ps.kw [111, 110] :: (Ps.tellE (.mk o ⟨k, n, t⟩ tb nm sl kd ag) cm).1, (Ps.tellE (.mk o ⟨k, n, t⟩ tb nm sl kd ag) cm).2) = _
          rw [hte]
        rw [hon] at hE1 hE2
        have HE := hide (And.intro hE1 hE2)
        obtain ⟨wx0, hwx⟩ : ∃ wx0, wx0 = wtE (.mk o ⟨k, n, t⟩ tb nm sl kd ag) := ⟨_, rfl⟩
        simp only at hlq hlc
        rw [← hwx] at hlen hcnt hlq hlc EX
        clear hm0 hE1 hE2 hol WH hte hon hwx HRY
        go_wp2_with (first
          | (go_at_call 46; refine (EX.out _ _ _ H7.out X7.out (by simp only [List.length_append, List.length_map, List.length_cons, List.length_nil]; omega)).mono ?_; rintro e w8 ⟨rfl, v8, h8, t8⟩; have H8 := hide h8; have T8 := hide (T7.out.trans t8); have B8 := t8.keeps B7 F7; have F8 := t8.far (Array.getElem?_eq_some_iff.1 B7).1 F7; clear h8)
          | (go_at_call 88; refine (say_new _ w0.heap.size T _ _ cm H6.out [[111, 110]] _ rfl (by decide) (by simp only [List.length_append, List.length_map, List.length_cons, List.length_nil]; omega) (by decide) rfl rfl).mono ?_; rintro e w7 ⟨rfl, v7, h7, t7⟩; have H7 := hide h7; have T7 := hide (T6.out.trans t7); have B7 := t7.keeps B6 F6; have F7 := t7.far (Array.getElem?_eq_some_iff.1 B6).1 F6; have C7 := t7.keeps C6 G6; have G7 := t7.far (Array.getElem?_eq_some_iff.1 C6).1 G6; have X7 := hide (ExAt.keep (t7.kept H6.out) (fun _ hk _ => hk) _ _ X6.out); have zc2 := Joins.cell_of_block C7 2; have zc3 := Joins.cell_of_block C7 3; have zc4 := Joins.cell_of_block C7 4; have zc5 := Joins.cell_of_block C7 5; have zc6 := Joins.cell_of_block C7 6; have zc7 := Joins.cell_of_block C7 7; have zc8 := Joins.cell_of_block C7 8; have zc9 := Joins.cell_of_block C7 9; have zc10 := Joins.cell_of_block C7 10; clear h7)
          | (go_at_call 142; refine (as_told _ w0.heap.size T _ _ cm H5.out (by simp only [List.length_append, List.length_map, List.length_cons, List.length_nil]; omega) asn).mono ?_; rintro e w6 ⟨rfl, v6, h6, t6⟩; have H6 := hide h6; have T6 := hide (T5.out.trans t6); have B6 := t6.keeps B5 F5; have F6 := t6.far (Array.getElem?_eq_some_iff.1 B5).1 F5; have C6 := t6.keeps C5 G5; have G6 := t6.far (Array.getElem?_eq_some_iff.1 C5).1 G5; have X6 := hide (ExAt.keep (t6.kept H5.out) (fun _ hk _ => hk) _ _ X5.out); clear h6)
          | (go_at_call 89; refine (name_told _ w0.heap.size T _ _ cm H4.out (by simp only [List.length_append, List.length_map, List.length_cons, List.length_nil]; omega) tn).mono ?_; rintro e w5 ⟨rfl, v5, h5, t5⟩; have H5 := hide h5; have T5 := hide (T4.out.trans t5); have B5 := t5.keeps B4 F4; have F5 := t5.far (Array.getElem?_eq_some_iff.1 B4).1 F4; have C5 := t5.keeps C4 G4; have G5 := t5.far (Array.getElem?_eq_some_iff.1 C4).1 G4; have X5 := hide (ExAt.keep (t5.kept H4.out) (fun _ hk _ => hk) _ _ X4.out); have zb1 := Joins.cell_of_block C5 1; clear h5)
          | (go_at_call 88; refine (say_new _ w0.heap.size T _ _ cm HA.out [[106, 111, 105, 110]] _ rfl (by decide) (by omega) (by decide) rfl (by simp)).mono ?_; rintro e w4 ⟨rfl, v4, h4, t4⟩; have H4 := hide h4; have T4 := hide (TA.out.trans t4); have B4 := t4.keeps BA FA; have F4 := t4.far (Array.getElem?_eq_some_iff.1 BA).1 FA; have C4 := t4.keeps CA.out GA; have G4 := t4.far (Array.getElem?_eq_some_iff.1 CA.out).1 GA; have X4 := hide (ExAt.keep (t4.kept HA.out) (fun _ hk _ => hk) _ _ XA.out); have zb0 := Joins.cell_of_block C4 0; clear h4))
        refine ⟨⟨m + 1, v8, _, ce, by simp, by omega, ⟨H8.out, T8.out, by simp only [List.length_append, List.length_map, List.length_cons, List.length_nil]; omega, by omega, ?_, B8, F8⟩⟩, by simp only [intOf]; omega⟩
        rw [decide_eq_false (by omega : ¬ m + 1 = 0)]
        refine ⟨?_, HE.out.2⟩
        rw [← HE.out.1]
        simp [List.append_assoc]
    · obtain rfl : m = src.length := by omega
      obtain ⟨hE1, hE2⟩ := L.eq
      rw [List.drop_length] at hE1 hE2
      have hqm : qm = q3 ++ tf := by simpa [Ps.srcT] using hE1
      have hcm : cm = cf := hE2
      subst hcm
      have HQM := hide hqm
      have hqml : qm.length ≤ itW items + 2 + srW src := by rw [hqm, List.length_append]; omega
      have LB := L.bx
      have H0 := hide L.tl
      have T0 := hide L.ts
      have F0 := L.bf
      have X0 := hide (ExAt.keep (Q := fun i => i < w0.heap.size) (Kept.of hbr) (fun _ _ hk => hk) _ _ HX.out)
      have B0 := LB
      have ub10 := Joins.cell_of_block LB 10; have ub11 := Joins.cell_of_block LB 11; have ub12 := Joins.cell_of_block LB 12; have ub13 := Joins.cell_of_block LB 13; have ub14 := Joins.cell_of_block LB 14; have ub15 := Joins.cell_of_block LB 15; have ub16 := Joins.cell_of_block LB 16; have ub17 := Joins.cell_of_block LB 17; have ub18 := Joins.cell_of_block LB 18
      clear hE1 hE2 hqm hbr L HL HS HRS
      by_cases hl0 : 0 ≤ limit
      · have hwl : IntKind.u64.wrap limit = limit := by simp [IntKind.wrap, IntKind.bits, IntKind.signed]; omega
        go_wp2_with (first
          | (go_at_call 146; refine (number_said _ w0.heap.size T _ _ cw H5.out (by simp only [List.length_append, List.length_map, List.length_cons, List.length_nil]; omega) limit limit.toNat (by omega)).mono ?_; rintro e w6 ⟨rfl, v6, h6, t6⟩; have H6 := hide h6; have T6 := hide (T5.out.trans t6); have B6 := t6.keeps B5 F5; have F6 := t6.far (Array.getElem?_eq_some_iff.1 B5).1 F5; clear h6)
          | (go_at_call 88; refine (say_new _ w0.heap.size T _ _ cw H4.out [[108, 105, 109, 105, 116]] _ rfl (by decide) (by simp only [List.length_append]; omega) (by decide) rfl rfl).mono ?_; rintro e w5 ⟨rfl, v5, h5, t5⟩; have H5 := hide h5; have T5 := hide (T4.out.trans t5); have B5 := t5.keeps B4 F4; have F5 := t5.far (Array.getElem?_eq_some_iff.1 B4).1 F4; have ud21 := Joins.cell_of_block B5 21; clear h5)
          | (go_at_call 92; refine (WH.out _ _ _ H0.out X0.out (by omega) (by omega)).mono ?_; rintro e w4 ⟨rfl, v4, h4, t4⟩; have H4 := hide h4; have T4 := hide (T0.out.trans t4); have B4 := t4.keeps B0 F0; have F4 := t4.far (Array.getElem?_eq_some_iff.1 B0).1 F0; have uc19 := Joins.cell_of_block B4 19; have uc20 := Joins.cell_of_block B4 20; have uc21 := Joins.cell_of_block B4 21; clear h4))
        refine bodyPost_end (v := .tuple #[]) (by simp [results, Tryz.results86]) rfl ⟨rfl, cw, _, ?_, T6.out⟩
        have := H6.out
        rw [HQM.out, HQ3.out] at this
        simpa [List.append_assoc] using this
      · go_wp2_with (first
          | (go_at_call 92; refine (WH.out _ _ _ H0.out X0.out (by omega) (by omega)).mono ?_; rintro e w4 ⟨rfl, v4, h4, t4⟩; have H4 := hide h4; have T4 := hide (T0.out.trans t4); have B4 := t4.keeps B0 F0; have F4 := t4.far (Array.getElem?_eq_some_iff.1 B0).1 F0; have uc19 := Joins.cell_of_block B4 19; have uc20 := Joins.cell_of_block B4 20; have uc21 := Joins.cell_of_block B4 21; clear h4))
        refine bodyPost_end (v := .tuple #[]) (by simp [results, Tryz.results86]) rfl ⟨rfl, cw, _, ?_, T4.out⟩
        have := H4.out
        rw [HQM.out, HQ3.out] at this
        simpa [List.append_assoc] using this
end Go.Proofs.YtedamaccflhmfaaGreatDoor
