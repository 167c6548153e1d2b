/-
  The walk of SstFinds.
-/
import Derived.Test.YteccbddpgenpkaaSFnQ
import Derived.Test.YteccbddpgenpkaaSSmall
import Derived.Test.YteccbddpgenpkaaSLives
import Derived.Deep.Cut
namespace Go.Proofs.Yteccbddpgenpkaa.sstFinds
open Go.RowKit
open Go.Proofs.Yteccbddpgenpkaa

set_option maxRecDepth 100000 in
set_option maxHeartbeats 1000000 in
theorem sall_any (w : World) (base B n : Nat) (t : Ss.Tab) (h : TabAt w base B t n) (ok : Ss.TabOk t) (hn : n ≤ 900000000) :
    Calls Try.prog 15 #[.pointer (some ⟨B, 0, none⟩)] w fun e w' => ScanAns w B n t [] [] e w' := by
  have SC := hide (sscan_any w base B n t h ok [] [] hn)
  go_enter Try.func15, Try.ntmps15
  go_wp2_with (go_at_call 13; refine SC.out.mono ?_; rintro e w1 ⟨v, E, rfl, H, u⟩; clear SC)
  go_ret2
  exact ⟨v, E, rfl, H, u⟩

theorem last_key {l : List Mm.Ent} {p d : Nat} (h : Ss.checkE l p d = 0) {m : Nat} (hm : m < l.length) (e : l.length = m + 1) : lastKeyP (Ss.tabOf l p d).parts = l[m].key := by
  obtain ⟨c1, c2⟩ := Ss.cnt_le h
  have hd := Ss.drop_all h
  rw [List.drop_eq_nil_iff] at hd
  unfold lastKeyP Ss.tabOf
  obtain ⟨k, hk⟩ : ∃ k, Ss.cnt l p = k + 1 := ⟨Ss.cnt l p - 1, by omega⟩
  obtain ⟨i1, a1, e1⟩ := Ss.last_piece h (show k < Ss.cnt l p by omega)
  rw [hk] at hd
  rw [Nat.succ_mul] at hd
  have hx : min (k * p + p) l.length - 1 = m := by omega
  show ((Ss.prts l p (Ss.cnt l p)).getLast?.map (·.key)).getD [] = _
  rw [hk, Ss.prts, List.getLast?_append]
  show (Ss.lastOf (Ss.piece l p k)).key = _
  rw [e1]
  congr 2
/-- The list that the statement makes. -/
structure Wn (wL wr : World) (v : Value) (o : List Mm.Ent) : Prop where
  own : wr.ownsRow wL.heap.size 33 4 v o.length (ecs o)
  below : Below wL.heap.size wL wr
/-- Two entries put by: both can be read. -/
theorem two_cells {w6 w8 : World} {K V : List UInt8} {Q : Int} {D : Bool} (b8 : Below (w6.alloc (.cells #[str K, str V, .int .i64 Q, .bool D] 33)).heap.size (w6.alloc (.cells #[str K, str V, .int .i64 Q, .bool D] 33)) w8) (W9 : World) (h9 : W9 = w8.alloc (.cells #[str K, str V, .int .i64 Q, .bool D] 33)) :
    (W9.cell? ⟨w6.heap.size, 0, none⟩ = some (str K) ∧ W9.cell? ⟨w6.heap.size, 1, none⟩ = some (str V) ∧ W9.cell? ⟨w6.heap.size, 2, none⟩ = some (.int .i64 Q) ∧ W9.cell? ⟨w6.heap.size, 3, none⟩ = some (.bool D)) ∧
    (W9.cell? ⟨w8.heap.size, 0, none⟩ = some (str K) ∧ W9.cell? ⟨w8.heap.size, 1, none⟩ = some (str V) ∧ W9.cell? ⟨w8.heap.size, 2, none⟩ = some (.int .i64 Q) ∧ W9.cell? ⟨w8.heap.size, 3, none⟩ = some (.bool D)) := by
  subst h9
  have h6 := keepB b8 (World.alloc_heap_new w6 _)
  have hz : w6.heap.size < w8.heap.size := by have := b8.size; simp at this; omega
  have h6' : (w8.alloc (.cells #[str K, str V, .int .i64 Q, .bool D] 33)).heap[w6.heap.size]? = some (.cells #[str K, str V, .int .i64 Q, .bool D] 33) := (Below.heap_alloc _ _ _ hz).trans h6
  have h8 := World.alloc_heap_new w8 (.cells #[str K, str V, .int .i64 Q, .bool D] 33)
  exact ⟨⟨Joins.cell_of_block h6' 0, Joins.cell_of_block h6' 1, Joins.cell_of_block h6' 2, Joins.cell_of_block h6' 3⟩, Joins.cell_of_block h8 0, Joins.cell_of_block h8 1, Joins.cell_of_block h8 2, Joins.cell_of_block h8 3⟩
set_option maxRecDepth 100000 in
set_option maxHeartbeats 8000000 in
theorem walk (w : World) (a : Option Addr) (c n : Nat) (l : List Mm.Ent) (hat : EntsAt w (.slice a n c) l) (hn : n = l.length) (hlen : n ≤ maxLen) (hcap : n ≤ c) (hok : ∀ x ∈ l, x.key.length ≤ maxLen ∧ x.value.length ≤ maxLen)
    (per bits : Int) (key : List UInt8) (hkey : key.length ≤ 140737488355328) (seq : Int) (f tu : List UInt8) :
    Calls Try.prog 5 #[.slice a n c, .int .i64 per, .int .i64 bits, str key, .int .i64 seq, .agg #[str f, str tu]] w fun e w' => e = .returned (.bool true) ∧ Below w.heap.size w w' := by
  obtain ⟨W, hW⟩ : ∃ W, W = w.alloc (.cells #[str f, str tu] 40) := ⟨_, rfl⟩
  have b0 : Below w.heap.size w W := by rw [hW]; exact (Below.refl _ _).alloc (Nat.le_refl _) _
  have t0 : W.heap[w.heap.size]? = some (.cells #[str f, str tu] 40 (0, 0)) := by rw [hW]; exact World.alloc_heap_new w _
  have LV : Hid (Calls Try.prog 10 #[] (w.alloc (.cells #[str f, str tu] 40)) fun e w' => e = .returned (.bool true) ∧ Below W.heap.size W w') := by rw [← hW]; exact slives_any W
  have SM : Hid (∀ wx, Below W.heap.size W wx → Calls Try.prog 19 #[.slice a n c] wx fun e w' => e = .returned (.bool (small9B l)) ∧ Below wx.heap.size wx w') := fun wx hx => small9_any wx a c n l ((hat.later b0).later hx) hn hlen hok _ rfl
  have HB := hide b0
  have HT := hide t0
  clear hW b0 t0
  by_cases hs0 : small9B l = false
  · rw [hs0] at SM
    clear hs0 hat hok hn
    go_enter Try.func5, Try.ntmps5
    go_wp2_with (first
      | (go_at_call 10; refine LV.out.mono ?_; rintro e w1 ⟨rfl, b1⟩; clear LV)
      | (go_at_call 19; refine (SM.out _ b1).mono ?_; rintro e w2 ⟨rfl, b2⟩; clear SM))
    go_ret
    exact ⟨rfl, HB.out.trans ((b1.trans (b2.mono b1.size)).mono HB.out.size)⟩
  have hs : small9B l = true := by simpa using hs0
  rw [hs] at SM
  obtain ⟨l150, hsm⟩ := small9_facts hs
  clear hs0 hs
  have hk : ∀ x ∈ l, x.key.length ≤ 1000000 ∧ x.value.length ≤ 1000000 := fun x hx => by have := hsm x hx; omega
  have HA := hide (hat.later HB.out)
  by_cases hc : Ss.checkE l per bits ≠ 0
  · have BD : Hid (∀ wx, Below W.heap.size W wx → Calls Try.prog 7 #[.slice a n c, .int .i64 per, .int .i64 bits] wx fun e w' => e = .returned (.tuple #[.slice none 0 0, .int .i64 (Ss.checkE l per bits)]) ∧ Below wx.heap.size wx w') := fun wx hx => sbuild_bad wx a c n l (HA.out.later hx) hn (by omega) hk per bits hc
    have hq : (Ss.checkE l per bits != 0) = true := by simpa using hc
    generalize Ss.checkE l per bits = E at *
    clear hat hok hn HA hk hsm
    go_enter Try.func5, Try.ntmps5
    go_wp2_with (first
      | (go_at_call 10; refine LV.out.mono ?_; rintro e w1 ⟨rfl, b1⟩; clear LV)
      | (go_at_call 19; refine (SM.out _ b1).mono ?_; rintro e w2 ⟨rfl, b2⟩; have B2 := b1.trans (b2.mono b1.size); clear SM)
      | (go_at_call 7; refine (BD.out _ B2).mono ?_; rintro e w3 ⟨rfl, b3⟩; have B3 := B2.trans (b3.mono B2.size); clear BD))
    go_ret
    exact ⟨rfl, HB.out.trans (B3.mono HB.out.size)⟩
  have hc0 : Ss.checkE l per bits = 0 := by simpa using hc
  clear hc
  obtain ⟨⟨q1, q2, q3, q4⟩, l1, _, _, ho⟩ := Ss.check_parts hc0
  obtain ⟨p, rfl⟩ : ∃ p : Nat, per = (p : Int) := ⟨per.toNat, by omega⟩
  obtain ⟨d, rfl⟩ : ∃ d : Nat, bits = (d : Int) := ⟨bits.toNat, by omega⟩
  obtain ⟨op1, op2, op3⟩ := Ss.open_back hc0 (by omega)
  have OKT : Hid (Ss.TabOk (Ss.tabOf l p d)) := by rw [← op2]; exact Ss.tabOk_of_open op1 (by omega)
  obtain ⟨c1, c2⟩ := Ss.cnt_le hc0
  have hu := up_of_ord ((Bk.inOrd_iff l).1 ho)
  have BD : Hid (∀ wx, Below W.heap.size W wx → Calls Try.prog 7 #[.slice a n c, .int .i64 (p : Int), .int .i64 (d : Int)] wx fun e w' => ∃ g k cap, e = .returned (.tuple #[.slice (some ⟨g, 0, none⟩) k cap, .int .i64 0]) ∧ Hid (BytesIn w' (.slice (some ⟨g, 0, none⟩) k cap) (Ss.buildB l p d) ∧ k = (Ss.buildB l p d).length ∧ k ≤ cap) ∧ Below wx.heap.size wx w') := fun wx hx => by
    refine (sbuild_ok wx a c n l (HA.out.later hx) hn hcap (by omega) hk p d hc0).mono ?_
    rintro e w' ⟨v, rfl, o, b⟩
    obtain ⟨g, cap, rfl⟩ := own_some o (by intro e; rw [e] at op1; exact absurd op1 (by decide +kernel))
    exact ⟨g, _, cap, rfl, ⟨bytes_of_own o (by show (Ss.buildB l p d).length ≤ _; omega), rfl, (own_cap o).1⟩, b⟩
  have OP : Hid (∀ wx g k cap, Hid (BytesIn wx (.slice (some ⟨g, 0, none⟩) k cap) (Ss.buildB l p d) ∧ k = (Ss.buildB l p d).length ∧ k ≤ cap) → Calls Try.prog 9 #[.slice (some ⟨g, 0, none⟩) k cap] wx fun e w' => ∃ T, e = .returned (.tuple #[.pointer (some ⟨T, 0, none⟩), .int .i64 0]) ∧ TabAt w' wx.heap.size T (Ss.tabOf l p d) 0 ∧ Below wx.heap.size wx w') := fun wx g k cap h => by
    obtain ⟨h1, h2, h3⟩ := h.out
    refine (open_any wx _ cap k (Ss.buildB l p d) h2 h1 h3 (by omega)).mono ?_
    rintro e w' ⟨p', E, rfl, H, b⟩
    rcases H with ⟨_, rfl, T, rfl, ht⟩ | ⟨h1, _, _⟩
    · rw [op2] at ht; exact ⟨T, rfl, ht, b⟩
    · rw [op1] at h1; cases h1
  have LN : Hid (∀ wx base T k, TabAt wx base T (Ss.tabOf l p d) k → Calls Try.prog 16 #[.pointer (some ⟨T, 0, none⟩)] wx fun e w' => e = .returned (.int .i64 (n : Int)) ∧ w' = wx) := fun wx base T k h => by rw [hn]; exact slen_any wx base T k _ h
  obtain ⟨C, hC⟩ : ∃ C, C = Ss.cnt l p := ⟨_, rfl⟩
  have BL : Hid (∀ wx base T k, TabAt wx base T (Ss.tabOf l p d) k → Calls Try.prog 17 #[.pointer (some ⟨T, 0, none⟩)] wx fun e w' => e = .returned (.int .i64 (C : Int)) ∧ w' = wx) := fun wx base T k h => by have := sblocks_any wx base T k _ h; rw [show (Ss.tabOf l p d).parts.length = C from by rw [hC]; exact Ss.prts_length l p _] at this; exact this
  obtain ⟨m, rfl⟩ : ∃ m, n = m + 1 := ⟨n - 1, by omega⟩
  obtain ⟨b, off, rfl⟩ := HA.out.some (by omega)
  have hm : m < l.length := by omega
  obtain ⟨LK, hLK⟩ : ∃ LK, LK = l[m].key := ⟨_, rfl⟩
  have LS : Hid (∀ wx base T k, TabAt wx base T (Ss.tabOf l p d) k → Calls Try.prog 18 #[.pointer (some ⟨T, 0, none⟩)] wx fun e w' => e = .returned (str LK) ∧ Below wx.heap.size wx w') := fun wx base T k h => by
    have := slast_any wx base T k _ h OKT.out.some (by have := OKT.out.most; omega)
    rw [show lastKeyP (Ss.tabOf l p d).parts = LK from by rw [hLK]; exact last_key hc0 hm (by omega)] at this
    exact this
  have KL : Hid (∀ wx, Below W.heap.size W wx → wx.cell? ⟨b, off + m * 4, none⟩ = some (str LK)) := fun wx hx => by rw [hLK]; exact ((HA.out.later hx).cells m hm).1
  have RD : Hid (∀ wx base T k, TabAt wx base T (Ss.tabOf l p d) k → Calls Try.prog 12 #[.pointer (some ⟨T, 0, none⟩)] wx fun e w' => e = .returned (.int .i64 (k : Int)) ∧ w' = wx) := fun wx base T k h => sreads_any wx base T k _ h
  obtain ⟨X, hX⟩ : ∃ X, X = findE l key seq := ⟨_, rfl⟩
  obtain ⟨XE, hXE⟩ : ∃ XE, XE = X.getD zeroE := ⟨_, rfl⟩
  obtain ⟨XB, hXB⟩ : ∃ XB, XB = X.isSome := ⟨_, rfl⟩
  have GT : Hid (∀ wx base T, TabAt wx base T (Ss.tabOf l p d) 0 → Calls Try.prog 11 #[.pointer (some ⟨T, 0, none⟩), str key, .int .i64 seq] wx fun e w' => e = .returned (.tuple #[entV XE, .bool XB, .int .i64 0]) ∧ ∃ k, k ≤ 1 ∧ Turned T k wx w') := fun wx base T h => by
    obtain ⟨g1, g2, g3⟩ := Ss.get_back hc0 key seq
    refine (sget_any wx base T 0 _ h OKT.out key seq hkey (by decide)).mono ?_
    rintro e w' ⟨h1, h2⟩
    rw [g1, g2, ← hX, ← hXE, ← hXB] at h1
    exact ⟨h1, _, by omega, h2⟩
  have FD : Hid (∀ wx, Below W.heap.size W wx → Calls Try.prog 20 #[.slice (some ⟨b, off, none⟩) (m + 1) c, str key, .int .i64 seq] wx fun e w' => e = .returned (.tuple #[entV XE, .bool XB]) ∧ Below wx.heap.size wx w') := fun wx hx => by
    have := find_any wx _ c _ l (HA.out.later hx) hn (by omega) hk hu key seq
    rw [← hX] at this
    rw [show foundV X = .tuple #[entV (X.getD zeroE), .bool X.isSome] from by cases X <;> rfl, ← hXE, ← hXB] at this
    exact this
  have SC : Hid (∀ wx base T k, k ≤ 1 → TabAt wx base T (Ss.tabOf l p d) k → Calls Try.prog 13 #[.pointer (some ⟨T, 0, none⟩), .agg #[str f, str tu]] wx fun e w' => ∃ v k', e = .returned (.tuple #[v, .int .i64 0]) ∧ Hid (w'.ownsRow wx.heap.size 33 4 v (Mm.spanL f tu l).length (ecs (Mm.spanL f tu l))) ∧ k' ≤ 200 ∧ Turned T k' wx w') := fun wx base T k hk h => by
    obtain ⟨m', s1, s2⟩ := Ss.scan_back hc0 f tu
    refine (sscan_any wx base T k _ h OKT.out f tu (by omega)).mono ?_
    rintro e w' ⟨v, E, rfl, H, u⟩
    rw [s2] at u
    rcases H with ⟨l', h1, rfl, o⟩ | ⟨h1, _⟩
    · rw [s2] at h1; cases h1; exact ⟨v, _, rfl, o, by show k + m' ≤ 200; omega, u⟩
    · rw [s2] at h1; cases h1
  have AL : Hid (∀ wx base T k, k ≤ 200 → TabAt wx base T (Ss.tabOf l p d) k → Calls Try.prog 15 #[.pointer (some ⟨T, 0, none⟩)] wx fun e w' => ∃ v k', e = .returned (.tuple #[v, .int .i64 0]) ∧ Hid (EntsAt w' v l) ∧ Turned T k' wx w') := fun wx base T k hk h => by
    obtain ⟨m', s1, s2⟩ := Ss.scan_back hc0 [] []
    rw [Ss.span_whole] at s2
    refine (sall_any wx base T k _ h OKT.out (by omega)).mono ?_
    rintro e w' ⟨v, E, rfl, H, u⟩
    rcases H with ⟨l', h1, rfl, o⟩ | ⟨h1, _⟩
    · rw [s2] at h1; cases h1; exact ⟨v, _, rfl, EntsAt.own o, u⟩
    · rw [s2] at h1; cases h1
  have DV : Hid (((m : Int) + (p : Int)).tdiv (p : Int) = (C : Int)) := by
    rw [hC]
    unfold Ss.cnt
    rw [← hn]
    rw [Int.tdiv_eq_ediv_of_nonneg (by omega), show m + 1 + p - 1 = m + p from by omega]
    rfl
  have HN : Hid (m + 1 = l.length) := hn
  have HC : Hid (C ≤ 150) := by show C ≤ 150; omega
  clear hXE hXB
  obtain ⟨XK, XV, XQ, XD⟩ := XE
  generalize hTB : Ss.tabOf l p d = TB at *
  clear hTB hat hok hn hk hsm hu ho op1 op2 op3 hc0 hX hLK hC c1 c2 OKT
  go_enter Try.func5, Try.ntmps5
  go_wp2_with (first
    | (go_at_call 10; refine LV.out.mono ?_; rintro e w1 ⟨rfl, b1⟩; clear LV)
    | (go_at_call 19; refine (SM.out _ b1).mono ?_; rintro e w2 ⟨rfl, b2⟩; have B2 := b1.trans (b2.mono b1.size); clear SM b1 b2)
    | (go_at_call 7; refine (BD.out _ B2).mono ?_; rintro e w3 ⟨g, gk, cap, rfl, y3, b3⟩; have B3 := B2.trans (b3.mono B2.size); clear BD B2 b3)
    | (go_at_call 9; refine (OP.out _ _ _ _ y3).mono ?_; rintro e w4 ⟨T, rfl, t4, b4⟩; have B4 := B3.trans (b4.mono B3.size); have lT := t4.low; have z3 := B3.size; clear OP y3 B3 b4))
  have D4 : Hid (Below w4.heap.size w4 w4.drew) := (Below.refl w4.heap.size w4).drew
  have x0 := KL.out _ (B4.trans ((Below.refl w4.heap.size w4).mono B4.size))
  have x1 := KL.out _ (B4.trans (D4.out.mono B4.size))
  have m9 : (m : Int) ≤ 149 := by omega
  have p9 : (p : Int) ≤ 64 := by omega
  have wm : IntKind.i64.wrap (m : Int) = (m : Int) := by rw [IntKind.wrap_i64]; omega
  have wm1 : IntKind.i64.wrap ((m : Int) + 1) = (m : Int) + 1 := by rw [IntKind.wrap_i64]; omega
  have t4d := t4.later D4.out
  have i0 : (0 : Int) ≤ (m : Int) := by omega
  have i1 : (m : Int) < (m : Int) + 1 := by omega
  have i2 : (m : Int) ≤ (m : Int) + 1 := by omega
  have p0 : ¬ (p : Int) = 0 := by omega
  have p00 : ((p : Int) == 0) = false := by simpa using p0
  have p3 : ¬ (p : Int) = -1 := by omega
  have pn : ¬ p = 0 := by omega
  have wa : IntKind.i64.wrap ((m : Int) + 1 + (p : Int)) = (m : Int) + 1 + (p : Int) := by rw [IntKind.wrap_i64]; omega
  have wb : IntKind.i64.wrap ((m : Int) + 1 + (p : Int) - 1) = (m : Int) + 1 + (p : Int) - 1 := by rw [IntKind.wrap_i64]; omega
  have dv : ((m : Int) + 1 + (p : Int) - 1).tdiv (p : Int) = (C : Int) := by have := DV.out; rw [← this]; congr 1; omega
  have C9 : (C : Int) ≤ 150 := by have := HC.out; omega
  have wC : IntKind.i64.wrap (C : Int) = (C : Int) := by rw [IntKind.wrap_i64]; omega
  go_cut [86] from 49 to 85 (fun z wx => z = .bool false ∧ Below w4.heap.size w4 wx)
  case first =>
    go_region_held3 (fun wx => wx.cell? ⟨b, off + m * 4, none⟩ = some (str LK)) (first | exact x0 | exact x1 | exact x6 | (go_keep; done)) (first
      | (go_at_call 16; refine (LN.out _ _ _ _ t4d).mono ?_; rintro e w5 ⟨rfl, rfl⟩)
      | (go_at_call 18; refine (LS.out _ _ _ _ t4d).mono ?_; rintro e w6 ⟨rfl, b6⟩; have t6 := t4d.later b6; have D6 := D4.out.trans b6; have x6 := KL.out _ (B4.trans (D6.mono B4.size)))
      | (go_at_call 17; refine (BL.out _ _ _ _ t6).mono ?_; rintro e w7 ⟨rfl, rfl⟩))
    all_goals
      go_wp2_with (fail)
      go_meet
      case rel => exact ⟨rfl, D6⟩
  case rest =>
    obtain ⟨rfl, b5⟩ := hcut
    obtain ⟨w5, hw5⟩ : ∃ w5, w5 = wc := ⟨_, rfl⟩
    rw [← hw5] at b5 ⊢
    have t5 := t4.later b5
    have B5 := B4.trans (b5.mono B4.size)
    have zz : W.heap.size ≤ T := by omega
    clear hw5 b5 B4 t4 t4d D4 x0 x1 LN LS BL KL DV dv wC C9 HC wa wb p00 p0 p3 pn wm wm1 i0 i1 i2
    go_wp2_with (first
      | (go_at_call 11; refine (GT.out _ _ _ t5).mono ?_; rintro e w6 ⟨rfl, k6, hk6, u6⟩; have t6 := u6.tab t5; have B6 := B5.grown u6.1 B5.size (fun k hk => by cases hk; exact zz); clear GT t5 B5 u6)
      | (go_at_call 20; refine (FD.out _ (B6.alloc B6.size _)).mono ?_; rintro e w8 ⟨rfl, b8⟩; obtain ⟨⟨y0, y1, y2, y3⟩, y4, y5, y6, y7⟩ := two_cells b8 _ rfl; have B8 := (B6.alloc B6.size _).trans (b8.mono (B6.alloc B6.size _).size); have t8 := (t6.later ((Below.refl _ _).alloc (Nat.le_refl _) _)).later b8; have t9 := t8.later ((Below.refl w8.heap.size w8).alloc (Nat.le_refl _) (.cells #[str XK, str XV, .int .i64 XQ, .bool XD] 33)); have B9 := B8.alloc B8.size (.cells #[str XK, str XV, .int .i64 XQ, .bool XD] 33); have k6' : (k6 : Int) ≤ 1 := (by omega); clear FD t6 B6 b8 B8 t8)
      | (go_at_call 12; refine (RD.out _ _ _ _ t9).mono ?_; rintro e w10 ⟨rfl, rfl⟩; clear RD))
    obtain ⟨wL, hwL⟩ : ∃ wL, wL = w8.alloc (.cells #[str XK, str XV, .int .i64 XQ, .bool XD] 33) := ⟨_, rfl⟩
    rw [show w8.alloc (.cells #[.string ⟨XK.toArray⟩, .string ⟨XV.toArray⟩, .int .i64 XQ, .bool XD] 33) = wL from hwL.symm]
    rw [← hwL] at t9 B9
    clear y0 y1 y2 y3 y4 y5 y6 y7 hwL
    obtain ⟨ie, hi, hz0, hz1, hz2⟩ := info_parts infoE
    have lTL := t9.lt
    have IN : Hid (∀ wx k, Calls Try.prog 21 #[str k, .agg #[str f, str tu]] wx fun e w' => e = .returned (.bool (Mm.inB k f tu)) ∧ Below wx.heap.size wx w') := fun wx k => in_any wx k f tu
    go_loopw [21, 22] (fun v i wr => ∃ j : Nat, j ≤ m + 1 ∧ i = .int .i64 j ∧ Wn wL wr v (Mm.spanL f tu (l.take j))) (fun _ i _ => m + 1 - (intOf i).toNat)
    case atStart => exact ⟨0, Nat.zero_le _, rfl, World.ownsRow_nil _ _ _ _, Below.refl _ _⟩
    case round =>
      obtain ⟨j, hj, rfl, N⟩ := hrel
      have BW : Below W.heap.size W wr := B9.trans (N.below.mono B9.size)
      by_cases hjl : j < m + 1
      · have jl : j < l.length := by have := HN.out; omega
        have CE : Hid (∀ wx, Below W.heap.size W wx → (wx.cell? ⟨b, off + j * 4, none⟩ = some (str l[j].key) ∧ wx.cell? ⟨b, off + j * 4 + 1, none⟩ = some (str l[j].value) ∧ wx.cell? ⟨b, off + j * 4 + 2, none⟩ = some (.int .i64 l[j].seq) ∧ wx.cell? ⟨b, off + j * 4 + 3, none⟩ = some (.bool l[j].del))) := fun wx hx => (HA.out.later hx).cells j jl
        have TK : Hid (Mm.spanL f tu (l.take (j + 1)) = Mm.spanL f tu (l.take j) ++ (if Mm.inB l[j].key f tu = true then [l[j]] else [])) := by
          show _ = _
          rw [List.take_succ_eq_append_getElem jl]
          unfold Mm.spanL
          rw [List.filter_append]
          congr 1
          rw [List.filter_cons]
          simp
        have LE : (Mm.spanL f tu (l.take j)).length ≤ 150 := by
          have h1 : (Mm.spanL f tu (l.take j)).length ≤ (l.take j).length := List.length_filter_le _ _
          rw [List.length_take] at h1
          omega
        have KS : Hid (∀ wx, Below W.heap.size W wx → wx.cell? ⟨b, off + j * 4, none⟩ = some (str l[j].key) ∧ wx.cell? ⟨w.heap.size, 0, none⟩ = some (str f) ∧ wx.cell? ⟨w.heap.size, 1, none⟩ = some (str tu)) := fun wx hx => ⟨(CE.out wx hx).1, Joins.cell_of_block (keepB hx HT.out) 0, Joins.cell_of_block (keepB hx HT.out) 1⟩
        have IX := hide (fun wx => IN.out wx l[j].key)
        generalize l[j] = x at *
        obtain ⟨K, V, Q, D⟩ := x
        simp only at CE TK KS IX
        have P0 := KS.out _ BW
        have P1 := KS.out _ BW.drew
        generalize Mm.inB K f tu = ib at *
        have j1 : (j : Int) < (m : Int) + 1 := by omega
        have j2 : (0 : Int) ≤ (j : Int) := by omega
        obtain ⟨o, ho⟩ : ∃ o, o = Mm.spanL f tu (l.take j) := ⟨_, rfl⟩
        rw [← ho] at N LE TK
        clear ho IN HA SC AL t9
        have HNN := hide N
        have HBW := hide BW
        clear N BW
        go_wp2_with (fail)
        go_cut [131] from 125 to 130 (fun z wx => z = .bool ib ∧ Below wr.heap.size wr wx)
        case first =>
          go_region_held3 (fun wx => wx.cell? ⟨b, off + j * 4, none⟩ = some (str K) ∧ wx.cell? ⟨w.heap.size, 0, none⟩ = some (str f) ∧ wx.cell? ⟨w.heap.size, 1, none⟩ = some (str tu)) (first | exact P0 | exact P1 | exact P10 | (go_keep; done)) (first
            | (go_at_call 21; refine (IX.out _).mono ?_; rintro e w10 ⟨rfl, b10⟩; have D10 := (Below.refl wr.heap.size wr).drew.trans b10; have P10 := KS.out _ (HBW.out.trans (D10.mono HBW.out.size))))
          all_goals
            go_wp2_with (fail)
            go_meet
            case rel => exact ⟨rfl, D10⟩
        case rest =>
          obtain ⟨rfl, b11⟩ := hcut
          obtain ⟨w11, hw11⟩ : ∃ w11, w11 = wc := ⟨_, rfl⟩
          rw [← hw11] at b11 ⊢
          have N11 : Hid (Wn wL w11 _ o) := ⟨own_after HNN.out.own b11, HNN.out.below.trans (b11.mono HNN.out.below.size)⟩
          have BW11 := HBW.out.trans (b11.mono HBW.out.size)
          clear hw11 HNN b11 HBW IX KS P0 P1
          cases ib with
          | false =>
            rw [if_neg (by simp), List.append_nil] at TK
            go_wp2_with (fail)
            refine ⟨⟨j + 1, by omega, by go_num, ?_⟩, by simp [intOf]; omega⟩
            rw [TK.out]
            exact N11.out
          | true =>
            rw [if_pos rfl] at TK
            obtain ⟨y0, y1, y2, y3⟩ := CE.out w11 BW11
            have CN : Hid (∀ W : World, ∀ B, B = W.heap.size → ∀ i u, (ecs [⟨K, V, Q, D⟩])[i]? = some u → (W.alloc (.cells #[str K, str V, .int .i64 Q, .bool D] 33)).cell? ((⟨B, 0, none⟩ : Addr).add i) = some u) := fun W B hB => ec_new W ⟨K, V, Q, D⟩ B hB
            have HL : Hid ((ecs [⟨K, V, Q, D⟩]).length = 1 * 4) := rfl
            have HO : Hid (∀ u ∈ ecs [⟨K, V, Q, D⟩], u.oneCell' = true) := ecs_one _
            have Z1 : Hid (o.length + 1 ≤ maxLen) := by show _ ≤ _; unfold maxLen; omega
            have Z2 : Hid ((o.length + 1) * 48 ≤ 140737488355328) := by show _ ≤ _; omega
            have I7 := hide (own_after N11.out.own ((Below.refl w11.heap.size w11).alloc (Nat.le_refl _) (.cells #[str K, str V, .int .i64 Q, .bool D] 33)))
            have b7 := hide (N11.out.below.alloc N11.out.below.size (.cells #[str K, str V, .int .i64 Q, .bool D] 33))
            have z6 := N11.out.below.size
            go_wp2_with (first
              | (at_builtin; refine wpList_append_lies _ rfl _ _ 26 rfl wL.heap.size 33 ie _ 4 48 Try.underlying26 hi hz0 hz1 hz2 rfl (by decide) _ o.length _ rfl I7.out ⟨w11.heap.size, 0, none⟩ 1 1 (ecs [⟨K, V, Q, D⟩]) rfl HL.out (CN.out _ _ rfl) HO.out (by decide) Z1.out Z2.out (by simp; omega) _ rfl ?_; intro g8 cap8 w12 o8 h8 l8 lt8))
            refine ⟨⟨j + 1, by omega, by go_num, ?_⟩, by simp [intOf]; omega⟩
            rw [TK.out]
            exact ⟨by rw [ecs_append, List.length_append]; exact o8, b7.out.grown h8 b7.out.size (fun k hk => (I7.out.lt k hk).1)⟩
      · have e : j = m + 1 := by omega
        subst e
        have i3 : ¬ (m : Int) + 1 < (m : Int) + 1 := by omega
        rw [List.take_of_length_le (by have := HN.out; omega)] at N
        have tr := t9.later N.below
        have zL := N.below.size
        have HW := hide N.own
        have L1 : Hid ((Mm.spanL f tu l).length ≤ 1000000) := by
          have h1 : (Mm.spanL f tu l).length ≤ l.length := List.length_filter_le _ _
          show _ ≤ _
          omega
        have s0 := Joins.cell_of_block (keepB BW HT.out) 0
        have s1 := Joins.cell_of_block (keepB BW HT.out) 1
        have LL : Hid (l.length ≤ 1000000) := by show _ ≤ _; omega
        clear N IN t9
        go_wp2_with (first
          | (go_at_call 13; refine (SC.out _ _ _ k6 hk6 tr).mono ?_; rintro e w13 ⟨v13, k13, rfl, s13, hk13, u13⟩; have t13 := u13.tab tr; have n13 := hide (own_other HW.out u13.1 (fun i hi => (by have := (HW.out.lt i hi).1; omega))); have B13 := BW.grown u13.1 BW.size (fun k hk => (by cases hk; exact zz)); clear SC HW)
          | (go_at_call 15; refine (AL.out _ _ _ k13 hk13 t13).mono ?_; rintro e w14 ⟨v14, k14, rfl, s14, u14⟩; have n14 := hide (own_other n13.out u14.1 (fun i hi => (by have := (n13.out.lt i hi).1; omega))); have m14 := hide (own_other s13.out u14.1 (fun i hi => (by have := (s13.out.lt i hi).1; omega))); have B14 := B13.grown u14.1 B13.size (fun k hk => (by cases hk; exact zz)); clear AL n13 s13)
          | (go_at_call 14; have tk := m14; refine (samee_any _ _ _ _ (EntsAt.own m14.out) (EntsAt.own n14.out) L1.out).mono ?_; rintro e w15 ⟨rfl, b15⟩; have s15 := hide (s14.out.later b15); have B15 := B14.trans (b15.mono B14.size); clear m14 tk n14)
          | (go_at_call 14; refine (samee_any _ _ _ _ s15.out (HA.out.later B15) LL.out).mono ?_; rintro e w16 ⟨rfl, b16⟩; have B16 := B15.trans (b16.mono B15.size); clear s15))
        go_ret
        exact ⟨rfl, HB.out.trans (B16.mono HB.out.size)⟩
end Go.Proofs.Yteccbddpgenpkaa.sstFinds
