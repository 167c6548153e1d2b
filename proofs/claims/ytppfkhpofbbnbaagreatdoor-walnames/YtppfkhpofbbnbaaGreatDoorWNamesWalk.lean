/-
  The walk of WalNames: the examples, one behind the other.
-/
import Derived.Test.YtppfkhpofbbnbaaGreatDoorWNames
import Derived.Test.YtppfkhpofbbnbaaGreatDoorWEnc
import Derived.Test.YtppfkhpofbbnbaaGreatDoorKSame
namespace Go.Proofs.YtppfkhpofbbnbaaGreatDoor.walNames
open Go.ChangeShapes Go.WideShapes Go.ChangeAt Go.RowKit Go.Maps Go.Sort Go.Shelf

abbrev O1 : Obj := .cells #[.string ⟨#[97]⟩, .string ⟨#[49]⟩, .bool false] 34
abbrev OE : Obj := .cells #[.string ⟨#[97]⟩, .string ⟨#[]⟩, .bool false] 34
abbrev OB : Obj := .cells #[.string ⟨#[97]⟩, .string ⟨#[98]⟩, .bool true] 34
abbrev OD : Obj := .cells #[.string ⟨#[97]⟩, .string ⟨#[]⟩, .bool true] 34
abbrev LB : Obj := .cells #[.int .u8 1, .int .u8 1, .int .u8 0, .int .u8 1, .int .u8 97, .int .u8 1, .int .u8 49] 5
def R : List UInt8 := [1, 1, 0, 1, 97, 1, 49]
def xe : Wl.Wr := ⟨[97], [], false⟩
theorem hR : R = Wl.record 1 Lv.l1 := by decide +kernel
theorem c3 : (9 : Int) = Wl.checkE [xe, xe] := by decide +kernel
theorem c4 : (2 : Int) = Wl.checkE [] := by decide +kernel
theorem c5 : (2 : Int) = Wl.checkE [⟨[97], [98], true⟩] := by decide +kernel

theorem names_append {ops : Array Oper} {rest : List Oper} {o : Oper} {a : Act} {Q : Exit → Act → World → Prop} (hg : o.guard = none) (s x : Operand) (ho : o.op = .call { callee := .builtin .append, args := #[s, x], argTypes := #[26, 26] }) (w : World)
    (hs : a.eval s = .slice (some ⟨w.heap.size, 0, none⟩) 1 1) (hx : a.eval x = .slice (some ⟨w.heap.size + 1, 0, none⟩) 1 1)
    (h : ∀ ad c w', Hid (WrsAt w' (.slice ad 2 c) [xe, xe]) → Below w.heap.size w w' → wpList Tryz.prog ops Q rest (a.put o.dst (.slice ad 2 c)) w') : wpList Tryz.prog ops Q (o :: rest) a ((w.alloc OE).alloc OE) := by
  obtain ⟨i0, hi, hz0, hz1, hz2⟩ := info_parts infoW
  have z1 : (w.alloc OE).heap.size = w.heap.size + 1 := World.size_alloc _ _
  have A0 : (w.alloc OE).ownsRow w.heap.size 34 3 (.slice (some ⟨w.heap.size, 0, none⟩) 1 1) 1 (wcs [xe]) := World.ownsRow_lit (size := 3) (e := 34) (base := w.heap.size) w #[.string ⟨#[97]⟩, .string ⟨#[]⟩, .bool false] 1 (Nat.le_refl _) (by decide) rfl
  have B2 : Below (w.alloc OE).heap.size (w.alloc OE) ((w.alloc OE).alloc OE) := (Below.refl _ _).alloc (Nat.le_refl _) _
  have A1 := own_after A0 B2
  have A2 : ((w.alloc OE).alloc OE).ownsRow w.heap.size 34 3 (.slice (some ⟨w.heap.size + 1, 0, none⟩) 1 1) 1 (wcs [xe]) := by
    have := World.ownsRow_lit (size := 3) (e := 34) (base := w.heap.size) (w.alloc OE) #[.string ⟨#[97]⟩, .string ⟨#[]⟩, .bool false] 1 (by omega) (by decide) rfl
    rw [z1] at this
    exact this
  have z2 : w.heap.size ≤ ((w.alloc OE).alloc OE).heap.size := by simp; omega
  refine wpList_append_own _ hg s x 26 ho w.heap.size 34 i0 _ 3 40 Tryz.underlying26 hi hz0 hz1 hz2 rfl (by decide) _ 1 (wcs [xe]) hs A1 ⟨w.heap.size + 1, 0, none⟩ 1 1 (wcs [xe]) hx rfl ?_ (wcs_one _) (by decide) (by decide) z2 ?_
  · intro j u hj
    have hadd : (⟨w.heap.size + 1, 0, none⟩ : Addr).add j = ⟨w.heap.size + 1, j, none⟩ := by unfold Addr.add; split <;> simp_all
    have hjl : j < (wcs [xe]).length := (List.getElem?_eq_some_iff.1 hj).1
    rw [wcs_length] at hjl
    rw [hadd, A2.cellAt j hjl]
    exact hj
  · intro v' w' h1 h2 _
    obtain ⟨ad, c, rfl⟩ := row_shape5 h1
    have h1' : w'.ownsRow w.heap.size 34 3 (.slice ad 2 c) [xe, xe].length (wcs [xe, xe]) := h1
    refine h ad c w' (hide (WrsAt.own h1')) ?_
    exact (((Below.refl _ _).alloc (Nat.le_refl _) _).trans (B2.mono (by omega))).trans (own_below A1 z2 h2)

theorem lit_bytes (w : World) : BytesIn (w.alloc LB) (.slice (some ⟨w.heap.size, 0, none⟩) 7 7) R := by
  have h := World.ownsRow_lit (size := 1) (e := 5) (base := 0) w #[.int .u8 1, .int .u8 1, .int .u8 0, .int .u8 1, .int .u8 97, .int .u8 1, .int .u8 49] 7 (Nat.zero_le _) (by decide) rfl
  exact bytes_of_own (l := R) h (by decide)

set_option maxRecDepth 100000 in
set_option maxHeartbeats 4000000 in
theorem walk (w : World) : Calls Tryz.prog 3 #[] w fun e w' => e = .returned (.bool true) ∧ Below w.heap.size w w' := by
  have LV := hide wlives_any
  have PT : Hid (∀ (wx : World) (k v : ByteArray), Calls Tryz.prog 9 #[.string k, .string v] wx fun e w' => e = .returned (.slice (some ⟨wx.heap.size, 0, none⟩) 1 1) ∧ w' = wx.alloc (.cells #[.string k, .string v, .bool false] 34)) := fun wx k v => lput_any wx k v
  have EN : Hid (∀ wx : World, Calls Tryz.prog 8 #[.agg #[.int .i64 1, .slice (some ⟨wx.heap.size, 0, none⟩) 1 1]] (wx.alloc O1) fun e w' => ∃ g n cap, e = .returned (.tuple #[.slice (some ⟨g, 0, none⟩) n cap, .int .i64 0]) ∧ Hid (BytesIn w' (.slice (some ⟨g, 0, none⟩) n cap) R) ∧ Below wx.heap.size wx w') := fun wx => by
    refine (encode_ok (wx.alloc O1) _ 1 1 1 Lv.l1 (one_write wx [97] [49] false) rfl (by decide) (by decide) Lv.c1 R hR).mono ?_
    rintro e w' ⟨g, n, cap, rfl, hn, ho, hb⟩
    refine ⟨g, n, cap, rfl, ?_, ((Below.refl _ _).alloc (Nat.le_refl _) _).trans (hb.mono (by simp))⟩
    have hn' := hn.out
    subst hn'
    exact hide (bytes_of_own ho.out (by decide))
  have NM : Hid (∀ wx : World, Calls Tryz.prog 10 #[.int .i64 7] wx fun e w' => e = .returned (.tuple #[.string ⟨#[119, 97, 108, 45, 48, 48, 48, 48, 48, 55]⟩, .int .i64 0]) ∧ Below wx.heap.size wx w') := fun wx => by
    have e : Wl.seg 7 = [119, 97, 108, 45, 48, 48, 48, 48, 48, 55] := by decide +kernel
    have := name_any wx 7 (by decide) (by decide)
    rw [e] at this
    exact this
  have NZ := hide wname_zero
  have CT : Hid (∀ (wx : World) ad c, Hid (WrsAt wx (.slice ad 2 c) [xe, xe]) → Calls Tryz.prog 11 #[.slice ad 2 c] wx fun e w' => e = .returned (.int .i64 9) ∧ Below wx.heap.size wx w') := fun wx ad c hw => check_any wx ad c 2 _ hw.out rfl (by decide) (by decide) 9 c3
  have CN : Hid (∀ wx : World, Calls Tryz.prog 11 #[.slice none 0 0] wx fun e w' => e = .returned (.int .i64 2) ∧ Below wx.heap.size wx w') := fun wx => check_any wx none 0 0 [] (WrsAt.nil _ _ _) rfl (by decide) (by simp) 2 c4
  have CB : Hid (∀ wx : World, Calls Tryz.prog 11 #[.slice (some ⟨wx.heap.size, 0, none⟩) 1 1] (wx.alloc OB) fun e w' => e = .returned (.int .i64 2) ∧ Below wx.heap.size wx w') := fun wx => by
    refine (check_any (wx.alloc OB) _ 1 1 _ (one_write wx [97] [98] true) rfl (by decide) (by decide) 2 c5).mono ?_
    rintro e w' ⟨rfl, hb⟩
    exact ⟨rfl, ((Below.refl _ _).alloc (Nat.le_refl _) _).trans (hb.mono (by simp))⟩
  have SB : Hid (∀ (wx : World) v, Hid (BytesIn wx v R) → Calls Tryz.prog 13 #[v, .slice (some ⟨wx.heap.size, 0, none⟩) 7 7] (wx.alloc LB) fun e w' => e = .returned (.bool true) ∧ Below wx.heap.size wx w') := fun wx v hv => by
    have hb : Below wx.heap.size wx (wx.alloc LB) := (Below.refl _ _).alloc (Nat.le_refl _) _
    refine (same_any (wx.alloc LB) v _ R R (hv.out.later hb) (lit_bytes wx)).mono ?_
    rintro e w' ⟨rfl, h⟩
    exact ⟨by simp, hb.trans (h.mono (by simp))⟩
  have LT : Hid (∀ wx wy v, Hid (BytesIn wx v R) → Below wx.heap.size wx wy → Hid (BytesIn wy v R)) := fun wx wy v h hb => hide (h.out.later hb)
  have NW : Hid (∀ wx : World, Calls Tryz.prog 14 #[.int .i64 10000] wx fun e w' => ∃ b, e = .returned (.tuple #[.pointer (some ⟨b, 0, none⟩), .int .i64 0]) ∧ FsIn wx.heap.size w'.heap.size w' b Lv.s0 ∧ Below wx.heap.size wx w') := fun wx => new_fs wx 10000 (by decide)
  have OP : Hid (∀ base wx b, FsIn base wx.heap.size wx b Lv.s0 → Calls Tryz.prog 15 #[.pointer (some ⟨b, 0, none⟩), .int .i64 1, .int .i64 0] wx fun e w' => ∃ c a k, e = .returned (.tuple #[.pointer (some ⟨c, 0, none⟩), .slice a 0 k, .int .i64 0]) ∧ WlIn base w' c b 0 1 Lv.s1 ∧ Below base wx w') := fun base wx b h => lopen wx base b h
  have A1 : Hid (∀ base wx c b, WlIn base wx c b 0 1 Lv.s1 → Calls Tryz.prog 16 #[.pointer (some ⟨c, 0, none⟩), .slice (some ⟨wx.heap.size, 0, none⟩) 1 1] (wx.alloc O1) fun e w' => e = .returned (.tuple #[.int .i64 1, .int .i64 0]) ∧ WlIn base w' c b 1 1 Lv.s2 ∧ Below base wx w') := fun base wx c b h => by
    have hb : Below wx.heap.size wx (wx.alloc O1) := (Below.refl _ _).alloc (Nat.le_refl _) _
    refine (append_ok (h.later hb) Lv.i1 Lv.on1 _ _ _ Lv.l1 (one_write wx [97] [49] false) rfl (by decide) (by decide) (by decide) Lv.c1 (by decide) (by have := Lv.t1; omega) Lv.f1 Lv.p1).mono ?_
    rintro e w' ⟨rfl, h1, h2⟩
    exact ⟨rfl, h1, (hb.mono h.low).trans h2⟩
  have A2 : Hid (∀ base wx c b, WlIn base wx c b 1 1 Lv.s2 → Calls Tryz.prog 16 #[.pointer (some ⟨c, 0, none⟩), .slice (some ⟨wx.heap.size, 0, none⟩) 1 1] (wx.alloc OD) fun e w' => e = .returned (.tuple #[.int .i64 2, .int .i64 0]) ∧ WlIn base w' c b 2 1 Lv.s3 ∧ Below base wx w') := fun base wx c b h => by
    have hb : Below wx.heap.size wx (wx.alloc OD) := (Below.refl _ _).alloc (Nat.le_refl _) _
    refine (append_ok (h.later hb) Lv.i2 Lv.on2 _ _ _ Lv.l2 (one_write wx [97] [] true) rfl (by decide) (by decide) (by decide) Lv.c2 (by decide) (by have := Lv.t2; omega) Lv.f2 Lv.p2).mono ?_
    rintro e w' ⟨rfl, h1, h2⟩
    exact ⟨rfl, h1, (hb.mono h.low).trans h2⟩
  have X2 : Hid (∀ base wx c b, WlIn base wx c b 2 1 Lv.s3 → Calls Tryz.prog 15 #[.pointer (some ⟨b, 0, none⟩), .int .i64 1, .int .i64 1] wx fun e w' => ∃ c v, e = .returned (.tuple #[.pointer (some ⟨c, 0, none⟩), v, .int .i64 0]) ∧ Op2 base w' c b v ∧ Below base wx w') := fun base wx c b h => nopen2 h
  have X3 : Hid (∀ base wx c b v, Op2 base wx c b v → Calls Tryz.prog 15 #[.pointer (some ⟨b, 0, none⟩), .int .i64 1, .int .i64 5] wx fun e w' => e = .returned (.tuple #[.pointer none, .slice none 0 0, .int .i64 6]) ∧ Op2 base w' c b v ∧ Below base wx w') := fun base wx c b v h => nopen3 h
  have X4 : Hid (∀ base wx c b v, Op2 base wx c b v → Calls Tryz.prog 15 #[.pointer (some ⟨b, 0, none⟩), .int .i64 2, .int .i64 2] wx fun e w' => ∃ c3 a k, e = .returned (.tuple #[.pointer (some ⟨c3, 0, none⟩), .slice a 0 k, .int .i64 0]) ∧ Op3 w' c b c3 v ∧ Below base wx w') := fun base wx c b v h => nopen4 h
  have SG : Hid (∀ wx c b c3 v, Op3 wx c b c3 v → Calls Tryz.prog 17 #[.pointer (some ⟨c, 0, none⟩)] wx fun e w' => e = .returned (.int .i64 2) ∧ w' = wx) := fun wx c b c3 v h => wsegment_any wx c b 2 2 h.x
  have SQ : Hid (∀ wx c b c3 v, Op3 wx c b c3 v → Calls Tryz.prog 18 #[.pointer (some ⟨c, 0, none⟩)] wx fun e w' => e = .returned (.int .i64 2) ∧ w' = wx) := fun wx c b c3 v h => wseq_any wx c b 2 2 h.x
  have SM : Hid (∀ wx c b c3 v, Op3 wx c b c3 v → Calls Tryz.prog 19 #[v, .slice (some ⟨wx.heap.size + 1, 0, none⟩) 1 1] ((wx.alloc OD).alloc (.cells #[.int .i64 2, .slice (some ⟨wx.heap.size, 0, none⟩) 1 1] 29)) fun e w' => e = .returned (.bool true) ∧ WalAt w' c3 b 2 3 false ∧ Below wx.heap.size wx w') := fun wx c b c3 v h => by
    have hb : Below wx.heap.size wx ((wx.alloc OD).alloc (.cells #[.int .i64 2, .slice (some ⟨wx.heap.size, 0, none⟩) 1 1] 29)) := ((Below.refl _ _).alloc (Nat.le_refl _) _).alloc (by simp) _
    refine (sameb_any _ v _ Lv.tail (h.told.later hb) (one_batch wx 2 [97] [] true) (by decide) (by decide)).mono ?_
    rintro e w' ⟨rfl, h1⟩
    have h2 : Below wx.heap.size wx w' := hb.trans (h1.mono hb.size)
    exact ⟨rfl, h.z.later h2, h2⟩
  have SZ : Hid (∀ wx c3 b, WalAt wx c3 b 2 3 false → Calls Tryz.prog 18 #[.pointer (some ⟨c3, 0, none⟩)] wx fun e w' => e = .returned (.int .i64 2) ∧ w' = wx) := fun wx c3 b h => wseq_any wx c3 b 2 3 h
  go_enter Tryz.func3, Tryz.ntmps3
  go_wp2_with (first
    | (go_at_call 9; refine still2 (PT.out _ _ _) ?_)
    | (go_at_call 8; refine (EN.out _).mono ?_; rintro e w1 ⟨g1, n1, k1, rfl, E1, b1⟩; clear EN)
    | (go_at_call 10; refine (NM.out _).mono ?_; rintro e w2 ⟨rfl, b2⟩; clear NM)
    | (go_at_call 10; refine still (NZ.out _) ?_; clear NZ)
    | (at_builtin; refine names_append rfl _ _ rfl _ (by rfl) (by first | rfl | simp) ?_; intro ad3 k3 w3 W3 b3; have C3 := b2.trans (b3.mono b2.size))
    | (go_at_call 11; refine (CT.out _ _ _ W3).mono ?_; rintro e w4 ⟨rfl, b4⟩; have C4 := C3.trans (b4.mono C3.size); clear CT)
    | (go_at_call 11; refine (CN.out _).mono ?_; rintro e w5 ⟨rfl, b5⟩; have C5 := C4.trans (b5.mono C4.size); clear CN)
    | (go_at_call 11; refine (CB.out _).mono ?_; rintro e w6 ⟨rfl, b6⟩; have C6 := C5.trans (b6.mono C5.size); clear CB)
    | (go_at_call 12; refine (LV.out _).mono ?_; rintro e w7 ⟨rfl, b7⟩; have C7 := C6.trans (b7.mono C6.size); clear LV; have E7 := LT.out _ _ _ E1 C7)
    | (go_at_call 13; refine (SB.out _ _ E7).mono ?_; rintro e w8 ⟨rfl, b8⟩; have C8 := C7.trans (b8.mono C7.size); have D8 := b1.trans (C8.mono b1.size); clear SB LT)
    | (go_at_call 14; refine (NW.out _).mono ?_; rintro e w9 ⟨b, rfl, f9, b9⟩; have D9 := D8.trans (b9.mono D8.size); clear NW)
    | (go_at_call 15; refine (OP.out _ _ _ f9).mono ?_; rintro e w10 ⟨c, a10, k10, rfl, f10, b10⟩; have D10 := D9.trans (b10.mono D8.size); clear OP f9)
    | (go_at_call 16; refine (A1.out _ _ _ _ f10).mono ?_; rintro e w11 ⟨rfl, f11, b11⟩; have D11 := D10.trans (b11.mono D8.size); clear A1 f10)
    | (go_at_call 16; refine (A2.out _ _ _ _ f11).mono ?_; rintro e w12 ⟨rfl, f12, b12⟩; have D12 := D11.trans (b12.mono D8.size); clear A2 f11)
    | (go_at_call 15; refine (X2.out _ _ _ _ f12).mono ?_; rintro e w13 ⟨cx, vx, rfl, f13, b13⟩; have D13 := D12.trans (b13.mono D8.size); clear X2 f12)
    | (go_at_call 15; refine (X3.out _ _ _ _ _ f13).mono ?_; rintro e w14 ⟨rfl, f14, b14⟩; have D14 := D13.trans (b14.mono D8.size); clear X3 f13)
    | (go_at_call 15; refine (X4.out _ _ _ _ _ f14).mono ?_; rintro e w15 ⟨cz, a15, k15, rfl, f15, b15⟩; have D15 := D14.trans (b15.mono D8.size); clear X4 f14)
    | (go_at_call 17; refine still (SG.out _ _ _ _ _ f15) ?_; clear SG)
    | (go_at_call 18; have tok := SQ; refine still (SQ.out _ _ _ _ _ f15) ?_; clear SQ tok)
    | (go_at_call 19; refine (SM.out _ _ _ _ _ f15).mono ?_; rintro e w16 ⟨rfl, z16, b16⟩; have D16 := D15.trans (b16.mono D15.size); clear SM)
    | (go_at_call 18; have tok := SZ; refine still (SZ.out _ _ _ z16) ?_; clear SZ tok))
  go_ret
  exact ⟨rfl, D16⟩
end Go.Proofs.YtppfkhpofbbnbaaGreatDoor.walNames
