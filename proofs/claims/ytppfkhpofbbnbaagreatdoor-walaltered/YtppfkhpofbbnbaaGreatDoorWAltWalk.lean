/-
  The walk of WalAltered: batches are appended to one segment, a burst within one frame is laid upon it byte by byte, and the log is refused.
-/
import Derived.Test.YtppfkhpofbbnbaaGreatDoorWE
import Derived.Test.YtppfkhpofbbnbaaGreatDoorCB
namespace Go.Proofs.YtppfkhpofbbnbaaGreatDoor.walAltered
open Go.ChangeShapes Go.WideShapes Go.ChangeAt Go.RowKit Go.Maps Go.Sort Go.Shelf

set_option maxRecDepth 100000 in
set_option maxHeartbeats 2000000 in
theorem walk_off (w : World) (a : Option Addr) (n c : Nat) (wh at' : Int) (bits : Nat) (h : n = 0 ∨ 30 < n ∨ bits = 0) :
    Calls Tryz.prog 7 #[.slice a n c, .int .i64 wh, .int .i64 at', .int .u32 (bits : Int)] w fun e w' => e = .returned (.bool true) ∧ Below w.heap.size w w' := by
  have LV := hide wlives_any
  by_cases h0 : n = 0
  · subst h0
    clear h
    go_enter Tryz.func7, Tryz.ntmps7
    go_wp2_with (go_at_call 12; refine (LV.out _).mono ?_; rintro e w1 ⟨rfl, B1⟩)
    go_ret
    exact ⟨rfl, B1⟩
  · have i0 : ((n : Int) == 0) = false := by simp; omega
    by_cases h1 : 30 < n
    · have i1 : (n : Int) > 30 := by omega
      clear h h0
      go_enter Tryz.func7, Tryz.ntmps7
      go_wp2_with (go_at_call 12; refine (LV.out _).mono ?_; rintro e w1 ⟨rfl, B1⟩)
      go_ret
      exact ⟨rfl, B1⟩
    · have i1 : ¬ (n : Int) > 30 := by omega
      obtain rfl : bits = 0 := by omega
      clear h h0
      go_enter Tryz.func7, Tryz.ntmps7
      go_wp2_with (go_at_call 12; refine (LV.out _).mono ?_; rintro e w1 ⟨rfl, B1⟩)
      go_ret
      exact ⟨rfl, B1⟩

theorem cell_blk {w w' : World} {g i : Nat} (h : w'.heap[g]? = w.heap[g]?) : w'.cell? ⟨g, i, none⟩ = w.cell? ⟨g, i, none⟩ := by
  simp only [World.cell?]
  show (match w'.heap[g]? with | _ => _) = (match w.heap[g]? with | _ => _)
  rw [h]
theorem alt_xor (x y : UInt8) : Go.bits .xor .u8 (x.toNat : Int) (y.toNat : Int) = ((x ^^^ y).toNat : Int) := by
  rw [u8_xor_nat _ _ (UInt8.toNat_lt x) (UInt8.toNat_lt y), UInt8.toNat_xor]
theorem bc_cell {w : World} {base g n cap : Nat} {l : List UInt8} (h : w.ownsRow base 5 1 (.slice (some ⟨g, 0, none⟩) n cap) n (bc l)) (i : Nat) (hi : i < l.length) (hn : i < n) : w.cell? ⟨g, i, none⟩ = some (.int .u8 (l[i].toNat : Int)) := by
  rw [h.cellAt i (by omega)]
  unfold bc
  rw [List.getElem?_map, List.getElem?_eq_getElem hi]
  rfl

set_option maxRecDepth 100000 in
set_option maxHeartbeats 8000000 in
theorem walk_on (w : World) (b0 off0 n c0 : Nat) (wh at' : Int) (bits : Nat) (l : List (List Wl.Wr)) (hn : n = l.length) (hn1 : 1 ≤ n) (hn2 : n ≤ 30) (hb' : bits < 4294967296) (hb0 : bits ≠ 0) (ha : at' ≤ 9223372036854775807) (hw1 : -9223372036854775808 ≤ wh) (hw2 : wh ≤ 9223372036854775807)
    (harg : ∀ j, j < n → ∃ x c, w.cell? ⟨b0, off0 + j, none⟩ = some (.slice x (l.getD j []).length c) ∧ WrsAt w (.slice x (l.getD j []).length c) (l.getD j [])) (hlen : ∀ j, j < n → (l.getD j []).length ≤ maxLen) :
    Calls Tryz.prog 7 #[.slice (some ⟨b0, off0, none⟩) n c0, .int .i64 wh, .int .i64 at', .int .u32 (bits : Int)] w fun e w' => e = .returned (.bool true) ∧ Below w.heap.size w w' := by
  have LV := hide wlives_any
  have i0 : ((n : Int) == 0) = false := by simp; omega
  have i1 : ¬ (n : Int) > 30 := by omega
  have i2 : ((bits : Int) == 0) = false := by simp; omega
  have NW : Hid (∀ wx : World, Calls Tryz.prog 14 #[.int .i64 16777216] wx fun e w' => ∃ b, e = .returned (.tuple #[.pointer (some ⟨b, 0, none⟩), .int .i64 0]) ∧ FsIn wx.heap.size w'.heap.size w' b Alt.z0 ∧ Below wx.heap.size wx w') := fun wx => new_fs wx 16777216 (by decide)
  have OP : Hid (∀ base wx b, FsIn base wx.heap.size wx b Alt.z0 → Calls Tryz.prog 15 #[.pointer (some ⟨b, 0, none⟩), .int .i64 1, .int .i64 0] wx fun e w' => ∃ c a k, e = .returned (.tuple #[.pointer (some ⟨c, 0, none⟩), .slice a 0 k, .int .i64 0]) ∧ WlK (fun _ => False) base w' c b 0 1 Alt.z1 ∧ Below base wx w') := fun base wx b h => aopen wx base b h
  have ARG : Hid (∀ wx, Below w.heap.size w wx → ∀ j, j < n → ∃ x m c, Hid (m = (l.getD j []).length) ∧ wx.cell? ⟨b0, off0 + j, none⟩ = some (.slice x m c) ∧ Hid (WrsAt wx (.slice x m c) (l.getD j []))) := fun wx hw j hj => by
    obtain ⟨x, c, h1, h2⟩ := harg j hj
    exact ⟨x, _, c, hide rfl, keepC hw h1, hide (h2.later hw)⟩
  have HLEN := hide hlen
  have HN := hide hn
  have HB0 := hide hb0
  clear harg hlen hn hb0
  go_enter Tryz.func7, Tryz.ntmps7
  go_wp2_with (first
    | (go_at_call 12; refine (LV.out _).mono ?_; rintro e w1 ⟨rfl, B1⟩; clear LV)
    | (go_at_call 14; refine (NW.out _).mono ?_; rintro e w2 ⟨b, rfl, f2, b2⟩; have B2 := B1.trans (b2.mono B1.size); clear NW)
    | (go_at_call 15; refine (OP.out _ _ _ f2).mono ?_; rintro e w3 ⟨c, a3, k3, rfl, f3, b3⟩; have B3 := B2.trans (b3.mono B1.size); clear OP f2))
  have F0 : L1 w w1.heap.size l (w3.alloc (.cells #[.int .i64 0] 3)) c b 0 w3.heap.size 1 := L1.first f3 B3
  have hbase := B1.size
  clear f3 B1 B2 B3 b2 b3
  go_loopw [15, 14] (fun i v wr => ∃ j ge ce : Nat, j ≤ n ∧ i = .int .i64 j ∧ v = .slice (some ⟨ge, 0, none⟩) (j + 1) ce ∧ L1 w w1.heap.size l wr c b j ge ce) (fun i _ _ => n - (intOf i).toNat)
  case atStart => exact ⟨0, _, _, Nat.zero_le _, rfl, rfl, F0⟩
  case round =>
    obtain ⟨j, ge, ce, hj, rfl, rfl, F⟩ := hrel
    clear F0
    by_cases hlt : j < n
    · obtain ⟨x, m, cx, HM, cl, WA⟩ := ARG.out _ F.below j hlt
      have fb := hide F.below
      by_cases g70 : (m : Int) > 70
      · clear WA HM ARG HLEN F
        go_wp2_with (fail)
        go_ret
        exact ⟨rfl, fb.out⟩
      · obtain ⟨B, hB⟩ : ∃ B, B = (l.getD j []).all lightOne := ⟨_, rfl⟩
        have LT := hide (light_any wr x cx m _ WA.out HM.out (by omega) B hB)
        cases B with
        | false =>
          clear WA HM ARG HLEN F hB
          go_wp2_with (go_at_call 20; refine still LT.out ?_)
          go_ret
          exact ⟨rfl, fb.out⟩
        | true =>
          have HK : ∀ y ∈ l.getD j [], y.key.length ≤ 1000000 ∧ y.value.length ≤ 1000000 := fun y hy => by
            have := List.all_eq_true.1 hB.symm y hy
            unfold lightOne at this
            simp only [Bool.and_eq_true, Bool.or_eq_true, decide_eq_true_eq] at this
            omega
          obtain ⟨hok, hdl⟩ := Alt.ok_st l j (by omega) F.good
          have hst := hok.steps
          by_cases hck : Wl.checkE (l.getD j []) = 0
          · have hf := Alt.frB_len (q := j + 1) (by omega) hck
            have hput := hok.put hf (by omega)
            have hleft := hok.left
            have good' : ∀ k, k < j + 1 → Wl.checkE (l.getD k []) = 0 := fun k hk => by
              rcases Nat.lt_or_ge k j with h | h
              · exact F.good k h
              · obtain rfl : k = j := by omega
                exact hck
            have hok' := (Alt.ok_st l (j + 1) (by omega) good').1
            have AP : Hid (Calls Tryz.prog 16 #[.pointer (some ⟨c, 0, none⟩), .slice x m cx] wr fun e w' => e = .returned (.tuple #[.int .i64 ((j : Int) + 1), .int .i64 0]) ∧ WlK (fun i => i = ge) w1.heap.size w' c b (j + 1) 1 (Alt.st l (j + 1)) ∧ Below w1.heap.size wr w' ∧ ∀ i, i = ge → w'.heap[i]? = wr.heap[i]?) := append_k F.log hok.calm.inv hok.calm.on x m cx _ WA.out HM.out HK (by decide) (by decide) hck (by omega) (by omega) (by omega) hput.1
            have RD : Hid (∀ wx, WlK (fun i => i = ge) w1.heap.size wx c b (j + 1) 1 (Alt.st l (j + 1)) → Calls Tryz.prog 35 #[.pointer (some ⟨b, 0, none⟩), .string ⟨#[119, 97, 108, 45, 48, 48, 48, 48, 48, 49]⟩] wx fun e w' => ∃ a N k, e = .returned (.tuple #[.slice a N k, .int .i64 0]) ∧ Hid (N = (Alt.dat l (j + 1)).length) ∧ Below wx.heap.size wx w') := fun wx hx => by
              have e : Wl.seg 1 = [119, 97, 108, 45, 48, 48, 48, 48, 48, 49] := by decide +kernel
              have := read_k hx hok' (by omega)
              rw [e] at this
              refine this.mono ?_
              rintro e w' ⟨v', rfl, o, b'⟩
              obtain ⟨a, k, rfl⟩ := row_shape5 o
              exact ⟨a, _, k, rfl, hide rfl, b'⟩
            have FE := hide F.ends
            have HG := hide good'
            clear WA HM ARG HLEN F hB HK hok hdl hst hck hf hput hleft good' hok'
            go_wp2_with (first
              | (go_at_call 20; refine still LT.out ?_; clear LT)
              | (go_at_call 16; refine AP.out.mono ?_; rintro e w5 ⟨rfl, K5, b5, s5⟩; have E5 := hide (ownsRow_same FE.out (fun g hg => by simp [Value.ownBlock] at hg; exact s5 g hg.symm)); have D5 := hide (fb.out.trans (b5.mono hbase)); clear AP s5)
              | (go_at_call 35; refine (RD.out _ K5).mono ?_; rintro e w6 ⟨a6, N6, k6, rfl, H6, b6⟩; clear RD)
              | (at_builtin; refine ends_append rfl _ _ rfl w w1.heap.size l w5 _ c b j ge ce N6 H6 (by omega) K5 HG.out E5.out D5.out hbase b6 rfl rfl ?_; intro g7 c7 w7 F7))
            exact ⟨⟨j + 1, g7, c7, by omega, by go_num, rfl, F7⟩, by simp [intOf]; omega⟩
          · obtain ⟨E, hE⟩ : ∃ E, E = Wl.checkE (l.getD j []) := ⟨_, rfl⟩
            have hE0 : E ≠ 0 := by rw [hE]; exact hck
            obtain ⟨S, hr, _⟩ := F.log.rep
            have AB := hide (walAppend_bad wr c b j 1 (Alt.st l j) S hr F.log.wal hok.calm.on x m cx _ WA.out HM.out HK (by omega) E hE hE0)
            have CK : Hid (∀ wx, Below wr.heap.size wr wx → Calls Tryz.prog 11 #[.slice x m cx] wx fun e w' => e = .returned (.int .i64 E) ∧ Below wx.heap.size wx w') := fun wx hx => check_any wx x cx m _ (WA.out.later hx) HM.out (by omega) HK E hE
            have iE : (E != 0) = true := by simpa using hE0
            clear WA HM ARG HLEN F hB HK hok hdl hst hck hE hE0 hr
            go_wp2_with (first
              | (go_at_call 20; refine still LT.out ?_; clear LT)
              | (go_at_call 16; refine AB.out.mono ?_; rintro e w5 ⟨rfl, b5⟩; have cl5 := keepC b5 cl; clear AB)
              | (go_at_call 11; refine (CK.out _ b5).mono ?_; rintro e w6 ⟨rfl, b6⟩; clear CK))
            go_ret
            have B5 := fb.out.trans (b5.mono fb.out.size)
            exact ⟨by simp, B5.trans (b6.mono B5.size)⟩
    · obtain rfl : j = n := by omega
      obtain ⟨hok, hdl⟩ := Alt.ok_st l j hn2 F.good
      have fb := hide F.below
      have hD0 : 0 < (Alt.dat l j).length := by
        obtain ⟨i, rfl⟩ : ∃ i, j = i + 1 := ⟨j - 1, by omega⟩
        show 0 < (Alt.dat l i ++ frB (i + 1) (l.getD i [])).length
        rw [List.length_append]
        unfold frB
        rw [frm_length]
        omega
      have RD : Hid (Calls Tryz.prog 35 #[.pointer (some ⟨b, 0, none⟩), .string ⟨#[119, 97, 108, 45, 48, 48, 48, 48, 48, 49]⟩] wr fun e w' => ∃ g N k, e = .returned (.tuple #[.slice (some ⟨g, 0, none⟩) N k, .int .i64 0]) ∧ Hid (N = (Alt.dat l j).length) ∧ Hid (w'.ownsRow wr.heap.size 5 1 (.slice (some ⟨g, 0, none⟩) N k) N (bc (Alt.dat l j))) ∧ Below wr.heap.size wr w') := by
        have e : Wl.seg 1 = [119, 97, 108, 45, 48, 48, 48, 48, 48, 49] := by decide +kernel
        have := read_k F.log hok (by omega)
        rw [e] at this
        refine this.mono ?_
        rintro e w' ⟨v', rfl, o, b'⟩
        have o' := o
        rcases o'.2 with ⟨_, h0⟩ | ⟨g, cap, cur, rfl, _⟩
        · omega
        · exact ⟨g, _, cap, rfl, hide rfl, hide o, b'⟩
      have PK := hide (fun wx => pick_any wx wh j hn1 (by omega) hw1 hw2)
      have HF := hide F
      have HOK := hide hok
      have HDL := hide hdl
      clear F hok hdl hD0 ARG HLEN
      go_wp2_with (first
        | (go_at_call 35; refine RD.out.mono ?_; rintro e w4 ⟨g4, N4, k4, rfl, H4, O4, b4⟩; clear RD)
        | (go_at_call 36; refine (PK.out _).mono ?_; rintro e w5 ⟨k, hk, rfl, rfl⟩; clear PK))
      have E4 := hide (own_after HF.out.ends b4)
      have l1 : k ≤ j := by omega
      obtain ⟨ek, hek⟩ : ∃ ek, ek = (Alt.dat l k).length := ⟨_, rfl⟩
      obtain ⟨fk, hfk⟩ : ∃ fk, fk = (frB (k + 1) (l.getD k [])).length := ⟨_, rfl⟩
      have hek1 : (Alt.dat l (k + 1)).length = ek + fk := by rw [hek, hfk]; show (Alt.dat l k ++ _).length = _; rw [List.length_append]
      obtain ⟨t, ht⟩ := Alt.dat_pre l (k + 1) j hk
      have hN4 : ek + fk ≤ N4 := by rw [H4.out, ht, List.length_append, hek1]; omega
      have hcap : N4 ≤ k4 := (own_cap O4.out).1
      have P1 : w5.drew.cell? ⟨ge, k, none⟩ = some (.int .i64 (ek : Int)) ∧ w5.drew.cell? ⟨ge, k + 1, none⟩ = some (.int .i64 ((ek + fk : Nat) : Int)) := by
        have c1 := E4.out.cellAt k (by omega)
        have c2 := E4.out.cellAt (k + 1) (by omega)
        refine ⟨c1.trans ?_, c2.trans ?_⟩
        · unfold endsL; rw [List.getElem?_map, List.getElem?_range (by omega), hek]; rfl
        · unfold endsL; rw [List.getElem?_map, List.getElem?_range (by omega), ← hek1]; rfl
      obtain ⟨S, hS⟩ : ∃ S, S = frB (k + 1) (l.getD k []) := ⟨_, rfl⟩
      have hD4 : Alt.dat l j = Alt.dat l k ++ (S ++ t) := by rw [ht, hS, ← List.append_assoc]; rfl
      have SB : Hid (∀ wx c', Below w5.heap.size w5 wx → BytesIn wx (.slice (some ⟨g4, ek, none⟩) fk c') S) := fun wx c' hx => by
        have ho := own_after O4.out hx
        rw [← hS] at hfk
        refine ⟨⟨_, c', by rw [hfk], fun _ => ⟨g4, ek, rfl, fun i hi => ?_⟩⟩, by have := HDL.out; have := H4.out; omega⟩
        rw [ho.cellAt (ek + i) (by omega), hD4]
        unfold bc
        rw [List.getElem?_map, List.getElem?_append_right (by omega)]
        have e : ek + i - (Alt.dat l k).length = i := by omega
        rw [e, List.getElem?_append_left hi, List.getElem?_eq_getElem hi]
        rfl
      have CE : Hid (∀ wx, Below w5.heap.size w5 wx → wx.cell? ⟨ge, k, none⟩ = some (.int .i64 (ek : Int)) ∧ wx.cell? ⟨ge, k + 1, none⟩ = some (.int .i64 ((ek + fk : Nat) : Int))) := fun wx hx => ⟨keepC hx P1.1, keepC hx P1.2⟩
      obtain ⟨e1, he1⟩ : ∃ e1, e1 = ek + fk := ⟨_, rfl⟩
      have q1 : ek ≤ e1 := by omega
      have q2 : e1 ≤ N4 := by omega
      have q3 : e1 - ek = fk := by omega
      have HQ3 := hide q3
      have r1 : (0 : Int) ≤ (k : Int) := by omega
      have r2 : (k : Int) ≤ (j : Int) := by omega
      have r3 : (k : Int) < (j : Int) + 1 := by omega
      have r4 : (0 : Int) ≤ (k : Int) + 1 := by omega
      have r5 : (k : Int) + 1 < (j : Int) + 1 := by omega
      have r6 : (k : Int) + 1 ≤ (j : Int) := by omega
      have r7 : IntKind.i64.wrap ((k : Int) + 1) = (k : Int) + 1 := by rw [IntKind.wrap_i64]; omega
      have r8 : (0 : Int) ≤ (ek : Int) := by omega
      have r9 : (ek : Int) ≤ (e1 : Int) := by omega
      have r10 : (e1 : Int) ≤ (k4 : Int) := by omega
      have r11 : (e1 : Int) ≤ (N4 : Int) := by omega
      have hfk0 : 12 ≤ fk := by rw [hfk]; unfold frB; rw [frm_length]; omega
      have r12 : ¬ k4 = ek := by omega
      rw [← he1] at P1 CE
      have B5 := hide (fb.out.trans (b4.mono fb.out.size))
      cases hB : burB S at' bits with
      | false =>
        have BU : Hid (∀ wx o' n' c', Below w5.heap.size w5 wx → o' = ek → n' = fk → Calls Tryz.prog 37 #[.slice (some ⟨g4, o', none⟩) n' c', .int .i64 at', .int .u32 (bits : Int)] wx fun e w' => ∃ v, e = .returned (.tuple #[v, .int .i64 2]) ∧ Below wx.heap.size wx w') := fun wx o' n' c' hx ho hn => by
          subst ho
          have hb := SB.out wx c' hx
          have hl : n' = S.length := by rw [hn, hfk, hS]
          subst hl
          rw [hn.symm] at hb
          refine (burst_any wx _ c' S at' bits hb ha hb').mono ?_
          rintro e w' ⟨v, rfl, hx⟩
          have e1 : burE S at' bits = 2 := by unfold burE; rw [hB]; rfl
          rw [e1]
          exact ⟨v, rfl, hx.below (Nat.le_refl _) (by simp [Value.ownBlock])⟩
        clear SB hB hS hD4 ht hek hfk hek1 he1 hN4 q3
        go_region_held3 (fun w' => w'.cell? ⟨ge, k, none⟩ = some (.int .i64 (ek : Int)) ∧ w'.cell? ⟨ge, k + 1, none⟩ = some (.int .i64 (e1 : Int)))
          (first | exact P1 | exact P2)
          (first | (go_at_call 37; go_loud (refine (BU.out _ _ _ _ (Below.refl _ _).drew rfl HQ3.out).mono ?_; rintro e w6 ⟨v6, rfl, b6⟩; have D6 := hide ((Below.refl _ w5).drew.trans (b6.mono (Nat.le_refl _))); have P2 := CE.out _ D6.out)))
        go_wp2_with (fail)
        go_ret
        exact ⟨rfl, B5.out.trans (D6.out.mono B5.out.size)⟩
      | true =>
        have h0 : 0 ≤ at' := by
          rcases Int.lt_or_le at' 0 with h | h
          · rw [burB_neg h] at hB; cases hB
          · exact h
        obtain ⟨p, rfl⟩ : ∃ p : Nat, at' = p := ⟨at'.toNat, by omega⟩
        obtain ⟨X, hX⟩ : ∃ X, X = Crc.burst S p bits 32 := ⟨_, rfl⟩
        have lS : S.length = fk := by rw [hfk, hS]
        have lX : X.length = fk := by rw [hX, Crc.burst_length, lS]
        have e1' : burE S p bits = 0 := by unfold burE; rw [hB]; rfl
        have e2 : burL S p bits = X := by unfold burL; rw [hX, hB, Int.toNat_natCast]; rfl
        have BU : Hid (∀ wx o' n' c', Below w5.heap.size w5 wx → o' = ek → n' = fk → Calls Tryz.prog 37 #[.slice (some ⟨g4, o', none⟩) n' c', .int .i64 (p : Int), .int .u32 (bits : Int)] wx fun e w' => ∃ g c, e = .returned (.tuple #[.slice (some ⟨g, 0, none⟩) fk c, .int .i64 0]) ∧ Hid (w'.ownsRow wx.heap.size 5 1 (.slice (some ⟨g, 0, none⟩) fk c) fk (bc X)) ∧ Below wx.heap.size wx w') := fun wx o' n' c' hx ho hn => by
          subst ho
          have hb := SB.out wx c' hx
          have hl : n' = S.length := by rw [hn, lS]
          subst hl
          rw [hn.symm] at hb
          refine (burst_any wx _ c' S p bits hb ha hb').mono ?_
          rintro e w' ⟨v, rfl, hx⟩
          rw [e1']
          rw [e2] at hx
          obtain ⟨g', c', rfl⟩ := hx.some (by intro e; rw [e] at lX; simp at lX; omega)
          have ho := hx.own
          rw [lX] at ho ⊢
          exact ⟨g', c', rfl, hide ho, hx.below (Nat.le_refl _) (by simp [Value.ownBlock])⟩
        have hnone : Wl.segB (Alt.dat l k ++ (X ++ t)) = none := by
          rw [hX, hS]
          exact Alt.altered_none l k (by omega) (fun i hi => HF.out.good i (by omega)) p bits hb' HB0.out (by rw [← hS]; exact (burB_iff S p bits).mp hB) t
        have HNONE := hide hnone
        have HD4 := hide hD4
        have HEK := hide hek
        have HLS := hide lS
        have HLX := hide lX
        clear SB hB hS hD4 ht hek hfk hek1 he1 hN4 q3 hX lS lX e1' e2 hnone h0
        go_region_held3 (fun w' => w'.cell? ⟨ge, k, none⟩ = some (.int .i64 (ek : Int)) ∧ w'.cell? ⟨ge, k + 1, none⟩ = some (.int .i64 (e1 : Int)))
          (first | exact P1 | exact P2)
          (first | (go_at_call 37; refine (BU.out _ _ _ _ (Below.refl _ _).drew rfl HQ3.out).mono ?_; rintro e w6 ⟨g6, c6, rfl, O6, b6⟩; have D6 := hide ((Below.refl _ w5).drew.trans (b6.mono (Nat.le_refl _))); have P2 := CE.out _ D6.out))
        go_wp2_with (fail)
        have z4 := O4.out.lt g4 rfl
        have z6 := O6.out.lt g6 rfl
        have z6' : w5.heap.size ≤ g6 := z6.1
        obtain ⟨P, hP⟩ : ∃ P : Nat → Prop, P = fun i => i = ge ∨ i = g4 ∨ i = g6 := ⟨_, rfl⟩
        have p1 : P ge := by rw [hP]; exact .inl rfl
        have p2 : P g4 := by rw [hP]; exact .inr (.inl rfl)
        have p3 : P g6 := by rw [hP]; exact .inr (.inr rfl)
        have K5 : WlK (fun i => i = ge ∨ i = g4) w1.heap.size w5 c b j 1 (Alt.st l j) := HF.out.log.add b4 (fun i hi => hi.imp id (fun e => by subst e; exact z4))
        have K6 : WlK P w1.heap.size w6 c b j 1 (Alt.st l j) := K5.add D6.out (fun i hi => by
          rw [hP] at hi
          rcases hi with e | e | e
          · exact .inl (.inl e)
          · exact .inl (.inr e)
          · subst e; exact .inr ⟨z6', z6.2⟩)
        have F2 : L2 P w1.heap.size w w6 w6 c b j (2 + 5000 * j) (Alt.dat l k) X S t 0 := ⟨⟨_, K6, by have o := HOK.out; rw [HD4.out] at o; exact o⟩, B5.out.trans (D6.out.mono B5.out.size), fun _ _ => rfl⟩
        have XC : Hid (∀ wx : World, (∀ r, P r → wx.heap[r]? = w6.heap[r]?) → ∀ i (h1 : i < X.length) (h2 : i < S.length), wx.cell? ⟨g6, i, none⟩ = some (.int .u8 (X[i].toNat : Int)) ∧ wx.cell? ⟨g4, ek + i, none⟩ = some (.int .u8 (S[i].toNat : Int)) ∧ wx.cell? ⟨ge, k, none⟩ = some (.int .i64 (ek : Int))) := fun wx hs i h1 h2 => by
          have ls := HLS.out
          have lx := HLX.out
          refine ⟨(cell_blk (hs g6 p3)).trans (bc_cell O6.out i h1 (by omega)), (cell_blk (hs g4 p2)).trans ?_, (cell_blk (hs ge p1)).trans P2.1⟩
          have o4 := own_after O4.out D6.out
          have hd := HD4.out
          have hk' := HEK.out
          have hlt : ek + i < (Alt.dat l j).length := by rw [hd, List.length_append, List.length_append]; omega
          rw [bc_cell o4 (ek + i) hlt (by rw [H4.out]; exact hlt)]
          have : (Alt.dat l j)[ek + i]? = some S[i] := by
            rw [hd, List.getElem?_append_right (by omega)]
            have e : ek + i - (Alt.dat l k).length = i := by omega
            rw [e, List.getElem?_append_left h2, List.getElem?_eq_getElem h2]
          rw [List.getElem?_eq_getElem hlt] at this
          rw [Option.some.inj this]
        have r13 : ek + fk ≤ N4 := by have := HQ3.out; omega
        have fkb : fk ≤ 10000000 := by have := HDL.out; have := H4.out; omega
        clear K5 K6 hP z4 z6 z6' HF P1 P2 CE BU O6 E4
        go_loopw [22] (fun v wr2 => ∃ i : Nat, i ≤ fk ∧ v = .int .i64 i ∧ L2 P w1.heap.size w w6 wr2 c b j (2 + 5000 * j) (Alt.dat l k) X S t i) (fun v _ => fk - (intOf v).toNat)
        case atStart => exact ⟨0, Nat.zero_le _, rfl, F2⟩
        case round =>
          obtain ⟨i, hi, rfl, F⟩ := hrel
          clear F2
          have fb2 := hide F.below
          by_cases hlt : i < fk
          · have iS : i < S.length := by rw [HLS.out]; exact hlt
            have iX : i < X.length := by rw [HLX.out]; exact hlt
            obtain ⟨cx, cb, cc⟩ := XC.out _ F.same i iX iS
            have XB := alt_xor X[i] S[i]
            have u1 : (0 : Int) ≤ (i : Int) := by omega
            have u2 : (i : Int) < (fk : Int) := by omega
            have u3 : IntKind.i64.wrap ((ek : Int) + (i : Int)) = (ek : Int) + (i : Int) := by rw [IntKind.wrap_i64]; have := HDL.out; have := H4.out; omega
            have u4 : (0 : Int) ≤ (ek : Int) + (i : Int) := by omega
            have u5 : (ek : Int) + (i : Int) < (N4 : Int) := by omega
            have AL : Hid (∀ wx, Below wr.heap.size wr wx → Calls Tryz.prog 38 #[.pointer (some ⟨b, 0, none⟩), .string ⟨#[119, 97, 108, 45, 48, 48, 48, 48, 48, 49]⟩, .int .i64 ((ek : Int) + (i : Int)), .int .u8 ((X[i] ^^^ S[i]).toNat : Int)] wx fun e w' => e = .returned (.int .i64 0) ∧ L2 P w1.heap.size w w6 w' c b j (2 + 5000 * j) (Alt.dat l k) X S t (i + 1)) := fun wx hx => by
              rw [HEK.out]
              exact (F.later hx).alter (by rw [HLX.out, HLS.out]) iS (by omega) hbase
            have SK : Hid (X[i] = S[i] → ∀ wx, Below wr.heap.size wr wx → L2 P w1.heap.size w w6 wx c b j (2 + 5000 * j) (Alt.dat l k) X S t (i + 1)) := fun he wx hx => F.skip (by rw [HLX.out, HLS.out]) iS he hx
            by_cases he : X[i] = S[i]
            · have SK' := hide (SK.out he)
              have hz : (X[i] ^^^ S[i]).toNat = 0 := by rw [he, UInt8.xor_self]; rfl
              rw [hz] at XB
              generalize X[i].toNat = xn at cx XB
              generalize S[i].toNat = sn at cb XB
              clear AL SK he hz XC F iS iX
              go_wp2_with (fail)
              go_quiet (fail)
              go_wp2_with (fail)
              go_roundw
              case rel => exact ⟨i + 1, by omega, by go_num, SK'.out _ (below_drewN (Below.refl _ _) _)⟩
              case measure => simp [intOf]; omega
            · have hz : (X[i] ^^^ S[i]).toNat ≠ 0 := fun h => he (by
                have h0 : X[i] ^^^ S[i] = 0 := UInt8.toNat_inj.mp h
                have := Alt.xor_back X[i] S[i]
                rw [h0, UInt8.xor_zero] at this
                exact this.symm)
              generalize (X[i] ^^^ S[i]).toNat = zn at AL XB hz
              generalize X[i].toNat = xn at cx XB
              generalize S[i].toNat = sn at cb XB
              have iz : ((zn : Int) != 0) = true := by simp; omega
              clear SK he hz XC F iS iX
              go_wp2_with (fail)
              go_quiet (fail)
              go_wp2_with (first
                | (go_at_call 38; refine (AL.out _ (below_drewN (Below.refl _ _) _)).mono ?_; rintro e w8 ⟨rfl, F8⟩; clear AL))
              go_roundw
              case rel => exact ⟨i + 1, by omega, by go_num, F8⟩
              case measure => simp [intOf]; omega
          · obtain rfl : i = fk := by omega
            have TK : Hid (Calls Tryz.prog 15 #[.pointer (some ⟨b, 0, none⟩), .int .i64 1, .int .i64 0] wr fun e w' => e = .returned (.tuple #[.pointer none, .slice none 0 0, .int .i64 6]) ∧ Below wr.heap.size wr w') := by
              obtain ⟨σ, h1, h2⟩ := F.log
              have e : Alt.dat l k ++ (X.take i ++ (S.drop i ++ t)) = Alt.dat l k ++ (X ++ t) := by
                rw [List.take_of_length_le (by rw [HLX.out]; exact Nat.le_refl _), List.drop_of_length_le (by rw [HLS.out]; exact Nat.le_refl _), List.nil_append]
              rw [e] at h2
              refine torn_k h1 h2 (by omega) ?_ HNONE.out
              have hd := congrArg List.length HD4.out
              have := HDL.out
              have := HLS.out
              have := HLX.out
              simp only [List.length_append] at hd ⊢
              omega
            clear XC F
            go_wp2_with (first
              | (go_at_call 15; refine TK.out.mono ?_; rintro e w9 ⟨rfl, b9⟩; clear TK))
            go_ret
            exact ⟨rfl, fb2.out.trans (b9.mono fb2.out.size)⟩

theorem walk (w : World) (a : Option Addr) (n c : Nat) (wh at' : Int) (bits : Nat) (l : List (List Wl.Wr)) (h : WrssAt w (.slice a n c) l) (hn : n = l.length) (hb' : bits < 4294967296) (ha : at' ≤ 9223372036854775807) (hw1 : -9223372036854775808 ≤ wh) (hw2 : wh ≤ 9223372036854775807) :
    Calls Tryz.prog 7 #[.slice a n c, .int .i64 wh, .int .i64 at', .int .u32 (bits : Int)] w fun e w' => e = .returned (.bool true) ∧ Below w.heap.size w w' := by
  by_cases h0 : n = 0 ∨ 30 < n ∨ bits = 0
  · exact walk_off w a n c wh at' bits h0
  · subst hn
    have hne : l ≠ [] := fun e => h0 (.inl (by rw [e]; rfl))
    obtain ⟨a', cap, e, hf⟩ := h.form
    cases e
    obtain ⟨b0, off0, rfl, hc⟩ := hf hne
    have eg : ∀ j (hj : j < l.length), l.getD j [] = l[j] := fun j hj => by rw [List.getD_eq_getElem?_getD, List.getElem?_eq_getElem hj]; rfl
    refine walk_on w b0 off0 _ c wh at' bits l rfl (by omega) (by omega) hb' (by omega) ha hw1 hw2 (fun j hj => ?_) (fun j hj => ?_)
    · rw [eg j hj]; exact hc j hj
    · rw [eg j hj]; exact (h.each _ (List.getElem_mem hj)).1
end Go.Proofs.YtppfkhpofbbnbaaGreatDoor.walAltered
