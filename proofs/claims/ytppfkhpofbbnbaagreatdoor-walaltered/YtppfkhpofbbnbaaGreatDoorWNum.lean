/-
  Numbers and texts put behind bytes that a call owns, as the log's inner calls do it; and the record of a batch.
-/
import Derived.Test.YtppfkhpofbbnbaaGreatDoorEA
import Derived.Test.YtppfkhpofbbnbaaGreatDoorKStep
import Derived.Test.YtppfkhpofbbnbaaGreatDoorKWr
import Derived.Lib.AppendStr
import Derived.RangeFuncBox
namespace Go.Proofs.YtppfkhpofbbnbaaGreatDoor
open Go.RowKit

theorem own_below {base : Nat} {w w' : World} {e s n : Nat} {v : Value} {xs : List Value} (h : w.ownsRow base e s v n xs) (hb : base ≤ w.heap.size) (hg : w.grownBy w' v.ownBlock) : Below base w w' :=
  (Below.refl _ _).grown hg hb (fun k hk => by
    rcases h.2 with ⟨rfl, _⟩ | ⟨g, cap, cur, rfl, hge, _⟩
    · cases hk
    · cases hk; exact hge)
theorem own_after {base : Nat} {w w' : World} {e s n : Nat} {v : Value} {xs : List Value} (h : w.ownsRow base e s v n xs) (hb : Below w.heap.size w w') : w'.ownsRow base e s v n xs :=
  h.kept (row := none) ⟨hb.os, hb.tape, hb.output, hb.size, fun k hk _ => hb.block k hk⟩ (by cases v.ownBlock with | none => exact .inl rfl | some g => exact .inr (by simp))

theorem grown_any {w w' : World} {r : Option Nat} (hb : Below w.heap.size w w') : w.grownBy w' r := ⟨hb.os, hb.tape, hb.output, hb.size, fun k hk _ => hb.block k hk⟩
theorem wext_after {base : Nat} {w w1 w2 : World} {v v2 : Value} {l : List UInt8} (hb : Below w.heap.size w w1) (h : Ext base w1 v w2 v2 l) : Ext base w v w2 v2 l :=
  ⟨h.own, grownBy_trans (grown_any hb) h.grown (.inl rfl), by
    rcases h.lies with e | ⟨g, e, hg⟩
    · exact .inl e
    · exact .inr ⟨g, e, Nat.le_trans hb.size hg⟩⟩
theorem ext_off {base : Nat} {a b : World} {g n cap g' n' cap' : Nat} {l : List UInt8} (h : Ext base a (.slice (some ⟨g, 0, none⟩) n cap) b (.slice (some ⟨g', 0, none⟩) n' cap') l) {q : Nat} (hq : q < a.heap.size) (hg : ¬ q = g) : ¬ q = g' := by
  rcases h.lies with e | ⟨k, e, hk⟩
  · simp [Value.ownBlock] at e
    omega
  · simp [Value.ownBlock] at e
    omega
theorem own_chain {base : Nat} {w wr X w8 w9 : World} {g n cap m g8 n8 cap8 m8 : Nat} {xs ys : List Value} (hb : base ≤ w.heap.size) (bx : Below base w wr) (h : wr.ownsRow base 5 1 (.slice (some ⟨g, 0, none⟩) n cap) m xs) (hX : Below wr.heap.size wr X) (b8 : X.grownBy w8 (some g)) (h8 : w8.ownsRow base 5 1 (.slice (some ⟨g8, 0, none⟩) n8 cap8) m8 ys) (z8 : base ≤ w8.heap.size) (b9 : w8.grownBy w9 (some g8)) : Below base w w9 := by
  have c1 : Below base w X := bx.trans (hX.mono (Nat.le_trans hb bx.size))
  have hg : base ≤ g := (h.lt g rfl).1
  have c2 := c1.grown b8 (Nat.le_trans hb c1.size) (fun k hk => by cases hk; exact hg)
  exact c2.trans (own_below h8 z8 b9)
theorem strCells_bc (l : List UInt8) : Lib.strCells ⟨l.toArray⟩ = bc l := by simp [Lib.strCells, bc]

set_option maxHeartbeats 800000 in
theorem appNum_any (w : World) (base : Nat) (v : Value) (l : List UInt8) (x : Nat) (hx : x ≤ 9223372036854775807) (h : w.ownsRow base 5 1 v l.length (bc l)) (hb : base ≤ w.heap.size) (hl : l.length ≤ 1000000000) :
    Calls Tryz.prog 75 #[v, .int .i64 (x : Int)] w fun e w' => ∃ v', e = .returned v' ∧ Ext base w v w' v' (l ++ Enc.leb x) := by
  have hw : IntKind.u64.wrap (x : Int) = (x : Int) := by rw [IntKind.wrap_u64]; omega
  have AP : Hid (Calls Tryz.prog 102 #[.slice none 0 0, .int .u64 (x : Int)] w fun e w' => ∃ g c, e = .returned (.slice (some ⟨g, 0, none⟩) (Enc.leb x).length c) ∧ Ext w.heap.size w (.slice none 0 0) w' (.slice (some ⟨g, 0, none⟩) (Enc.leb x).length c) (Enc.leb x)) := by
    refine (Enc.append_any w (.slice none 0 0) [] x ⟨⟨none, 0, rfl, fun h => absurd rfl h⟩, by simp⟩ (fun a b e => by cases e; rfl) (by omega) (by simp)).mono ?_
    rintro e w' ⟨v', rfl, hx'⟩
    rw [List.nil_append] at hx'
    obtain ⟨g, c, rfl⟩ := hx'.some (by have := Enc.leb_pos x; intro e; rw [e] at this; simp at this)
    exact ⟨g, c, rfl, hx'⟩
  have hlp := Enc.leb_pos x
  have hl10 := Enc.leb_len64 x (by omega)
  have H : Hid (w.ownsRow base 5 1 v l.length (bc l)) := h
  obtain ⟨q, hq⟩ : ∃ q, q = Enc.leb x := ⟨_, rfl⟩
  rw [← hq] at AP hlp hl10 ⊢
  have R1 : Hid (l.length + q.length ≤ 140737488355328) := by show _ ≤ _; omega
  obtain ⟨m, hm⟩ : ∃ m, m = q.length := ⟨_, rfl⟩
  rw [← hm] at AP
  have HM : Hid (m = q.length) := hm
  have HP : Hid (0 < q.length) := hlp
  clear h hq hx hlp hl10 hm hl
  go_enter Tryz.func75, Tryz.ntmps75
  go_wp2_with (first
    | (go_at_call 102; refine AP.out.mono ?_; rintro e w1 ⟨g1, c1, rfl, x1⟩; have b1 := below_of x1.grown; have o1 : Hid _ := own_after H.out b1; have z1 : base ≤ w1.heap.size := Nat.le_trans hb b1.size; have y1 : Hid _ := x1.own; clear AP x1)
    | (at_builtin; refine wpList_append_bytes _ rfl _ _ rfl base v l q rfl o1.out ⟨g1, 0, none⟩ m c1 rfl HM.out (own_cells (by have := y1.out; rw [← HM.out] at this; exact this)) HP.out R1.out z1 ?_; intro g2 cap2 L2 w2 HL2 x2 lt2))
  go_ret
  exact ⟨_, rfl, wext_after b1 x2⟩

set_option maxHeartbeats 800000 in
theorem appText_any (w : World) (base : Nat) (v : Value) (l s : List UInt8) (hs : s.length ≤ 1000000) (h : w.ownsRow base 5 1 v l.length (bc l)) (hb : base ≤ w.heap.size) (hl : l.length ≤ 1000000000) :
    Calls Tryz.prog 76 #[v, str s] w fun e w' => ∃ v', e = .returned v' ∧ w'.ownsRow base 5 1 v' (l ++ Wl.text s).length (bc (l ++ Wl.text s)) ∧ w.grownBy w' v.ownBlock := by
  obtain ⟨i0, hi, hz0, hz1, hz2⟩ := info_parts Tryz.info5
  have AP := appNum_any w base v l s.length (by omega) h hb hl
  have hl10 := Enc.leb_len64 s.length (by omega)
  have e1 : Hid (l ++ Enc.leb s.length ++ s = l ++ Wl.text s) := by show _ = _; unfold Wl.text; rw [List.append_assoc]
  rw [← e1.out]
  obtain ⟨q, hq⟩ : ∃ q, q = l ++ Enc.leb s.length := ⟨_, rfl⟩
  rw [← hq] at AP ⊢
  have R1 : q.length + s.length ≤ 140737488355328 := by rw [hq, List.length_append]; omega
  have M1 : Hid (q.length + (⟨s.toArray⟩ : ByteArray).size ≤ maxLen) := by show _ + s.toArray.size ≤ _; simp [maxLen]; omega
  have M2 : Hid (q.length + (⟨s.toArray⟩ : ByteArray).size ≤ 140737488355328) := by show _ + s.toArray.size ≤ _; simp; omega
  clear h hq hl10 e1 hl R1
  go_enter Tryz.func76, Tryz.ntmps76
  go_wp2_with (first
    | (go_at_call 75; refine AP.mono ?_; rintro e w1 ⟨v1, rfl, x1⟩; have z1 : base ≤ w1.heap.size := Nat.le_trans hb x1.size; have X1 : Hid _ := x1; clear AP x1)
    | (at_builtin; refine Lib.wpList_append_own_string _ rfl _ _ 22 9 rfl base 5 i0 Tryz.underlying22 Tryz.underlying9 hi hz0 hz1 hz2 v1 q.length (bc q) rfl X1.out.own ⟨s.toArray⟩ rfl M1.out M2.out z1 ?_; intro v2 w2 o2 g2 _))
  go_ret
  refine ⟨_, rfl, ?_, grownBy_trans X1.out.grown g2 X1.out.lies⟩
  rw [strCells_bc, ← bc_append] at o2
  have : q.length + (⟨s.toArray⟩ : ByteArray).size = (q ++ s).length := by rw [List.length_append]; show _ + s.toArray.size = _; simp
  rw [this] at o2
  exact o2

theorem own_some {base : Nat} {w : World} {v : Value} {l : List UInt8} (h : w.ownsRow base 5 1 v l.length (bc l)) (hl : l ≠ []) : ∃ g cap, v = .slice (some ⟨g, 0, none⟩) l.length cap := by
  rcases h.2 with ⟨_, h0⟩ | ⟨g, cap, cur, rfl, _⟩
  · exact absurd (List.eq_nil_of_length_eq_zero h0) hl
  · exact ⟨g, cap, rfl⟩

/-- What a record has up to the j-th write. -/
def preR (n : Nat) (l : List Wl.Wr) (j : Nat) : List UInt8 := Enc.leb n ++ Enc.leb l.length ++ (l.take j).flatMap Wl.wrB
theorem preR_zero (n : Nat) (l : List Wl.Wr) : preR n l 0 = Enc.leb n ++ Enc.leb l.length := by unfold preR; simp
theorem preR_all (n : Nat) (l : List Wl.Wr) : preR n l l.length = Wl.record n l := by unfold preR Wl.record; rw [List.take_length]
theorem preR_next (n : Nat) (l : List Wl.Wr) (j : Nat) (h : j < l.length) : preR n l (j + 1) = preR n l j ++ Wl.wrB l[j] := by
  unfold preR
  rw [List.take_succ_eq_append_getElem h, List.flatMap_append, ← List.append_assoc]
  simp
theorem preR_le (n : Nat) (l : List Wl.Wr) (hn : n ≤ 1073741824) (hk : Wl.checkE l = 0) (j : Nat) : (preR n l j).length ≤ 302000 := by
  have h1 := Wl.record_len n l hn hk
  have h2 : (preR n l j).length ≤ (Wl.record n l).length := by
    unfold preR Wl.record
    rw [List.length_append, List.length_append, List.length_append, List.length_append]
    have : ((l.take j).flatMap Wl.wrB).length ≤ (l.flatMap Wl.wrB).length := by
      conv => rhs; rw [← List.take_append_drop j l]
      rw [List.flatMap_append, List.length_append]
      omega
    omega
  omega
theorem preR_ne (n : Nat) (l : List Wl.Wr) (j : Nat) : preR n l j ≠ [] := by
  intro e
  have := Enc.leb_pos n
  have h := congrArg List.length e
  unfold preR at h
  rw [List.length_append, List.length_append, List.length_nil] at h
  omega

/-- One byte that is written out. -/
theorem lit_bytes (W : World) (B : Nat) (hB : B = W.heap.size) (c : UInt8) (x : Int) (hx : x = (c.toNat : Int)) : BytesIn (W.alloc (.cells #[.int .u8 x] 5)) (.slice (some ⟨B, 0, none⟩) 1 1) [c] := by
  subst hB
  subst hx
  refine BytesIn.block (World.alloc_heap_new W _) [c] (by simp) (fun j hj => ?_) 1 1 rfl
  have : j = 0 := by simp at hj; exact hj
  subst this
  rfl

set_option maxRecDepth 10000 in
set_option maxHeartbeats 4000000 in
theorem record_any (w : World) (a : Option Addr) (c n : Nat) (l : List Wl.Wr) (h : WrsAt w (.slice a l.length c) l) (hn : n ≤ 1073741824) (hk : Wl.checkE l = 0) :
    Calls Tryz.prog 39 #[.int .i64 (n : Int), .slice a l.length c] w fun e w' => ∃ g cap, e = .returned (.slice (some ⟨g, 0, none⟩) (Wl.record n l).length cap) ∧ w'.ownsRow w.heap.size 5 1 (.slice (some ⟨g, 0, none⟩) (Wl.record n l).length cap) (Wl.record n l).length (bc (Wl.record n l)) ∧ Below w.heap.size w w' := by
  obtain ⟨k1, k2, k3, k4⟩ := Wl.checkE_ok hk
  have N1 := appNum_any w w.heap.size (.slice none 0 0) [] n (by omega) (World.ownsRow_nil _ _ _ _) (Nat.le_refl _) (by simp)
  rw [List.nil_append] at N1
  have ln := Enc.leb_len64 n (by omega)
  have N2 : Hid (∀ wx v, Below w.heap.size w wx → wx.ownsRow w.heap.size 5 1 v (Enc.leb n).length (bc (Enc.leb n)) → Calls Tryz.prog 75 #[v, .int .i64 (l.length : Int)] wx fun e w' => ∃ g cap, e = .returned (.slice (some ⟨g, 0, none⟩) (preR n l 0).length cap) ∧ w'.ownsRow w.heap.size 5 1 (.slice (some ⟨g, 0, none⟩) (preR n l 0).length cap) (preR n l 0).length (bc (preR n l 0)) ∧ Below w.heap.size wx w') := fun wx v hb ho => by
    refine (appNum_any wx w.heap.size v (Enc.leb n) l.length (by omega) ho hb.size (by omega)).mono ?_
    rintro e w' ⟨v', rfl, x⟩
    have o := x.own
    rw [← preR_zero] at o
    have b := own_below ho hb.size x.grown
    obtain ⟨g, cap, rfl⟩ := own_some o (preR_ne n l 0)
    exact ⟨g, cap, rfl, o, b⟩
  have HW : Hid _ := h
  have HB : Hid (∀ x ∈ l, Wl.mayBe x = true) := by show ∀ x ∈ l, _; exact List.all_eq_true.1 k3
  have PL : Hid (∀ j, (preR n l j).length ≤ 302000) := preR_le n l hn hk
  obtain ⟨m, hm⟩ : ∃ m, m = l.length := ⟨_, rfl⟩
  have HM : Hid (m = l.length) := hm
  rw [← hm] at N2 k2 ⊢
  clear h hk k1 k3 k4 hm hn
  go_enter Tryz.func39, Tryz.ntmps39
  go_wp2_with (first
    | (go_at_call 75; have tok := N1; refine N1.mono ?_; rintro e w1 ⟨v1, rfl, x1⟩; have o1 := x1.own; have b1 := x1.below (Nat.le_refl _) (by simp [Value.ownBlock]); clear N1 tok x1)
    | (go_at_call 75; refine (N2.out _ _ b1 o1).mono ?_; rintro e w2 ⟨g2, cap2, rfl, o2, b2⟩; have B2 := b1.trans b2; clear N2 o1 b1 b2))
  go_loopw [5, 16] (fun v i wr => ∃ (j g cap : Nat), j ≤ m ∧ i = .int .i64 j ∧ v = .slice (some ⟨g, 0, none⟩) (preR n l j).length cap ∧ wr.ownsRow w.heap.size 5 1 (.slice (some ⟨g, 0, none⟩) (preR n l j).length cap) (preR n l j).length (bc (preR n l j)) ∧ Below w.heap.size w wr) (fun _ i _ => m - (intOf i).toNat)
  case atStart => exact ⟨0, g2, cap2, Nat.zero_le _, rfl, rfl, o2, B2⟩
  case round =>
    obtain ⟨j, g, cap, hj, rfl, rfl, o, bx⟩ := hrel
    clear o2 B2
    by_cases hlt : j < m
    · have hl : j < l.length := by have := HM.out; omega
      obtain ⟨B, off, rfl⟩ := HW.out.some (by omega)
      obtain ⟨c0, c1, c2⟩ := (HW.out.later bx).cells j hl
      have hx := HB.out l[j] (List.getElem_mem hl)
      have hpn := preR_next n l j hl
      have p0 := PL.out j
      have p1 := PL.out (j + 1)
      obtain ⟨x, hxe⟩ : ∃ x, x = l[j] := ⟨_, rfl⟩
      rw [← hxe] at c0 c1 c2 hx hpn
      obtain ⟨K, V, D⟩ := x
      simp only [Wl.mayBe, Bool.and_eq_true, decide_eq_true_eq, Bool.or_eq_true, Bool.not_eq_true'] at hx c0 c1 c2
      obtain ⟨⟨⟨_, h2⟩, h3⟩, _⟩ := hx
      obtain ⟨P, hP⟩ : ∃ P, P = preR n l j := ⟨_, rfl⟩
      rw [← hP] at o hpn p0 ⊢
      have gl := (o.lt g rfl)
      have zx : w.heap.size ≤ wr.heap.size := bx.size
      have gne : ¬ (g = wr.heap.size) := by omega
      have O0 : Hid (wr.ownsRow w.heap.size 5 1 (.slice (some ⟨g, 0, none⟩) P.length cap) P.length (bc P)) := o
      have TX : Hid (∀ wx v s q, q = P ++ s → s.length ≤ 5000 → ∀ t r : List UInt8, r = q ++ Wl.text t → t.length ≤ 5000 → w.heap.size ≤ wx.heap.size → wx.ownsRow w.heap.size 5 1 v q.length (bc q) → Calls Tryz.prog 76 #[v, str t] wx fun e w' => ∃ g' cap' L, e = .returned (.slice (some ⟨g', 0, none⟩) L cap') ∧ Hid (L = r.length) ∧ Hid (w'.ownsRow w.heap.size 5 1 (.slice (some ⟨g', 0, none⟩) L cap') r.length (bc r)) ∧ wx.grownBy w' v.ownBlock) := fun wx v s q hq hs t r hr ht hz ho => by
        subst hr
        refine (appText_any wx w.heap.size v q t (by omega) ho hz (by rw [hq, List.length_append]; omega)).mono ?_
        rintro e w' ⟨v', rfl, o', b'⟩
        obtain ⟨g', cap', rfl⟩ := own_some o' (by
          intro e
          have := Enc.leb_pos t.length
          have h := congrArg List.length e
          rw [List.length_append] at h
          unfold Wl.text at h
          rw [List.length_append, List.length_nil] at h
          omega)
        exact ⟨g', cap', _, rfl, rfl, o', b'⟩
      have Y1 : Hid (P.length + [(1 : UInt8)].length ≤ 140737488355328) := by show _ ≤ _; rw [List.length_singleton]; omega
      have Y0 : Hid (P.length + [(0 : UInt8)].length ≤ 140737488355328) := by show _ ≤ _; rw [List.length_singleton]; omega
      clear hxe hP PL HB HW hl o
      cases D with
      | true =>
        have E1 : Hid (P ++ [1] ++ Wl.text K = preR n l (j + 1)) := by show _ = _; rw [hpn]; simp [Wl.wrB]
        clear hpn
        go_wp2_with (fail)
        go_region_held3 (fun w' => w'.cell? ⟨wr.heap.size, 0, none⟩ = some (str K))
          (first | exact kx | (go_keep; done))
          (first
            | (refine step_app_bytes _ (by rfl) _ _ (by rfl) w.heap.size g cap P [1] P.length 1 1 rfl rfl (by rfl) (by first | exact (O0.out.alloc _).alloc _ | exact ((O0.out.alloc _).alloc _).drew) _ (by rfl) (by first | exact lit_bytes _ _ (by simp) _ _ rfl | exact (lit_bytes _ _ (by simp) _ _ rfl).later (Below.refl _ _).drew) (fun e => by cases e) Y1.out (by simp; omega) ?_; intro g8 cap8 L8 w8 HL8 x8; have kx : w8.cell? ⟨wr.heap.size, 0, none⟩ = some (str K) := x8.keeps (by simp) (by simp [Value.ownBlock]; omega); have B8 : Hid _ := x8.grown; have Z8 : Hid (w.heap.size ≤ w8.heap.size) := (by have := x8.size; simp at this; show _ ≤ _; omega); have O8 : Hid (w8.ownsRow w.heap.size 5 1 (.slice (some ⟨g8, 0, none⟩) L8 cap8) (P ++ [1]).length (bc (P ++ [1]))) := x8.own; have N8 : Hid (¬ wr.heap.size = g8) := ext_off x8 (by simp; omega) (by omega); clear x8)
            | (go_at_call 76; refine (TX.out _ _ [1] (P ++ [1]) rfl (by simp) K (preR n l (j + 1)) E1.out.symm (by omega) (by first | exact Z8.out | exact Z8.out) (by first | exact O8.out | exact O8.out.drew)).mono ?_; rintro e w9 ⟨g9, cap9, L9, rfl, HL9, o9, b9⟩; have kx : w9.cell? ⟨wr.heap.size, 0, none⟩ = some (str K) := b9.cell (by first | exact kx | simpa using kx) (by simp [Value.ownBlock]; exact N8.out)))
        have B9 : Below w.heap.size w w9 := own_chain (Nat.le_refl _) bx O0.out (((Below.refl _ _).alloc (Nat.le_refl _) _).alloc (by simp) _) (grownBy_undrew B8.out) O8.out Z8.out b9
        have hL9 := HL9.out
        subst hL9
        clear O0 TX Y1 Y0 E1 O8 Z8 N8 B8 kx b9 HL9
        go_wp2_with (fail)
        exact ⟨⟨j + 1, g9, cap9, by omega, by go_num, rfl, o9.out, B9⟩, by simp [intOf]; omega⟩
      | false =>
        have E1 : Hid (P ++ [0] ++ Wl.text K ++ Wl.text V = preR n l (j + 1)) := by show _ = _; rw [hpn]; simp [Wl.wrB]
        clear hpn
        go_wp2_with (fail)
        go_region_held3 (fun w' => w'.cell? ⟨wr.heap.size, 0, none⟩ = some (str K) ∧ w'.cell? ⟨wr.heap.size, 1, none⟩ = some (str V))
          (first | exact ⟨kx, ky⟩ | (go_keep; done))
          (first
            | (refine step_app_bytes _ (by rfl) _ _ (by rfl) w.heap.size g cap P [0] P.length 1 1 rfl rfl (by rfl) (by first | exact (O0.out.alloc _).alloc _ | exact ((O0.out.alloc _).alloc _).drew) _ (by rfl) (by first | exact lit_bytes _ _ (by simp) _ _ rfl | exact (lit_bytes _ _ (by simp) _ _ rfl).later (Below.refl _ _).drew) (fun e => by cases e) Y0.out (by simp; omega) ?_; intro g8 cap8 L8 w8 HL8 x8; have kx : w8.cell? ⟨wr.heap.size, 0, none⟩ = some (str K) := x8.keeps (by simp) (by simp [Value.ownBlock]; omega); have ky : w8.cell? ⟨wr.heap.size, 1, none⟩ = some (str V) := x8.keeps (by simp) (by simp [Value.ownBlock]; omega); have B8 : Hid _ := x8.grown; have Z8 : Hid (w.heap.size ≤ w8.heap.size) := (by have := x8.size; simp at this; show _ ≤ _; omega); have O8 : Hid (w8.ownsRow w.heap.size 5 1 (.slice (some ⟨g8, 0, none⟩) L8 cap8) (P ++ [0]).length (bc (P ++ [0]))) := x8.own; have N8 : Hid (¬ wr.heap.size = g8) := ext_off x8 (by simp; omega) (by omega); clear x8)
            | (go_at_call 76; refine (TX.out _ _ [0] (P ++ [0]) rfl (by simp) K _ rfl (by omega) (by first | exact Z8.out | exact Z8.out) (by first | exact O8.out | exact O8.out.drew)).mono ?_; rintro e w9 ⟨g9, cap9, L9, rfl, HL9, o9, b9⟩; have kx : w9.cell? ⟨wr.heap.size, 0, none⟩ = some (str K) := b9.cell (by first | exact kx | simpa using kx) (by simp [Value.ownBlock]; exact N8.out); have ky : w9.cell? ⟨wr.heap.size, 1, none⟩ = some (str V) := b9.cell (by first | exact ky | simpa using ky) (by simp [Value.ownBlock]; exact N8.out)))
        have B9 : Below w.heap.size w w9 := own_chain (Nat.le_refl _) bx O0.out (((Below.refl _ _).alloc (Nat.le_refl _) _).alloc (by simp) _) (grownBy_undrew B8.out) O8.out Z8.out b9
        have T2 := TX.out w9 (.slice (some ⟨g9, 0, none⟩) L9 cap9) ([0] ++ Wl.text K) (P ++ [0] ++ Wl.text K) (by rw [List.append_assoc]) (by have := Wl.text_len K (by omega); rw [List.length_append, List.length_singleton]; omega) V (preR n l (j + 1)) E1.out.symm (by omega) B9.size o9.out
        have Z9 : Hid (w.heap.size ≤ w9.heap.size) := B9.size
        clear O0 TX Y1 Y0 E1 O8 Z8 N8 B8 kx b9
        go_wp2_with (first
          | (go_at_call 76; refine T2.mono ?_; rintro e w10 ⟨g10, cap10, L10, rfl, HL10, o10, b10⟩))
        have hL := HL10.out
        subst hL
        exact ⟨⟨j + 1, g10, cap10, by omega, by go_num, rfl, o10.out, B9.trans (own_below o9.out Z9.out b10)⟩, by simp [intOf]; omega⟩
    · have e : j = m := by omega
      have i3 : ¬ (j : Int) < (m : Int) := by omega
      have HE : Hid (preR n l j = Wl.record n l) := by show _ = _; rw [e, HM.out]; exact preR_all n l
      rw [HE.out] at o ⊢
      clear HE e PL HB HW hlt hj
      go_wp2_with (fail)
      go_ret
      exact ⟨g, cap, rfl, o, bx⟩
end Go.Proofs.YtppfkhpofbbnbaaGreatDoor
