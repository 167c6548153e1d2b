/-
  Proved: for all bytes a, b and c the call CrcXor(a, b, c) returns true and leaves its arguments as they were: of three lists, cut to the shortest, the checksum of their xor is the xor of their checksums.
  Conditions: none beyond the form's own reach.
-/
import Derived.Test.YtgfncfpcobkebaaCFrame
import Derived.Test.YtgfncfpcobkebaaKMake
import Derived.Test.YtgfncfpcobkebaaCSealed
namespace Go.Proofs.Ytgfncfpcobkebaa.crcXor
open Go.ChangeShapes Go.WideShapes Go.ChangeAt Go.RowKit
open Go.Proofs.Ytgfncfpcobkebaa

def xor3 (a b c : List UInt8) : List UInt8 := List.zipWith (· ^^^ ·) (List.zipWith (· ^^^ ·) a b) c

theorem xor3_length (a b c : List UInt8) (n : Nat) (ha : a.length = n) (hb : b.length = n) (hc : c.length = n) : (xor3 a b c).length = n := by
  unfold xor3
  rw [List.length_zipWith, List.length_zipWith]
  omega
theorem xor3_get (a b c : List UInt8) (j : Nat) (ha : j < a.length) (hb : j < b.length) (hc : j < c.length) (h : j < (xor3 a b c).length) : (xor3 a b c)[j] = a[j] ^^^ b[j] ^^^ c[j] := by
  have e : (xor3 a b c)[j]? = some (a[j] ^^^ b[j] ^^^ c[j]) := by
    unfold xor3
    rw [List.getElem?_zipWith, List.getElem?_zipWith, List.getElem?_eq_getElem ha, List.getElem?_eq_getElem hb, List.getElem?_eq_getElem hc]
  rw [List.getElem?_eq_getElem h] at e
  exact Option.some.inj e
/-- The first j of a list, and zeros in the room of the others. -/
def part (x : List UInt8) (j : Nat) : List UInt8 := x.take j ++ List.replicate (x.length - j) 0
theorem part_length (x : List UInt8) (j : Nat) (h : j ≤ x.length) : (part x j).length = x.length := by
  unfold part
  rw [List.length_append, List.length_take, List.length_replicate]
  omega
theorem part_set (x : List UInt8) (j : Nat) (h : j < x.length) : (part x j).set j x[j] = part x (j + 1) := by
  unfold part
  have e : (x.take j).length = j := by rw [List.length_take]; omega
  rw [List.set_append_right _ _ (by omega), e, Nat.sub_self, show x.length - j = (x.length - (j + 1)) + 1 from by omega, List.replicate_succ, List.set_cons_zero, List.take_succ_eq_append_getElem h, List.append_assoc]
  rfl
theorem part_all (x : List UInt8) : part x x.length = x := by
  unfold part
  rw [List.take_length, Nat.sub_self]
  simp
theorem part_none (x : List UInt8) : part x 0 = List.replicate x.length 0 := by unfold part; simp

/-- What comes of a list of zeros that was just made. -/
theorem made_own (w : World) (n : Nat) (hn : n ≤ 140737488355328) : (w.alloc (.cells (zeros n) 5)).ownsRow w.heap.size 5 1 (.slice (some ⟨w.heap.size, 0, none⟩) n n) n (bc (List.replicate n 0)) ∧ w.grownBy (w.alloc (.cells (zeros n) 5)) none := by
  refine ⟨⟨by rw [bc_length, List.length_replicate]; omega, .inr ⟨w.heap.size, n, _, rfl, Nat.le_refl _, heap_alloc_new w _, Nat.le_refl _, by unfold maxLen; omega, ?_, ?_⟩⟩, World.grownBy_alloc w _ _⟩
  · simp [zeros]
  · rw [bc_zeros]
    simp [zeros]

theorem xor8 (x y : UInt8) : bits .xor .u8 (x.toNat : Int) (y.toNat : Int) = ((x ^^^ y).toNat : Int) := by
  rw [u8_xor_nat _ _ (UInt8.toNat_lt x) (UInt8.toNat_lt y), UInt8.toNat_xor]

set_option maxHeartbeats 1600000 in
theorem walk_n (w : World) (a0 a1 a2 : Option Addr) (c0 c1 c2 : Nat) (a b c : List UInt8) (ha : BytesIn w (.slice a0 a.length c0) a) (hb : BytesIn w (.slice a1 b.length c1) b) (hc : BytesIn w (.slice a2 c.length c2) c) (k0 : a.length ≤ c0) (k1 : b.length ≤ c1) (k2 : c.length ≤ c2)
    (n : Nat) (hn : (n : Int) = if (c.length : Int) < (if (b.length : Int) < (a.length : Int) then (b.length : Int) else (a.length : Int)) then (c.length : Int) else (if (b.length : Int) < (a.length : Int) then (b.length : Int) else (a.length : Int))) :
    Calls Try.prog 8 #[.slice a0 a.length c0, .slice a1 b.length c1, .slice a2 c.length c2] w fun e w' => e = .returned (.bool true) ∧ Below w.heap.size w w' := by
  have hmin : ∀ (ts : Array TypeId) (t : TypeId) (W : World), (Builtin.min_ ts t #[.int .i64 (a.length : Int), .int .i64 (b.length : Int), .int .i64 (c.length : Int)]).run Try.prog W = .ok (.int .i64 (n : Int)) W := fun ts t W => by
    rw [run_min_int3, hn]
  have m0 : n ≤ a.length := by split at hn <;> split at hn <;> omega
  have m1 : n ≤ b.length := by split at hn <;> split at hn <;> omega
  have m2 : n ≤ c.length := by split at hn <;> split at hn <;> omega
  have hnn : n ≤ 140737488355328 := by have := ha.len; omega
  have MK := make_bytes n hnn (n : Int) rfl
  obtain ⟨X, hX⟩ : ∃ X, X = xor3 (a.take n) (b.take n) (c.take n) := ⟨_, rfl⟩
  have t0 : (a.take n).length = n := by rw [List.length_take]; omega
  have t1 : (b.take n).length = n := by rw [List.length_take]; omega
  have t2 : (c.take n).length = n := by rw [List.length_take]; omega
  have lX : X.length = n := by rw [hX]; exact xor3_length _ _ _ n t0 t1 t2
  have gX : Hid (∀ j (h : j < X.length) (h0 : j < a.length) (h1 : j < b.length) (h2 : j < c.length), X[j] = a[j] ^^^ b[j] ^^^ c[j]) := fun j h h0 h1 h2 => by
    rw [lX] at h
    subst hX
    rw [xor3_get _ _ _ j (by omega) (by omega) (by omega)]
    simp only [List.getElem_take]
  obtain ⟨s0, hs0⟩ : ∃ s, s = Crc.sum (a.take n) := ⟨_, rfl⟩
  obtain ⟨s1, hs1⟩ : ∃ s, s = Crc.sum (b.take n) := ⟨_, rfl⟩
  obtain ⟨s2, hs2⟩ : ∃ s, s = Crc.sum (c.take n) := ⟨_, rfl⟩
  obtain ⟨sx, hsx⟩ : ∃ s, s = Crc.sum X := ⟨_, rfl⟩
  have XS : sx = s0 ^^^ s1 ^^^ s2 := by rw [hsx, hX, hs0, hs1, hs2]; exact Crc.sum_xor3 _ _ _ (by omega) (by omega)
  have l0 : s0 < 4294967296 := by rw [hs0]; exact Crc.sum_lt _
  have l1 : s1 < 4294967296 := by rw [hs1]; exact Crc.sum_lt _
  have l2 : s2 < 4294967296 := by rw [hs2]; exact Crc.sum_lt _
  obtain ⟨u, hu⟩ : ∃ u, u = s0 ^^^ s1 := ⟨_, rfl⟩
  have U1 : bits .xor .u32 (s0 : Int) (s1 : Int) = (u : Int) := by rw [hu]; exact u32_xor_nat _ _ l0 l1
  have U2 : bits .xor .u32 (u : Int) (s2 : Int) = (sx : Int) := by rw [XS, ← hu]; exact u32_xor_nat _ _ (by rw [hu]; exact Crc.xor_lt32 l0 l1) l2
  have SX : Hid (∀ wx v, BytesIn wx v X → Calls Try.prog 11 #[v] wx fun e w' => e = .returned (.int .u32 (sx : Int)) ∧ w' = wx) := fun wx v hv => by rw [hsx]; exact sum_any wx v X hv
  have S0 : Hid (∀ wx cc, Below w.heap.size w wx → Calls Try.prog 11 #[.slice a0 n cc] wx fun e w' => e = .returned (.int .u32 (s0 : Int)) ∧ w' = wx) := fun wx cc hw => by rw [hs0]; exact sum_any wx _ _ ((ha.later hw).cut n m0 cc)
  have S1 : Hid (∀ wx cc, Below w.heap.size w wx → Calls Try.prog 11 #[.slice a1 n cc] wx fun e w' => e = .returned (.int .u32 (s1 : Int)) ∧ w' = wx) := fun wx cc hw => by rw [hs1]; exact sum_any wx _ _ ((hb.later hw).cut n m1 cc)
  have S2 : Hid (∀ wx cc, Below w.heap.size w wx → Calls Try.prog 11 #[.slice a2 n cc] wx fun e w' => e = .returned (.int .u32 (s2 : Int)) ∧ w' = wx) := fun wx cc hw => by rw [hs2]; exact sum_any wx _ _ ((hc.later hw).cut n m2 cc)
  have LX : Hid (X.length = n) := lX
  have MO : Hid ((w.alloc (.cells (zeros n) 5)).ownsRow w.heap.size 5 1 (.slice (some ⟨w.heap.size, 0, none⟩) n n) n (bc (part X 0)) ∧ w.grownBy (w.alloc (.cells (zeros n) 5)) none) := by
    show _ ∧ _
    rw [part_none, lX]
    exact made_own w n hnn
  have q0 : (n : Int) ≤ (c0 : Int) := by omega
  have q1 : (n : Int) ≤ (c1 : Int) := by omega
  have q2 : (n : Int) ≤ (c2 : Int) := by omega
  clear hn hX hs0 hs1 hs2 hsx XS l0 l1 l2 hu t0 t1 t2 lX
  go_enter Try.func8, Try.ntmps8
  go_wp2_with (fail)
  clear hmin MK
  go_loopw [9] (fun i wr => ∃ j : Nat, j ≤ n ∧ i = .int .i64 j ∧ wr.ownsRow w.heap.size 5 1 (.slice (some ⟨w.heap.size, 0, none⟩) n n) n (bc (part X j)) ∧ w.grownBy wr none) (fun i _ => n - (intOf i).toNat)
  case atStart => exact ⟨0, Nat.zero_le _, rfl, MO.out.1, MO.out.2⟩
  case round =>
    obtain ⟨j, hj, rfl, ho, hg⟩ := hrel
    clear MO
    by_cases hlt : j < n
    · obtain ⟨b0, o0, rfl, d0⟩ := (ha.later (below_of hg)).spot j (by omega)
      obtain ⟨b1, o1, rfl, d1⟩ := (hb.later (below_of hg)).spot j (by omega)
      obtain ⟨b2, o2, rfl, d2⟩ := (hc.later (below_of hg)).spot j (by omega)
      have hjX : j < X.length := by rw [LX.out]; exact hlt
      have hX := gX.out j hjX (by omega) (by omega) (by omega)
      obtain ⟨x, hx⟩ : ∃ x, x = a[j] := ⟨_, rfl⟩
      obtain ⟨y, hy⟩ : ∃ x, x = b[j] := ⟨_, rfl⟩
      obtain ⟨z, hz⟩ : ∃ x, x = c[j] := ⟨_, rfl⟩
      rw [← hx] at d0 hX
      rw [← hy] at d1 hX
      rw [← hz] at d2 hX
      obtain ⟨t, ht⟩ : ∃ t, t = x ^^^ y := ⟨_, rfl⟩
      rw [← ht] at hX
      have X1 : bits .xor .u8 (x.toNat : Int) (y.toNat : Int) = (t.toNat : Int) := by rw [ht]; exact xor8 x y
      have X2 : bits .xor .u8 (t.toNat : Int) (z.toNat : Int) = ((t ^^^ z).toNat : Int) := xor8 t z
      obtain ⟨v, hv⟩ : ∃ v, v = t ^^^ z := ⟨_, rfl⟩
      rw [← hv] at X2 hX
      have f0 := ho.frozenAt j
      obtain ⟨u0, e0⟩ : ∃ u, wr.cell? ⟨w.heap.size, j, none⟩ = some u := by
        refine ⟨_, (ho.cellAt j (by omega)).trans (bc_get _ _ ?_)⟩
        rw [part_length _ _ (by rw [LX.out]; omega), LX.out]; exact hlt
      have HS : Hid ((wr.setCell ⟨w.heap.size, j, none⟩ (.int .u8 (v.toNat : Int))).ownsRow w.heap.size 5 1 (.slice (some ⟨w.heap.size, 0, none⟩) n n) n (bc (part X (j + 1))) ∧ w.grownBy (wr.setCell ⟨w.heap.size, j, none⟩ (.int .u8 (v.toNat : Int))) none) := by
        show _ ∧ _
        obtain ⟨r1, r2⟩ := ho.stored j (.int .u8 (v.toNat : Int))
        rw [bc_set, ← hX, part_set X j hjX, hX] at r1
        exact ⟨r1, grownBy_trans hg r2 (.inr ⟨_, rfl, Nat.le_refl _⟩)⟩
      have p0 : (j : Int) < (a.length : Int) := by omega
      have p1 : (j : Int) < (b.length : Int) := by omega
      have p2 : (j : Int) < (c.length : Int) := by omega
      have p3 : (j : Int) < (n : Int) := by omega
      clear hx hy hz ht hv hX ho hg ha hb hc gX SX S0 S1 S2 hjX
      go_wp2_with (fail)
      go_region
      go_wp2_with (fail)
      exact ⟨⟨j + 1, by omega, by go_num, HS.out.1.drew, ⟨HS.out.2.os, HS.out.2.tape, HS.out.2.output, HS.out.2.size, HS.out.2.block⟩⟩, by simp [intOf]; omega⟩
    · have ej : n = j := by omega
      subst ej
      have HP : Hid (part X n = X) := by show _ = _; rw [← LX.out]; exact part_all X
      rw [HP.out] at ho
      have VX : Hid (BytesIn wr (.slice (some ⟨w.heap.size, 0, none⟩) n n) X) := bytes_of_own (by rw [LX.out]; exact ho) (by rw [LX.out]; exact hnn)
      have BW := below_of hg
      clear ho hg ha hb hc gX
      go_wp2_with (fail)
      go_region_held3 (fun _ => True) (trivial)
        (first
          | (go_at_call 13; refine (lives_any _).mono ?_; rintro e y1 ⟨rfl, hx1⟩; have HX : Below wr.heap.size wr y1 := (by first | exact hx1 | exact (Below.refl _ _).drew.trans hx1); clear hx1; have BX : Below w.heap.size w y1 := BW.trans (HX.mono BW.size); have VX1 := VX.out.later HX)
          | (go_at_call 11; have g := SX.out _ _ VX1; refine g.mono ?_; rintro e y2 ⟨rfl, rfl⟩; clear SX g VX1)
          | (go_at_call 11; have g := fun cc => S0.out _ cc BX; refine (g _).mono ?_; rintro e y2 ⟨rfl, rfl⟩; clear S0 g)
          | (go_at_call 11; have g := fun cc => S1.out _ cc BX; refine (g _).mono ?_; rintro e y2 ⟨rfl, rfl⟩; clear S1 g)
          | (go_at_call 11; have g := fun cc => S2.out _ cc BX; refine (g _).mono ?_; rintro e y2 ⟨rfl, rfl⟩; clear S2 g))
      clear VX HX
      go_wp2_with (fail)
      go_ret
      exact ⟨rfl, BX⟩

theorem walk (w : World) (a0 a1 a2 : Option Addr) (c0 c1 c2 : Nat) (a b c : List UInt8) (ha : BytesIn w (.slice a0 a.length c0) a) (hb : BytesIn w (.slice a1 b.length c1) b) (hc : BytesIn w (.slice a2 c.length c2) c) (k0 : a.length ≤ c0) (k1 : b.length ≤ c1) (k2 : c.length ≤ c2) :
    Calls Try.prog 8 #[.slice a0 a.length c0, .slice a1 b.length c1, .slice a2 c.length c2] w fun e w' => e = .returned (.bool true) ∧ Below w.heap.size w w' := by
  obtain ⟨n, hn⟩ : ∃ n : Nat, (n : Int) = if (c.length : Int) < (if (b.length : Int) < (a.length : Int) then (b.length : Int) else (a.length : Int)) then (c.length : Int) else (if (b.length : Int) < (a.length : Int) then (b.length : Int) else (a.length : Int)) :=
    ⟨_, Int.toNat_of_nonneg (by repeat' split
                                all_goals omega)⟩
  exact walk_n w a0 a1 a2 c0 c1 c2 a b c ha hb hc k0 k1 k2 n hn

set_option maxRecDepth 100000 in
theorem lifted (os : Os) (started : os.Started) (H : Type) (enc : TypeId × Value → H) :
    ReturnsInHanded {} Try.checked os 8 .any (Rows.crcXorSpec.pre6 enc Try.prog Try.f8 Rows.crcXorRow.domain false) (Rows.crcXorSpec.post enc Try.prog Try.f8 false true false false) := by
  refine returnsInHanded_of_change_sized (C := Try.checked) own started (by kernel_rfl) Try.func8
    (ChangeSpec.witness6 (enc := enc) (C := Try.checked) false ⟨#[], #[.slice none 0 0, .slice none 0 0, .slice none 0 0], []⟩ 8 (by kernel_rfl) (by kernel_rfl) (by kernel_rfl) (by kernel_rfl)) ?_
  intro W base args ds gs before hval0 hW hcnd hsz0 _
  have hsz : (DataW.weightsEach Try.prog (Try.f8.params.toList ++ Rows.crcXorSpec.plain.varTypes Try.prog) (ds ++ gs)).all (· ≤ reachBytes) = true := hsz0
  have hval : ∀ (j : Nat) t v, Try.f8.params[j]? = some t → args[j]? = some v → Value.okWide Try.prog W .any base t v := hval0
  have hW' := hW
  obtain ⟨p, q, hA0, hV, rfl, hfz, hnd⟩ := hW
  have hA : DataW.TrodAll enc Try.prog W 0 (fun _ => true) true Try.f8.params.toList args.toList ds p := hA0
  rw [Try.params8] at hA hval hsz
  obtain ⟨v0, vs0, d0, ds0, p0, q0, hargs, rfl, rfl, h0, r0⟩ := trodAll_cons hA
  obtain ⟨v1, vs1, d1, ds1, p1, q1, rfl, rfl, rfl, h1, r1⟩ := trodAll_cons r0
  obtain ⟨v2, vs2, d2, ds2, p2, q2, rfl, rfl, rfl, h2, r2⟩ := trodAll_cons r1
  obtain ⟨rfl, rfl, rfl⟩ := trodAll_nil r2
  obtain rfl : args = #[v0, v1, v2] := by cases args; simp_all
  obtain ⟨rfl, rfl⟩ := trodVars_none hV
  have k0 := h0
  have k1 := h1
  have k2 := h2
  have lt0 : ∀ x ∈ p0, x.block < W.heap.size := by obtain ⟨m, hm⟩ := k0; exact DataW.trod_lt m _ _ _ hm
  have lt1 : ∀ x ∈ p1, x.block < W.heap.size := by obtain ⟨m, hm⟩ := k1; exact DataW.trod_lt m _ _ _ hm
  have lt2 : ∀ x ∈ p2, x.block < W.heap.size := by obtain ⟨m, hm⟩ := k2; exact DataW.trod_lt m _ _ _ hm
  obtain ⟨a0, len0, cap0, rfl⟩ := okWide_slice Try.underlying22 (hval 0 22 v0 rfl rfl)
  obtain ⟨a1, len1, cap1, rfl⟩ := okWide_slice Try.underlying22 (hval 1 22 v1 rfl rfl)
  obtain ⟨a2, len2, cap2, rfl⟩ := okWide_slice Try.underlying22 (hval 2 22 v2 rfl rfl)
  obtain ⟨x, rfl, hx, _, _, kx⟩ := bytes_in h0 (fun elems spr e => by
    have := sized_slice hsz (j := 0) (t := 22) (e := 5) (elems := elems) (spare := spr) rfl (by rw [e]; rfl) Try.underlying22
    rwa [bytesT8] at this) rfl rfl
  obtain ⟨y, rfl, hy, _, _, ky⟩ := bytes_in h1 (fun elems spr e => by
    have := sized_slice hsz (j := 1) (t := 22) (e := 5) (elems := elems) (spare := spr) rfl (by rw [e]; rfl) Try.underlying22
    rwa [bytesT8] at this) rfl rfl
  obtain ⟨z, rfl, hz, _, _, kz⟩ := bytes_in h2 (fun elems spr e => by
    have := sized_slice hsz (j := 2) (t := 22) (e := 5) (elems := elems) (spare := spr) rfl (by rw [e]; rfl) Try.underlying22
    rwa [bytesT8] at this) rfl rfl
  clear hA0 hval0
  refine (walk W a0 a1 a2 cap0 cap1 cap2 x y z hx hy hz kx ky kz).mono fun e W' ⟨he, bel⟩ => ?_
  subst he
  exact ⟨_, rfl, _, _, _, [], _, [], hW', trodAll_mk1 (shut_bool Try.underlying4 _), (trodAll_cons_mk (Below.trod laidOut (by kernel_rfl) (of_decide_eq_true (by kernel_rfl)) k0 bel lt0) (trodAll_cons_mk (Below.trod laidOut (by kernel_rfl) (of_decide_eq_true (by kernel_rfl)) k1 bel lt1) (trodAll_cons_mk (Below.trod laidOut (by kernel_rfl) (of_decide_eq_true (by kernel_rfl)) k2 bel lt2) trodAll_mk0))), rfl, bel.frame _, fun h => by cases h⟩

theorem over : Rows.crcXorRow.holds Try.pinned (OpenSpec.ofChange Rows.crcXorSpec) :=
  OpenClaim.holds_of_wide 8 Try.f8 rfl rfl rfl rfl rfl rfl rfl ⟨rfl, rfl, rfl, rfl, rfl⟩ rfl rfl rfl rfl rfl (by kernel_rfl) Try.func8 (by kernel_rfl)
    (of_decide_eq_true (by kernel_rfl)) (by unfold Func.isWrapper; first | (rw [if_pos (by decide +kernel)]; kernel_rfl) | (rw [if_neg (by decide +kernel)]; exact ⟨rfl, rfl⟩))
    (fun os started H enc _ => lifted os started H enc)
end Go.Proofs.Ytgfncfpcobkebaa.crcXor

namespace Go.Proofs.Ytgfncfpcobkebaa
/-- THE STATEMENT. -/
theorem crcXor_holds : Rows.CrcXorSaid := crcXor.over
#print axioms crcXor_holds
end Go.Proofs.Ytgfncfpcobkebaa
