/-
  strconv.FormatUint at base 10: the digits of any number. .. and what follows from it.
-/
import Derived.Test.YtedamaccflhmfaaGreatDoorXUf
import Derived.Test.YtedamaccflhmfaaGreatDoorXK
namespace Go.Proofs.YtedamaccflhmfaaGreatDoor
open Go.Shelf Go.RowKit Go.Sort Go.Lib

theorem zero_row (w : World) (T : TypeId) (nd : Nat) (hs : nd ≤ 24) : Holds (fun (b : UInt8) => Value.int .u8 (b.toNat : Int)) (w.alloc (.cells zeros24 T)) w.heap.size 0 (Array.replicate nd (0 : UInt8)) := fun j hj => by
  have hj' : j < nd := by simpa using hj
  refine ⟨?_, World.frozen?_alloc_new _ _ _ _⟩
  rw [World.cell?_alloc_new, zeros24_at _ (by omega), getElem!_pos _ j hj]
  simp
theorem fin_zero (w : World) (o : Obj) (dk : Array UInt8) (k : Nat) : ∃ os, (putRow (fun (b : UInt8) => Value.int .u8 (b.toNat : Int)) (w.alloc o) w.heap.size 0 dk).drewN k = grow (w.drewN k) os := by
  rw [alloc_eq_grow]
  obtain ⟨os', _, e⟩ := putRow_grow_new (fun (b : UInt8) => Value.int .u8 (b.toNat : Int)) w #[o] w.heap.size 0 dk (Nat.le_refl _)
  exact ⟨os', by rw [e]; rfl⟩

set_option maxRecDepth 100000 in
theorem innerUint_any (w : World) (u : Nat) (hu64 : u < 18446744073709551616) (htab : Lib.TabIs Tryz.prog w "internal/strconv.uint64pow10" .u64 Lib.pow10Tab) :
    Calls Tryz.prog 159 #[.int .u64 u, .int .i64 10] w fun e w' => e = .returned (.string ⟨(Lib.decDigits u).toArray⟩) ∧ ∃ k os, w' = grow (w.drewN k) os := by
  have SM := hide (fun (i : Nat) (hi : i < 100) W => Any.internal_strconv_small (P := Tryz.prog) (ρ := Tryz.laysM173_ren) { Tryz.laysM173 with } i hi W)
  by_cases hs : u < 100
  · have hsi : (u : Int) < 100 := by omega
    go_enter Tryz.func159, Tryz.ntmps159
    go_wp2_with (go_at_call 178; refine (SM.out u hs _).mono ?_; rintro e w' ⟨rfl, rfl⟩)
    go_ret
    exact ⟨rfl, 0, #[], by simp [World.drewN_zero]⟩
  · have hu1 : 1 ≤ u := by omega
    have hsi : ¬ (u : Int) < 100 := by omega
    have hnd20 : Lib.nDigits u ≤ 20 := by have := Lib.numDigits_eq u hu1 hu64; split at this <;> omega
    have hal : Tryz.prog.arrayLen 217 = 24 := by simp [Program.arrayLen, Tryz.underlying217]
    have hsl1 : ∀ W, (Instr.sliceAt 217 (.pointer (some ⟨w.heap.size, 0, none⟩)) none (some (.int .i64 (Lib.nDigits u : Int))) none).run Tryz.prog W = .ok (.slice (some ⟨w.heap.size, 0, none⟩) (Lib.nDigits u) 24) W := fun W => by
      rw [run_sliceAt_array_h W 217 ⟨w.heap.size, 0, none⟩ (by simp [Program.arrayLen, Program.elem, Tryz.underlying217]) .i64 (Lib.nDigits u : Int) (by omega) (by rw [hal]; omega)]
      go_simp
    have ND := hide (fun W h => Any.internal_strconv_numDigits (P := Tryz.prog) (ρ := Tryz.laysM173_ren) { Tryz.laysM173 with } u hu1 hu64 W h)
    have hH0 := zero_row w 217 (Lib.nDigits u) (by omega)
    have hfmt := Any.internal_strconv_formatBase10 (P := Tryz.prog) (ρ := Tryz.laysM173_ren) { Tryz.laysM173 with } w.heap.size 0 24 u (Array.replicate (Lib.nDigits u) 0) (w.alloc (.cells Lib.zeros24 217)) hH0 (by rw [Array.size_replicate]; exact Lib.lt_pow_nDigits u) hu64 (by rw [Array.size_replicate]; omega)
    rw [Array.size_replicate] at hfmt
    have HF := hide hfmt
    have HH0 := Lib.hid hH0
    have HT := hide htab
    clear hH0 hal hfmt htab
    go_enter Tryz.func159, Tryz.ntmps159
    go_wp2_with (go_at_call 179; refine (ND.out _ (Lib.tabIs_alloc HT.out _)).mono ?_; rintro e w' ⟨rfl, rfl⟩)
    go_at_call 180
    refine HF.out.mono ?_
    rintro e w' ⟨rfl, k, v', dk, rfl, hF⟩
    have hcv : (convert 83 9 (.slice (some ⟨w.heap.size, 0, none⟩) (Lib.nDigits u) 24)).run Tryz.prog ((putRow (fun (b : UInt8) => Value.int .u8 (b.toNat : Int)) (w.alloc (.cells Lib.zeros24 217)) w.heap.size 0 dk).drewN k) = .ok (.string ⟨(Lib.decDigits u).toArray⟩) ((putRow (fun (b : UInt8) => Value.int .u8 (b.toNat : Int)) (w.alloc (.cells Lib.zeros24 217)) w.heap.size 0 dk).drewN k) := by
      have h := run_convert_bytes_back (P := Tryz.prog) ((putRow (fun (b : UInt8) => Value.int .u8 (b.toNat : Int)) (w.alloc (.cells Lib.zeros24 217)) w.heap.size 0 dk).drewN k) 83 9 5 ⟨w.heap.size, 0, none⟩ 24 (Lib.decDigits u) Tryz.underlying83 Tryz.underlying5 Tryz.underlying9 (fun j hj => by
        rw [Lib.row_is_numeral hF j hj, Lib.add_plain, World.cell?_drewN]
        exact cell?_putRow (fun (b : UInt8) => Value.int .u8 (b.toNat : Int)) _ w.heap.size 0 _ dk HH0.out (by rw [hF.size, Array.size_replicate]) j (by rw [hF.size]; rw [Lib.decDigits_length] at hj; exact hj))
      rw [Lib.decDigits_length] at h
      exact h
    go_wp2
    go_ret
    obtain ⟨os, eo⟩ := fin_zero w (.cells Lib.zeros24 217) dk k
    exact ⟨rfl, k, os, eo⟩

theorem formatUint_any (w : World) (u : Nat) (hu64 : u < 18446744073709551616) (htab : Lib.TabIs Tryz.prog w "internal/strconv.uint64pow10" .u64 Lib.pow10Tab) :
    Calls Tryz.prog 118 #[.int .u64 u, .int .i64 10] w fun e w' => e = .returned (.string ⟨(Lib.decDigits u).toArray⟩) ∧ Below w.heap.size w w' := by
  have IN := hide (innerUint_any w u hu64 htab)
  clear htab
  go_enter Tryz.func118, Tryz.ntmps118
  go_wp2_with (go_at_call 159; refine IN.out.mono ?_; rintro e w' ⟨rfl, k, os, hw⟩; have B := (below_grow w k os); rw [← hw] at B; clear hw)
  go_ret
  exact ⟨rfl, B⟩
end Go.Proofs.YtedamaccflhmfaaGreatDoor
namespace Go.Proofs.YtedamaccflhmfaaGreatDoor
open Go.RowKit
attribute [local go_sem ↓] Go.wp_at_zero Go.wp_at_succ

def saidS (x : Lx.Tk) : ByteArray := if Lx.mayT x then ⟨(Lx.saidT x).toArray⟩ else ⟨#[]⟩
def saidE (x : Lx.Tk) : Int := if Lx.mayT x then 0 else 2
/-- A token's parts fit their kinds. -/
structure Twf (x : Lx.Tk) : Prop where
  k0 : 0 ≤ x.k
  k1 : x.k ≤ 255
  n1 : x.n < 18446744073709551616
  a0 : -9223372036854775808 ≤ x.at'
  a1 : x.at' ≤ 9223372036854775807
  t1 : x.t.length ≤ maxLen

theorem said_no {x : Lx.Tk} (h : Lx.mayT x = false) : saidS x = ⟨#[]⟩ ∧ saidE x = 2 := by
  unfold saidS saidE; rw [h]; exact ⟨rfl, rfl⟩
theorem said_yes {x : Lx.Tk} (h : Lx.mayT x = true) : saidS x = ⟨(Lx.saidT x).toArray⟩ ∧ saidE x = 0 := by
  unfold saidS saidE; rw [h]; exact ⟨rfl, rfl⟩
theorem tw_twice (t : List UInt8) : Lx.tw t = twiceL t := rfl
theorem litP (xs : ByteArray) (t : List UInt8) (hx : xs = ⟨t.toArray⟩) : litS ⟨3, 0, xs⟩ = saidS ⟨3, t, 0, 0⟩ ∧ litE ⟨3, 0, xs⟩ = saidE ⟨3, t, 0, 0⟩ := by
  have e1 : xs.data.toList = t := by rw [hx]
  have e2 : xs.size = t.length := by rw [hx]; show t.toArray.size = _; simp
  have hm : Lx.mayT ⟨3, t, 0, 0⟩ = (decide (t.length ≤ 64) && Lib.validD t) := by
    unfold Lx.mayT; simp
  have hl : litE ⟨3, 0, xs⟩ = if (decide (t.length ≤ 64) && Lib.validD t) then 0 else 2 := by
    unfold litE Val.may mayV
    simp only [e1, e2]
    simp
  refine ⟨?_, by rw [hl]; unfold saidE; rw [hm]⟩
  unfold litS saidS
  rw [hl, hm]
  cases (decide (t.length ≤ 64) && Lib.validD t)
  · rfl
  · show (⟨(litB ⟨3, 0, xs⟩).toArray⟩ : ByteArray) = ⟨(Lx.saidT ⟨3, t, 0, 0⟩).toArray⟩
    unfold litB Lx.saidT
    simp only [e1, tw_twice]
    rfl

set_option maxRecDepth 100000 in
set_option maxHeartbeats 6400000 in
theorem textOf_any (w : World) (x : Lx.Tk) (xs : ByteArray) (hxs : xs = ⟨x.t.toArray⟩) (hw : Twf x) (hT : Tabs w) : Calls Tryz.prog 72 #[.agg #[.int .u8 x.k, .string xs, .int .u64 x.n, .int .i64 x.at']] w fun e w' => e = .returned (.tuple #[.string (saidS x), .int .i64 (saidE x)]) ∧ Below w.heap.size w w' := by
  obtain ⟨k, t, n, a⟩ := x
  obtain ⟨k0, k1, n1, a0, a1, t1⟩ := hw
  simp only at k0 k1 n1 a0 a1 t1 hxs ⊢
  have e1 : xs.data.toList = t := by rw [hxs]
  have e2 : xs.size = t.length := by rw [hxs]; show t.toArray.size = _; simp
  obtain ⟨S, hS⟩ : ∃ S, S = saidS ⟨k, t, n, a⟩ := ⟨_, rfl⟩
  obtain ⟨E, hE⟩ : ∃ E, E = saidE ⟨k, t, n, a⟩ := ⟨_, rfl⟩
  rw [← hS, ← hE]
  have TT := hide hT
  have B1 : Below w.heap.size w (w.alloc (.cells #[.int .u8 k, .string xs, .int .u64 n, .int .i64 a] 60)) := (Below.refl _ _).alloc (Nat.le_refl _) _
  have no : ∀ {S : ByteArray} {E : Int}, Lx.mayT ⟨k, t, n, a⟩ = false → S = saidS ⟨k, t, n, a⟩ → E = saidE ⟨k, t, n, a⟩ → Hid (S = ⟨#[]⟩ ∧ E = 2) := fun h a b => ⟨a.trans (said_no h).1, b.trans (said_no h).2⟩
  have yes : ∀ {S : ByteArray} {E : Int}, Lx.mayT ⟨k, t, n, a⟩ = true → S = saidS ⟨k, t, n, a⟩ → E = saidE ⟨k, t, n, a⟩ → Hid (S = ⟨(Lx.saidT ⟨k, t, n, a⟩).toArray⟩ ∧ E = 0) := fun h a b => ⟨a.trans (said_yes h).1, b.trans (said_yes h).2⟩
  have hbe : (xs.toList.isEmpty) = t.isEmpty := by rw [ByteArray.toList_eq, e1]
  by_cases ha : a = 0
  · subst ha
    by_cases hk2 : k = 2
    · subst hk2
      cases hte : t.isEmpty
      · have HR := no (by unfold Lx.mayT; simp [hte]) hS hE
        rw [hte] at hbe
        clear no yes hS hE e1 e2 hxs t1 TT hT
        go_enter Tryz.func72, Tryz.ntmps72
        go_wp2
        go_ret2
        exact ⟨by rw [HR.out.1, HR.out.2]; rfl, B1⟩
      · rw [hte] at hbe
        by_cases hn : n ≤ 9223372036854775808
        · have HR := yes (by unfold Lx.mayT; simp [hte, hn]) hS hE
          have FU := hide (fun wx h => formatUint_any wx n n1 h)
          have HR2 : Hid (S = ⟨(Lib.decDigits n).toArray⟩ ∧ E = 0) := HR
          have hni : (n : Int) ≤ 9223372036854775808 := by omega
          have HT1 := hide (TT.out.later B1).pow
          clear no yes hS hE e1 e2 hxs t1 TT hT
          clear hn HR n1
          go_enter Tryz.func72, Tryz.ntmps72
          go_wp2_with (go_at_call 118; refine (FU.out _ HT1.out).mono ?_; rintro e w3 ⟨rfl, hz⟩; have B3 := B1.trans (hz.mono B1.size))
          go_ret2
          exact ⟨by rw [HR2.out.1, HR2.out.2]; rfl, B3⟩
        · have HR := no (by unfold Lx.mayT; simp [hte, hn]) hS hE
          have hni : ¬ (n : Int) ≤ 9223372036854775808 := by omega
          clear no yes hS hE e1 e2 hxs t1 TT hT
          clear hn n1
          go_enter Tryz.func72, Tryz.ntmps72
          go_wp2
          go_ret2
          exact ⟨by rw [HR.out.1, HR.out.2]; rfl, B1⟩
    · by_cases hn0 : n = 0
      · subst hn0
        by_cases hk1 : k = 1
        · subst hk1
          have IW := hide (fun wx => isWord_any wx xs (by rw [e2]; exact t1))
          rw [e1] at IW
          cases hwd : Lx.isWd t
          · have HR := no (by unfold Lx.mayT; simp [hwd]) hS hE
            rw [hwd] at IW
            clear no yes hS hE e1 e2 hxs t1 TT hT
            clear hwd hk2
            go_enter Tryz.func72, Tryz.ntmps72
            go_wp2_with (go_at_call 117; refine (IW.out _).mono ?_; rintro e w3 ⟨rfl, hz⟩; have B3 := B1.trans (hz.mono B1.size))
            go_ret2
            exact ⟨by rw [HR.out.1, HR.out.2]; rfl, B3⟩
          · have HR := yes (by unfold Lx.mayT; simp [hwd]) hS hE
            have HR2 : Hid (S = xs ∧ E = 0) := ⟨by rw [HR.out.1, hxs]; rfl, HR.out.2⟩
            rw [hwd] at IW
            clear no yes hS hE e1 e2 hxs t1 TT hT
            clear hwd hk2 HR
            go_enter Tryz.func72, Tryz.ntmps72
            go_wp2_with (go_at_call 117; refine (IW.out _).mono ?_; rintro e w3 ⟨rfl, hz⟩; have B3 := B1.trans (hz.mono B1.size); obtain ⟨p, _⟩ := tk_mid hz; obtain ⟨y0, y1, y2, y3, u0, u1, u2, u3, lt⟩ := slot4 p)
            go_ret2
            exact ⟨by rw [HR2.out.1, HR2.out.2]; rfl, B3⟩
        · by_cases hk3 : k = 3
          · subst hk3
            have LI := hide (fun wx h => literal_any wx ⟨3, 0, xs⟩ ⟨(by decide : (0 : Int) ≤ 3), (by decide : (3 : Int) ≤ 255), (by decide : (-9223372036854775808 : Int) ≤ 0), (by decide : (0 : Int) ≤ 9223372036854775807), by rw [e2]; exact t1⟩ h)
            simp only [(litP xs t hxs).1, (litP xs t hxs).2, ← hS, ← hE] at LI
            have HT1 := hide (TT.out.later B1)
            clear no yes hS hE e1 e2 hxs t1 TT hT
            clear hk2 hk1
            go_enter Tryz.func72, Tryz.ntmps72
            go_wp2_with (go_at_call 119; refine (LI.out _ HT1.out).mono ?_; rintro e w3 ⟨rfl, hz⟩; have B3 := B1.trans (hz.mono B1.size))
            go_ret2
            exact ⟨rfl, B3⟩
          · by_cases hk4 : k = 4
            · subst hk4
              have IS := hide (fun wx => isSign_any wx xs)
              rw [e1] at IS
              cases hsg : Lx.isS t
              · have HR := no (by unfold Lx.mayT; simp [hsg]) hS hE
                rw [hsg] at IS
                clear no yes hS hE e1 e2 hxs t1 TT hT
                clear hsg hk2 hk1 hk3
                go_enter Tryz.func72, Tryz.ntmps72
                go_wp2_with (go_at_call 106; refine (IS.out _).mono ?_; rintro e w3 ⟨rfl, rfl⟩)
                go_ret2
                exact ⟨by rw [HR.out.1, HR.out.2]; rfl, B1⟩
              · have HR := yes (by unfold Lx.mayT; simp [hsg]) hS hE
                have HR2 : Hid (S = xs ∧ E = 0) := ⟨by rw [HR.out.1, hxs]; rfl, HR.out.2⟩
                rw [hsg] at IS
                clear no yes hS hE e1 e2 hxs t1 TT hT
                clear hsg hk2 hk1 hk3 HR
                go_enter Tryz.func72, Tryz.ntmps72
                go_wp2_with (go_at_call 106; refine (IS.out _).mono ?_; rintro e w3 ⟨rfl, rfl⟩)
                go_ret2
                exact ⟨by rw [HR2.out.1, HR2.out.2]; rfl, B1⟩
            · have HR := no (by unfold Lx.mayT; simp [hk1, hk2, hk3, hk4]) hS hE
              clear no yes hS hE e1 e2 hxs t1 TT hT
              go_enter Tryz.func72, Tryz.ntmps72
              go_wp2
              go_ret2
              exact ⟨by rw [HR.out.1, HR.out.2]; rfl, B1⟩
      · have HR := no (by unfold Lx.mayT; simp [hk2, hn0]) hS hE
        have hbn : ((n : Int) != 0) = true := by simp; omega
        have hbk : (k != 2) = true := by simp; exact hk2
        clear no yes hS hE e1 e2 hxs t1 TT hT
        clear hn0 hk2
        go_enter Tryz.func72, Tryz.ntmps72
        go_wp2
        go_ret2
        exact ⟨by rw [HR.out.1, HR.out.2]; rfl, B1⟩
  · have HR := no (by unfold Lx.mayT; simp [ha]) hS hE
    clear no yes hS hE e1 e2 hxs t1 TT hT
    go_enter Tryz.func72, Tryz.ntmps72
    go_wp2
    go_ret2
    exact ⟨by rw [HR.out.1, HR.out.2]; rfl, B1⟩
end Go.Proofs.YtedamaccflhmfaaGreatDoor
