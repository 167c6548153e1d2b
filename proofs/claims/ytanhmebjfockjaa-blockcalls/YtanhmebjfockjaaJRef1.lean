/-
  The document's own numbers as bytes: what its calls answer. (Written by wip/gen/jref.py out of stage 1's texts.)
-/
import Derived.Test.YtanhmebjfockjaaJESmall
import Derived.Test.YtanhmebjfockjaaJEAppend
import Derived.Test.YtanhmebjfockjaaJKStep
import Derived.Test.YtanhmebjfockjaaJKSame
namespace Go.Proofs.Ytanhmebjfockjaa
namespace Enc
open Go.RowKit

set_option maxHeartbeats 800000 in
theorem refBytes_any (k : Nat) : ∀ (x : Nat) (w : World), x ≤ k → x < 18446744073709551616 →
    Calls Try.prog 73 #[.int .u64 (x : Int)] w fun e w' => ∃ v', e = .returned v' ∧ Ext w.heap.size w (.slice none 0 0) w' v' (leb x) := by
  induction k with
  | zero =>
    intro x w hk hx
    have e : x = 0 := by omega
    subst e
    go_enter Try.func73, Try.ntmps73
    go_wp2_with (fail)
    go_ret
    exact ⟨_, rfl, Ext.lit0 w.heap.size w _ (leb 0) 1 (Nat.le_refl _) rfl rfl (by decide)⟩
  | succ k ih =>
    intro x w hk hx
    by_cases hs : x < 128
    · have hi : (x : Int) < 128 := by omega
      go_enter Try.func73, Try.ntmps73
      go_wp2_with (fail)
      go_ret
      refine ⟨_, rfl, Ext.lit0 w.heap.size w _ (leb x) 1 (Nat.le_refl _) ?_ (by rw [leb_small x hs]; rfl) (by decide)⟩
      rw [leb_small x hs]
      simp [bc]
      try omega
    · have hi : ¬ (x : Int) < 128 := by omega
      have IH : Hid (∀ wx : World, Calls Try.prog 73 #[.int .u64 ((x : Int) / 128)] wx fun e w' => ∃ v', e = .returned v' ∧ Ext wx.heap.size wx (.slice none 0 0) w' v' (leb (x / 128))) := fun wx => by
        have := ih (x / 128) wx (by omega) (by omega)
        rwa [show ((x / 128 : Nat) : Int) = (x : Int) / 128 from by omega] at this
      have HL : Hid (leb x = UInt8.ofNat (x % 128 + 128) :: leb (x / 128)) := leb_great x hs
      have hp := leb_pos (x / 128)
      have hm := leb_len64 (x / 128) (by omega)
      obtain ⟨c, hc⟩ : ∃ c : UInt8, c = UInt8.ofNat (x % 128 + 128) := ⟨_, rfl⟩
      have LC : Hid ((#[.int .u8 ((x : Int) % 128 + 128)] : Array Value).toList = bc [c]) := by
        show _ = _
        have : (c.toNat : Int) = (x : Int) % 128 + 128 := by rw [hc, more_toNat]; omega
        simp [bc, this]
      have L0 := Ext.lit0 w.heap.size w #[.int .u8 ((x : Int) % 128 + 128)] [c] 1 (Nat.le_refl _) LC.out rfl (by decide)
      have hne : leb (x / 128) ≠ [] := by intro e; rw [e] at hp; simp at hp
      have rm : [c].length + (leb (x / 128)).length ≤ 140737488355328 := by rw [List.length_singleton]; omega
      rw [HL.out, ← hc]
      clear ih hc HL
      go_enter Try.func73, Try.ntmps73
      go_wp2_with (first
        | (go_at_call 73; refine (IH.out _).mono ?_; rintro e w1 ⟨v1, rfl, hx1⟩; obtain ⟨g1, cap1, rfl⟩ := hx1.some hne; have R0 := L0.beside hx1; have nw := own_cells hx1.own; have hb1 : w.heap.size ≤ w1.heap.size := R0.size; clear L0)
        | (at_builtin; refine wpList_append_bytes _ rfl _ _ rfl w.heap.size _ [c] (leb (x / 128)) rfl R0.own ⟨g1, 0, none⟩ _ cap1 rfl rfl nw hp rm hb1 ?_; intro g2 cap2 L2 w2 HL2 hx2 hl2; have R := R0.trans hx2; clear R0 hx1 hx2 nw))
      go_ret
      exact ⟨_, rfl, R⟩

set_option maxHeartbeats 800000 in
theorem refAppend_any (w : World) (a0 : Option Addr) (c0 : Nat) (l : List UInt8) (x : Nat) (h : BytesIn w (.slice a0 l.length c0) l) (hn : a0 = none → c0 = 0) (hx : x < 18446744073709551616) (hlen : l.length ≤ 140737488351232) :
    Calls Try.prog 75 #[.slice a0 l.length c0, .int .u64 (x : Int)] w fun e w' => ∃ v', e = .returned v' ∧ Ext w.heap.size w (.slice none 0 0) w' v' (l ++ leb x) := by
  have L0 := Ext.lit0 w.heap.size w #[] [] 0 (Nat.le_refl _) rfl rfl (by decide)
  have K0 : Below w.heap.size w (w.alloc (.cells #[] 5)) := (Below.refl _ _).alloc (Nat.le_refl _) _
  have V0 := h.later K0
  have hl := h.len
  have hp := leb_pos x
  have hm := leb_len64 x hx
  have hne : leb x ≠ [] := by intro e; rw [e] at hp; simp at hp
  have rm : l.length + (leb x).length ≤ 140737488355328 := by omega
  have BY : Hid (∀ wx : World, Calls Try.prog 73 #[.int .u64 (x : Int)] wx fun e w' => ∃ v', e = .returned v' ∧ Ext wx.heap.size wx (.slice none 0 0) w' v' (leb x)) := fun wx => refBytes_any x x wx (Nat.le_refl _) hx
  clear h
  go_enter Try.func75, Try.ntmps75
  go_wp2_with (first
    | (at_builtin; refine wpList_copy_bytes _ rfl _ _ rfl w.heap.size w.heap.size l l.length c0 rfl rfl L0.own a0 rfl V0 hn hl K0.size ?_; intro g1 cap1 L1 w1 HL1 hx1; have R := L0.trans hx1; clear L0 hx1 V0 K0)
    | (go_at_call 73; refine (BY.out _).mono ?_; rintro e w2 ⟨v2, rfl, hx2⟩; obtain ⟨g2, cap2, rfl⟩ := hx2.some hne; have R2 := R.beside hx2; have nw := own_cells hx2.own; have hb2 : w.heap.size ≤ w2.heap.size := R2.size; clear R)
    | (at_builtin; refine wpList_append_bytes _ rfl _ _ rfl w.heap.size _ l (leb x) rfl R2.own ⟨g2, 0, none⟩ _ cap2 rfl rfl nw hp rm hb2 ?_; intro g3 cap3 L3 w3 HL3 hx3 hl3; have R3 := R2.trans hx3; clear R2 hx2 hx3 nw))
  go_ret
  exact ⟨_, rfl, R3⟩

theorem num_leb : ∀ (k x : Nat), x ≤ k → num (leb x) = x := by
  intro k
  induction k with
  | zero =>
    intro x h
    have e : x = 0 := by omega
    subst e
    rfl
  | succ k ih =>
    intro x h
    by_cases hs : x < 128
    · rw [leb_small x hs, num, num, low_toNat x hs]; omega
    · rw [leb_great x hs, num, more_toNat, ih (x / 128) (by omega)]; omega

theorem rd_zero (l : List UInt8) (h : (rd l).2.2 = 5) : rd l = (0, 0, 5) := by
  have key : ∀ (k j : Nat), (rdFrom l j k).2.2 = 5 → rdFrom l j k = (0, 0, 5) := by
    intro k
    induction k with
    | zero => intro j _; rfl
    | succ k ih =>
      intro j h
      rw [rdFrom] at h ⊢
      split
      · rename_i hj
        rw [dif_pos hj] at h
        split
        · rename_i h1
          rw [if_pos h1] at h
          exact ih _ h
        · rename_i h1
          rw [if_neg h1] at h
          split
          · rename_i h2
            rw [if_pos h2] at h
            simp at h
          · rfl
      · rfl
  exact key 10 0 h

/-- The number that the first n bytes bear. -/
def numN (l : List UInt8) (n : Nat) : Nat := num (l.take n) % 18446744073709551616

theorem rd_first (l : List UInt8) (n X : Nat) (hX : X < 18446744073709551616) (hn : n ≤ l.length) (h : leb X = l.take n) : rd l = (X, n, 0) := by
  have e : l = leb X ++ l.drop n := by rw [h, List.take_append_drop]
  have hl : (leb X).length = n := by rw [h, List.length_take]; omega
  rw [e, rd_back X _ hX, hl]

theorem rd_never (l : List UInt8) (h : ∀ n, 1 ≤ n → n ≤ l.length → n ≤ 10 → leb (numN l n) ≠ l.take n) : rd l = (0, 0, 5) := by
  rcases rd_err l with h0 | h0
  · obtain ⟨h1, h2⟩ := rd_made l h0
    have hl : (leb (rd l).1).length = (rd l).2.1 := by rw [← h1, List.length_take]; omega
    have hlt := rd_lt l
    have hp := leb_pos (rd l).1
    have hm := leb_len64 (rd l).1 hlt
    refine absurd ?_ (h (rd l).2.1 (by omega) h2 (by omega))
    have e : numN l (rd l).2.1 = (rd l).1 := by
      unfold numN; rw [h1, num_leb _ _ (Nat.le_refl _)]; omega
    rw [e, h1]
  · exact rd_zero l h0

theorem numN_step (l : List UInt8) (n j : Nat) (hj : j < n) (hn : n ≤ l.length) :
    num ((l.take n).drop j) = (l[j]).toNat % 128 + 128 * num ((l.take n).drop (j + 1)) := by
  have hl : j < (l.take n).length := by rw [List.length_take]; omega
  rw [List.drop_eq_getElem_cons hl, num, List.getElem_take]

set_option maxRecDepth 20000 in
set_option maxHeartbeats 4000000 in
theorem refRead_some (w : World) (b off cap : Nat) (l : List UInt8) (hv : BytesAt w b off l) (hlen : l.length ≤ 140737488355328) :
    Calls Try.prog 104 #[.slice (some ⟨b, off, none⟩) l.length cap] w fun e w' => e = .returned (.tuple #[.int .u64 ((rd l).1 : Int), .int .i64 ((rd l).2.1 : Int), .int .i64 ((rd l).2.2 : Int)]) ∧ Below w.heap.size w w' := by
  have HV : Hid (BytesAt w b off l) := hv
  clear hv
  go_enter Try.func104, Try.ntmps104
  go_wp2_with (fail)
  go_loopw [6] (fun i wr => ∃ n : Nat, 1 ≤ n ∧ n ≤ l.length + 1 ∧ n ≤ 11 ∧ i = .int .i64 n ∧ Below w.heap.size w wr ∧ (∀ m, 1 ≤ m → m < n → leb (numN l m) ≠ l.take m)) (fun i _ => 11 - (intOf i).toNat)
  case atStart => exact ⟨1, Nat.le_refl _, by omega, by omega, rfl, Below.refl _ _, fun m h1 h2 => by omega⟩
  case round =>
    obtain ⟨n, hn1, hnl, hn10, rfl, hbel, hno⟩ := hrel
    have HNO : Hid (∀ m, 1 ≤ m → m < n → leb (numN l m) ≠ l.take m) := hno
    clear hno
    have HBEL : Hid (Below w.heap.size w wr) := hbel
    by_cases hin : n ≤ l.length ∧ n ≤ 10
    · obtain ⟨hi1, hi2⟩ := hin
      have hi1' : (n : Int) ≤ (l.length : Int) := by omega
      have hi2' : (n : Int) ≤ 10 := by omega
      have hvr : Hid (BytesAt wr b off l) := HV.out.later hbel
      clear hbel
      go_wp2_with (fail)
      go_loop [5, 7] (fun x i => ∃ (j X : Nat) (z : Int), j ≤ n ∧ i = .int .i64 z ∧ z = (j : Int) - 1 ∧ x = .int .u64 X ∧ X = num ((l.take n).drop j) % 18446744073709551616) (fun _ i => (intOf i + 1).toNat)
      case atStart => exact ⟨n, 0, (n : Int) - 1, Nat.le_refl _, by go_num, rfl, rfl, by rw [List.drop_eq_nil_of_le (by rw [List.length_take]; omega)]; rfl⟩
      case round =>
        obtain ⟨j, X, z, hj, rfl, hz, rfl, hX⟩ := hrel
        have HX : Hid (X = num ((l.take n).drop j) % 18446744073709551616) := hX
        clear hX
        cases j with
        | succ k =>
          have ez : z = (k : Int) := by omega
          subst ez
          have hkl : k < l.length := by omega
          have d0 := hvr.out k hkl
          obtain ⟨c, hc⟩ : ∃ c : Nat, c = (l[k]).toNat := ⟨_, rfl⟩
          rw [← hc] at d0
          have hc256 : c < 256 := by rw [hc]; exact UInt8.toNat_lt _
          obtain ⟨Y, hY⟩ : ∃ Y : Nat, Y = (X * 128 + c % 128) % 18446744073709551616 := ⟨_, rfl⟩
          have HY : Hid (Y = num ((l.take n).drop k) % 18446744073709551616) := by
            show _ = _
            rw [hY, HX.out, numN_step l n k (by omega) hi1, ← hc]; omega
          have hYI : IntKind.u64.wrap (IntKind.u64.wrap ((X : Int) * 128) + (c : Int) % 128) = (Y : Int) := by
            rw [IntKind.wrap_u64, IntKind.wrap_u64]; omega
          clear hc hY hz
          go_wp2_with (fail)
          exact ⟨⟨k, Y, (k : Int) - 1, by omega, rfl, rfl, rfl, HY.out⟩, by simp [intOf]⟩
        | zero =>
          have ez : z = -1 := by omega
          subst ez
          have hXN : X = numN l n := by rw [HX.out]; rfl
          have HXN : Hid (X = numN l n) := hXN
          have hX64 : X < 18446744073709551616 := by rw [hXN]; unfold numN; omega
          have BY : Hid (∀ wx : World, Calls Try.prog 73 #[.int .u64 (X : Int)] wx fun e w' => ∃ v', e = .returned v' ∧ Ext wx.heap.size wx (.slice none 0 0) w' v' (leb X)) := fun wx => refBytes_any X X wx (Nat.le_refl _) hX64
          have H64 : Hid (X < 18446744073709551616) := hX64
          have hp := leb_pos X
          have hm := leb_len64 X hX64
          have hne : Hid (leb X ≠ []) := by show _ ≠ _; intro e; rw [e] at hp; simp at hp
          clear hz hX64 hXN HX
          go_wp2_with (go_at_call 73; refine (BY.out _).mono ?_; rintro e w2 ⟨v2, rfl, hx2⟩; obtain ⟨g2, cap2, rfl⟩ := hx2.some hne.out)
          have hb2 := hx2.below (Nat.le_refl _) (by simp [Value.ownBlock])
          have HB2 : Hid (Below w.heap.size w w2) := HBEL.out.trans (hb2.mono HBEL.out.size)
          have HB : Hid (BytesAt w2 b off l) := hvr.out.later hb2
          have HY : Hid (BytesAt w2 g2 0 (leb X)) := fun j hj => by
            rw [Nat.zero_add, hx2.own.cellAt j (by omega), bc_get _ j hj]
          have hgs : g2 < w2.heap.size := by
            have h0 : 0 < (leb X).length := by omega
            exact World.block_lt_of_cell? w2 _ (HY.out 0 h0)
          clear hx2 hb2 BY hvr
          go_loopw [9, 10] (fun s i wr2 => ∃ (j : Nat) (z : Bool), j ≤ n ∧ i = .int .i64 j ∧ s = .bool z ∧ Below w2.heap.size w2 wr2 ∧ (z = true → (leb X).length = n ∧ (leb X).take j = l.take j) ∧ (z = false → leb X ≠ l.take n)) (fun _ i _ => n - (intOf i).toNat)
          case atStart =>
            refine ⟨0, ((leb X).length : Int) == (n : Int), Nat.zero_le _, rfl, rfl, Below.refl _ _, fun h => ⟨?_, rfl⟩, fun h e => ?_⟩
            · have : ((leb X).length : Int) = (n : Int) := by simpa using h
              omega
            · rw [beq_eq_false_iff_ne] at h
              have := congrArg List.length e
              rw [List.length_take] at this
              omega
          case round =>
            obtain ⟨j, z, hj, rfl, rfl, hbel2, hzt, hzf⟩ := hrel
            have HZT : Hid (z = true → (leb X).length = n ∧ (leb X).take j = l.take j) := hzt
            have HZF : Hid (z = false → leb X ≠ l.take n) := hzf
            have HB3 : Hid (Below w.heap.size w wr) := HB2.out.trans (hbel2.mono HB2.out.size)
            clear hzt hzf
            cases z with
            | false =>
              have HN : Hid (∀ m, 1 ≤ m → m < n + 1 → leb (numN l m) ≠ l.take m) := fun m h1 h2 => by
                by_cases e : m = n
                · subst e; rw [← HXN.out]; exact HZF.out rfl
                · exact HNO.out m h1 (by omega)
              clear HZT HZF HNO
              go_wp2_with (fail)
              all_goals exact ⟨⟨n + 1, by omega, by omega, by omega, by go_num, HB3.out, HN.out⟩, by simp [intOf]; omega⟩
            | true =>
              by_cases hlt : j < n
              · have hljl : j < l.length := by omega
                have hlx := (HZT.out rfl).1
                have hjx : j < (leb X).length := by omega
                have d0 := (hbel2.cell (World.block_lt_of_cell? w2 _ (HB.out j hljl))).trans (HB.out j hljl)
                have e0 := (hbel2.cell (World.block_lt_of_cell? w2 _ (HY.out j hjx))).trans (HY.out j hjx)
                rw [Nat.zero_add] at e0
                obtain ⟨c, hc⟩ : ∃ c : Nat, c = (l[j]).toNat := ⟨_, rfl⟩
                obtain ⟨d, hd⟩ : ∃ d : Nat, d = ((leb X)[j]).toNat := ⟨_, rfl⟩
                rw [← hc] at d0
                rw [← hd] at e0
                have HLX : Hid ((leb X).length = n) := hlx
                have hji : (j : Int) < ((leb X).length : Int) := by omega
                by_cases hcd : d = c
                · have HR : Hid ((leb X).take (j + 1) = l.take (j + 1)) := take_same (HZT.out rfl).2 hjx hljl (by apply UInt8.toNat_inj.mp; rw [← hc, ← hd]; exact hcd)
                  have hbb : ((d : Int) == (c : Int)) = true := by simp [hcd]
                  clear hc hd hcd hlx HZT HZF
                  go_wp2_with (fail)
                  go_quiet (fail)
                  go_wp2_with (fail)
                  exact ⟨⟨j + 1, true, by omega, by go_num, rfl, below_drewN hbel2 _, fun _ => ⟨HLX.out, HR.out⟩, fun h => (by cases h)⟩, by simp [intOf]; omega⟩
                · have HR : Hid (leb X ≠ l.take n) := fun e => hcd (by
                    rw [hc, hd]
                    congr 1
                    have : (leb X)[j]? = (l.take n)[j]? := by rw [← e]
                    rw [List.getElem?_eq_getElem hjx, List.getElem?_take, if_pos hlt, List.getElem?_eq_getElem hljl] at this
                    exact Option.some.inj this)
                  have hbb : ((d : Int) == (c : Int)) = false := by rw [beq_eq_false_iff_ne]; omega
                  clear hc hd hcd hlx HZT HZF
                  go_wp2_with (fail)
                  go_quiet (fail)
                  go_wp2_with (fail)
                  exact ⟨⟨j + 1, false, by omega, by go_num, rfl, below_drewN hbel2 _, fun h => (by cases h), fun _ => HR.out⟩, by simp [intOf]; omega⟩
              · have ej : j = n := by omega
                subst ej
                have HF : Hid (rd l = (X, j, 0)) := by
                  show _ = _
                  refine rd_first l j X H64.out hi1 ?_
                  obtain ⟨h1, h2⟩ := HZT.out rfl
                  rw [List.take_of_length_le (by omega)] at h2
                  exact h2
                clear HZT HZF
                go_wp2_with (fail)
                go_ret3
                exact ⟨by rw [HF.out]; rfl, HB3.out⟩
    · have HF : Hid (rd l = (0, 0, 5)) := rd_never l (fun m h1 h2 h3 => HNO.out m h1 (by omega))
      have hor : ¬ ((n : Int) ≤ (l.length : Int)) ∨ ((n : Int) ≤ (l.length : Int) ∧ ¬ (n : Int) ≤ 10) := by omega
      clear HNO
      rcases hor with h1 | ⟨h1, h2⟩
      all_goals
        go_wp2_with (fail)
        go_ret3
        exact ⟨by rw [HF.out]; rfl, HBEL.out⟩

theorem refRead_none (w : World) (a : Option Addr) (cap : Nat) :
    Calls Try.prog 104 #[.slice a 0 cap] w fun e w' => e = .returned (.tuple #[.int .u64 0, .int .i64 0, .int .i64 5]) ∧ w' = w := by
  go_enter Try.func104, Try.ntmps104
  go_wp2_with (fail)
  refine wp_loop_rounds 1 ?_
  rw [rounds_succ]
  go_wp2_with (fail)
  go_ret3
  exact ⟨rfl, rfl⟩

theorem refRead_any (w : World) (v : Value) (l : List UInt8) (h : BytesIn w v l) :
    Calls Try.prog 104 #[v] w fun e w' => e = .returned (.tuple #[.int .u64 ((rd l).1 : Int), .int .i64 ((rd l).2.1 : Int), .int .i64 ((rd l).2.2 : Int)]) ∧ Below w.heap.size w w' := by
  obtain ⟨⟨a, cap, rfl, hf⟩, hlen⟩ := h
  by_cases h0 : l = []
  · subst h0
    refine (refRead_none w a cap).mono ?_
    rintro e w' ⟨rfl, rfl⟩
    exact ⟨rfl, Below.refl _ _⟩
  · obtain ⟨b, off, rfl, hv⟩ := hf h0
    exact refRead_some w b off cap l hv hlen

set_option maxHeartbeats 1600000 in
theorem refSmall_any (w : World) (v : Value) (l : List UInt8) (most : Int) (hm : most ≤ 9223372036854775807) (hm0 : -9223372036854775808 ≤ most) (h : BytesIn w v l) :
    Calls Try.prog 78 #[v, .int .i64 most] w fun e w' => e = .returned (.tuple #[.int .i64 (smX l most), .int .i64 (smN l most), .int .i64 (smE l most)]) ∧ Below w.heap.size w w' := by
  have RD : Hid (Calls Try.prog 104 #[v] w fun e w' => e = .returned (.tuple #[.int .u64 ((rd l).1 : Int), .int .i64 ((rd l).2.1 : Int), .int .i64 ((rd l).2.2 : Int)]) ∧ Below w.heap.size w w') := refRead_any w v l h
  have F : ∀ c, ((rd l).2.2 = 0 ∧ 0 ≤ most ∧ ((rd l).1 : Int) ≤ most) = c → Hid (c → smX l most = ((rd l).1 : Int) ∧ smN l most = ((rd l).2.1 : Int) ∧ smE l most = 0) ∧ Hid (¬ c → smX l most = 0 ∧ smN l most = 0 ∧ smE l most = 5) := by
    rintro c rfl
    exact ⟨fun h => ⟨if_pos h, if_pos h, if_pos h⟩, fun h => ⟨if_neg h, if_neg h, if_neg h⟩⟩
  obtain ⟨F1, F2⟩ := F _ rfl
  clear F h
  have hlt := rd_lt l
  have he := rd_err l
  obtain ⟨X, hX⟩ : ∃ X, X = (rd l).1 := ⟨_, rfl⟩
  obtain ⟨N, hN⟩ : ∃ N, N = (rd l).2.1 := ⟨_, rfl⟩
  obtain ⟨E, hE⟩ : ∃ E, E = (rd l).2.2 := ⟨_, rfl⟩
  obtain ⟨sx, hsx⟩ : ∃ s, s = smX l most := ⟨_, rfl⟩
  obtain ⟨sn, hsn⟩ : ∃ s, s = smN l most := ⟨_, rfl⟩
  obtain ⟨se, hse⟩ : ∃ s, s = smE l most := ⟨_, rfl⟩
  rw [← hX, ← hN, ← hE] at RD F1
  rw [← hX, ← hE] at F2
  rw [← hsx, ← hsn, ← hse] at F1 F2 ⊢
  rw [← hX] at hlt
  rw [← hE] at he
  clear hX hN hE hsx hsn hse
  rcases he with rfl | rfl
  · by_cases h1 : 0 ≤ most
    · have h1' : ¬ most < 0 := by omega
      have hw : IntKind.u64.wrap most = most := by rw [IntKind.wrap_u64]; omega
      by_cases h2 : (X : Int) ≤ most
      · have h2' : ¬ most < (X : Int) := by omega
        have hwx : IntKind.i64.wrap (X : Int) = (X : Int) := by simp only [IntKind.wrap, IntKind.bits, IntKind.signed]; simp; omega
        obtain ⟨rfl, rfl, rfl⟩ := F1.out ⟨rfl, h1, h2⟩
        clear F1 F2
        go_enter Try.func78, Try.ntmps78
        go_wp2_with (go_at_call 104; refine RD.out.mono ?_; rintro e w' ⟨rfl, hb⟩)
        go_ret3
        exact ⟨rfl, hb⟩
      · have h2' : most < (X : Int) := by omega
        obtain ⟨rfl, rfl, rfl⟩ := F2.out (fun h => h2 h.2.2)
        clear F1 F2
        go_enter Try.func78, Try.ntmps78
        go_wp2_with (go_at_call 104; refine RD.out.mono ?_; rintro e w' ⟨rfl, hb⟩)
        go_ret3
        exact ⟨rfl, hb⟩
    · have h1' : most < 0 := by omega
      obtain ⟨rfl, rfl, rfl⟩ := F2.out (fun h => h1 h.2.1)
      clear F1 F2
      go_enter Try.func78, Try.ntmps78
      go_wp2_with (go_at_call 104; refine RD.out.mono ?_; rintro e w' ⟨rfl, hb⟩)
      go_ret3
      exact ⟨rfl, hb⟩
  · obtain ⟨rfl, rfl, rfl⟩ := F2.out (fun h => by cases h.1)
    clear F1 F2
    go_enter Try.func78, Try.ntmps78
    go_wp2_with (go_at_call 104; refine RD.out.mono ?_; rintro e w' ⟨rfl, hb⟩)
    go_ret3
    exact ⟨rfl, hb⟩

end Enc
end Go.Proofs.Ytanhmebjfockjaa
