/-
  The walk of SstAltered: one frame of a table's bytes is turned within 32 bits, and the table is refused, or tells only that block as odd. (Written by wip/gen/salt.py.)
-/
import Derived.Test.YtepkhbbhpamdnaaSFinds
import Derived.Test.YtepkhbbhpamdnaaSFr
import Derived.Test.YtepkhbbhpamdnaaJPick
import Derived.Test.YtepkhbbhpamdnaaSE
import Derived.Test.YtepkhbbhpamdnaaSI
import Derived.Test.YtepkhbbhpamdnaaSD
import Derived.Deep.RegionHeld3
namespace Go.Proofs.Ytepkhbbhpamdnaa.sstAltered
open Go.RowKit
open Go.Proofs.Ytepkhbbhpamdnaa
open Go.Proofs.Ytepkhbbhpamdnaa.sstFinds (sall_any two_cells)

theorem getN_le (t : Ss.Tab) (k : List UInt8) (q : Int) : Ss.getN t k q ≤ 1 := by
  unfold Ss.getN
  split
  · omega
  · split <;> omega
/-- What lies beside the table that was read. -/
theorem keep_other {w w' : World} {B i j : Nat} {v : Value} (hg : w.grownBy w' (some B)) (hne : i ≠ B) (h : w.cell? ⟨i, j, none⟩ = some v) : w'.cell? ⟨i, j, none⟩ = some v := by
  exact (hg.cell_far ⟨i, j, none⟩ (World.block_lt_of_cell? w _ h) (fun e => hne (Option.some.inj e))).trans h
theorem at_of_in {w : World} {g n c : Nat} {l : List UInt8} (h : BytesIn w (.slice (some ⟨g, 0, none⟩) n c) l) (hl : l ≠ []) : BytesAt w g 0 l := by
  obtain ⟨⟨a, cp, e, f⟩, _⟩ := h
  obtain ⟨b, off, e2, hb⟩ := f hl
  simp only [Value.slice.injEq] at e
  rw [← e.1] at e2
  cases e2
  exact hb

set_option maxRecDepth 100000 in
set_option maxHeartbeats 4000000 in
theorem walk_off (w : World) (a : Option Addr) (c n : Nat) (l : List Mm.Ent) (hat : EntsAt w (.slice a n c) l) (hn : n = l.length) (hlen : n ≤ maxLen) (hok : ∀ x ∈ l, x.key.length ≤ maxLen ∧ x.value.length ≤ maxLen)
    (per bits which at' : Int) (turn : Nat) (key : List UInt8) (seq : Int) (hoff : small9B l = false ∨ (small9B l = true ∧ (turn = 0 ∨ Ss.checkE l per bits ≠ 0))) :
    Calls Try.prog 3 #[.slice a n c, .int .i64 per, .int .i64 bits, .int .i64 which, .int .i64 at', .int .u32 (turn : Int), str key, .int .i64 seq] w fun e w' => e = .returned (.bool true) ∧ Below w.heap.size w w' := by
  have LV := hide (slives_any w)
  have SM : Hid (∀ wx, Below w.heap.size w wx → Calls Try.prog 5 #[.slice a n c] wx fun e w' => e = .returned (.bool (small9B l)) ∧ Below wx.heap.size wx w') := fun wx hx => small9_any wx a c n l (hat.later hx) hn hlen hok _ rfl
  rcases hoff with hs | ⟨hs, hoff⟩
  · rw [hs] at SM
    clear hs hat hok hn
    go_enter Try.func3, Try.ntmps3
    go_wp2_with (first
      | (go_at_call 4; refine LV.out.mono ?_; rintro e w1 ⟨rfl, b1⟩; clear LV)
      | (go_at_call 5; refine (SM.out _ b1).mono ?_; rintro e w2 ⟨rfl, b2⟩; clear SM))
    go_ret
    exact ⟨rfl, b1.trans (b2.mono b1.size)⟩
  obtain ⟨l150, hsm⟩ := small9_facts hs
  have hk : ∀ x ∈ l, x.key.length ≤ 1000000 ∧ x.value.length ≤ 1000000 := fun x hx => by have := hsm x hx; omega
  rw [hs] at SM
  by_cases ht : turn = 0
  · subst ht
    clear hoff hs hat hok hn hsm hk
    go_enter Try.func3, Try.ntmps3
    go_wp2_with (first
      | (go_at_call 4; refine LV.out.mono ?_; rintro e w1 ⟨rfl, b1⟩; clear LV)
      | (go_at_call 5; refine (SM.out _ b1).mono ?_; rintro e w2 ⟨rfl, b2⟩; clear SM))
    go_ret
    exact ⟨rfl, b1.trans (b2.mono b1.size)⟩
  have hc : Ss.checkE l per bits ≠ 0 := by rcases hoff with e | e; exact absurd e ht; exact e
  have BD : Hid (∀ wx, Below w.heap.size w wx → Calls Try.prog 6 #[.slice a n c, .int .i64 per, .int .i64 bits] wx fun e w' => e = .returned (.tuple #[.slice none 0 0, .int .i64 (Ss.checkE l per bits)]) ∧ Below wx.heap.size wx w') := fun wx hx => sbuild_bad wx a c n l (hat.later hx) hn (by omega) hk per bits hc
  have hq : (Ss.checkE l per bits != 0) = true := by simpa using hc
  have i1 : ((turn : Int) == 0) = false := by simp; omega
  clear hc hoff
  generalize Ss.checkE l per bits = E at *
  clear hs hat hok hn hsm hk ht
  go_enter Try.func3, Try.ntmps3
  go_wp2_with (first
    | (go_at_call 4; refine LV.out.mono ?_; rintro e w1 ⟨rfl, b1⟩; clear LV)
    | (go_at_call 5; refine (SM.out _ b1).mono ?_; rintro e w2 ⟨rfl, b2⟩; have B2 := b1.trans (b2.mono b1.size); clear SM)
    | (go_at_call 6; refine (BD.out _ B2).mono ?_; rintro e w3 ⟨rfl, b3⟩; have B3 := B2.trans (b3.mono B2.size); clear BD))
  go_ret
  exact ⟨rfl, B3⟩

set_option maxRecDepth 100000 in
set_option maxHeartbeats 8000000 in
theorem walk_on (w : World) (a : Option Addr) (c n : Nat) (l : List Mm.Ent) (hat : EntsAt w (.slice a n c) l) (hn : n = l.length) (hlen : n ≤ maxLen) (hcap : n ≤ c) (hok : ∀ x ∈ l, x.key.length ≤ maxLen ∧ x.value.length ≤ maxLen)
    (pr d : Nat) (which at' : Int) (turn : Nat) (key : List UInt8) (hkey : key.length ≤ 140737488355328) (seq : Int) (h1 : -9223372036854775808 ≤ which) (h2 : which ≤ 9223372036854775807) (ha : at' ≤ 9223372036854775807) (hbt : turn < 4294967296)
    (hs : small9B l = true) (ht0 : turn ≠ 0) (hc0 : Ss.checkE l pr d = 0) :
    Calls Try.prog 3 #[.slice a n c, .int .i64 (pr : Int), .int .i64 (d : Int), .int .i64 which, .int .i64 at', .int .u32 (turn : Int), str key, .int .i64 seq] w fun e w' => e = .returned (.bool true) ∧ Below w.heap.size w w' := by
  have LV := hide (slives_any w)
  have SM : Hid (∀ wx, Below w.heap.size w wx → Calls Try.prog 5 #[.slice a n c] wx fun e w' => e = .returned (.bool true) ∧ Below wx.heap.size wx w') := fun wx hx => by
    have := small9_any wx a c n l (hat.later hx) hn hlen hok _ rfl
    rw [hs] at this
    exact this
  obtain ⟨l150, hsm⟩ := small9_facts hs
  have hk : ∀ x ∈ l, x.key.length ≤ 1000000 ∧ x.value.length ≤ 1000000 := fun x hx => by have := hsm x hx; omega
  obtain ⟨⟨q1, q2, q3, q4⟩, l1, _, _, ho⟩ := Ss.check_parts hc0
  obtain ⟨op1, op2, op3⟩ := Ss.open_back hc0 (by omega)
  obtain ⟨c1, c2⟩ := Ss.cnt_le hc0
  have hu := up_of_ord ((Bk.inOrd_iff l).1 ho)
  obtain ⟨C, hC⟩ : ∃ C, C = Ss.cnt l pr := ⟨_, rfl⟩
  obtain ⟨M, hM⟩ : ∃ M, M = C + 3 := ⟨_, rfl⟩
  have hM' : M = Ss.cnt l pr + 3 := by rw [hM, hC]
  obtain ⟨N, hN⟩ : ∃ N, N = (Ss.buildB l pr d).length := ⟨_, rfl⟩
  have hne : Ss.buildB l pr d ≠ [] := by intro e; rw [e] at op1; exact absurd op1 (by decide +kernel)
  have HA := hide hat
  have BD : Hid (∀ wx, Below w.heap.size w wx → Calls Try.prog 6 #[.slice a n c, .int .i64 (pr : Int), .int .i64 (d : Int)] wx fun e w' => ∃ g cap, e = .returned (.tuple #[.slice (some ⟨g, 0, none⟩) N cap, .int .i64 0]) ∧ Hid (BytesIn w' (.slice (some ⟨g, 0, none⟩) N cap) (Ss.buildB l pr d)) ∧ N ≤ cap ∧ Below wx.heap.size wx w') := fun wx hx => by
    refine (sbuild_ok wx a c n l (HA.out.later hx) hn hcap (by omega) hk pr d hc0).mono ?_
    rintro e w' ⟨v, rfl, o, b⟩
    obtain ⟨g, cap, rfl⟩ := own_some o hne
    rw [hN]
    exact ⟨g, cap, rfl, bytes_of_own o (by show (Ss.buildB l pr d).length ≤ _; omega), (own_cap o).1, b⟩
  have FR : Hid (∀ wx g cap, N ≤ cap → Hid (BytesIn wx (.slice (some ⟨g, 0, none⟩) N cap) (Ss.buildB l pr d)) → Calls Try.prog 7 #[.slice (some ⟨g, 0, none⟩) N cap] wx fun e w' => ∃ ge ce, e = .returned (.slice (some ⟨ge, 0, none⟩) (M + 1) ce) ∧ Hid (w'.ownsRow wx.heap.size 3 1 (.slice (some ⟨ge, 0, none⟩) (M + 1) ce) (M + 1) (fends l pr d M)) ∧ Below wx.heap.size wx w') := fun wx g cap _ h => by
    have hb := at_of_in h.out hne
    exact frames_any wx l pr d M g 0 N cap hc0 l150 (by omega) (by rw [hM', Ss.dtA_all]; exact hb) (by rw [hM', Ss.dtA_all]; exact hN)
  have PK : Hid (∀ wx, Calls Try.prog 8 #[.int .i64 which, .int .i64 (M : Int)] wx fun e w' => ∃ k : Nat, k < M ∧ e = .returned (.int .i64 (k : Int)) ∧ w' = wx) := fun wx => jpick_any wx which M (by omega) (by omega) h1 h2
  obtain ⟨X0, hX0⟩ : ∃ X, X = findE l key seq := ⟨_, rfl⟩
  obtain ⟨XE, hXE⟩ : ∃ XE, XE = X0.getD zeroE := ⟨_, rfl⟩
  obtain ⟨XB, hXB⟩ : ∃ XB, XB = X0.isSome := ⟨_, rfl⟩
  have FD : Hid (∀ wx, Below w.heap.size w wx → Calls Try.prog 13 #[.slice a n c, str key, .int .i64 seq] wx fun e w' => e = .returned (.tuple #[entV XE, .bool XB]) ∧ Below wx.heap.size wx w') := fun wx hx => by
    have := find_any wx _ c _ l (HA.out.later hx) hn (by omega) hk hu key seq
    rw [← hX0] at this
    rw [show foundV X0 = .tuple #[entV (X0.getD zeroE), .bool X0.isSome] from by cases X0 <;> rfl, ← hXE, ← hXB] at this
    exact this
  have i1 : ((turn : Int) == 0) = false := by simp; omega
  have wM : IntKind.i64.wrap (M : Int) = (M : Int) := by rw [IntKind.wrap_i64]; omega
  have wM1 : IntKind.i64.wrap ((M : Int) + 1 - 1) = (M : Int) := by rw [IntKind.wrap_i64]; omega
  have wM4 : IntKind.i64.wrap ((M : Int) + 1 - 4) = (C : Int) := by rw [IntKind.wrap_i64]; omega
  have HC := hide hC
  have HXE := hide hXE
  have HXB := hide hXB
  have HM := hide hM
  have HC0 := hide hc0
  have HN := hide hN
  have HO3 := hide op3
  have M9 : M ≤ 160 := by omega
  have N9 : N ≤ 331000000 := by omega
  have l150' : Hid (l.length ≤ 150) := l150
  clear hat hok hlen hcap hsm hk hs hu ho op1 op2 op3 hc0 hM' hM hN hC hne hXE hXB h1 h2 c1 c2 q1 q2 q3 q4 l1 l150 hn
  go_enter Try.func3, Try.ntmps3
  go_wp2_with (first
    | (go_at_call 4; refine LV.out.mono ?_; rintro e w1 ⟨rfl, b1⟩; clear LV)
    | (go_at_call 5; refine (SM.out _ b1).mono ?_; rintro e w2 ⟨rfl, b2⟩; have B2 := b1.trans (b2.mono b1.size); clear SM b1 b2)
    | (go_at_call 6; refine (BD.out _ B2).mono ?_; rintro e w3 ⟨g, cap, rfl, y3, hcap3, b3⟩; have B3 := B2.trans (b3.mono B2.size); clear BD B2 b3)
    | (go_at_call 7; refine (FR.out _ _ _ hcap3 y3).mono ?_; rintro e w4 ⟨ge, ce, rfl, O4, b4⟩; have B4 := B3.trans (b4.mono B3.size); have V4 := hide (y3.out.later b4); clear FR B3 b4 y3)
    | (go_at_call 8; refine (PK.out _).mono ?_; rintro e w5 ⟨k, hk, rfl, rfl⟩; clear PK))
  obtain ⟨F, hF⟩ : ∃ F, F = (Ss.dtA l pr d k).length := ⟨_, rfl⟩
  obtain ⟨S, hS⟩ : ∃ S, S = frm (Ss.rcA l pr d k) := ⟨_, rfl⟩
  obtain ⟨fk, hfk⟩ : ∃ fk, fk = S.length := ⟨_, rfl⟩
  have hE0 : (Ss.dtA l pr d (k + 1)).length = F + fk := by rw [hF, hfk, hS]; show (Ss.dtA l pr d k ++ _).length = _; rw [List.length_append]
  have hM' : M = Ss.cnt l pr + 3 := by rw [HM.out, HC.out]
  obtain ⟨t, ht⟩ := Ss.dtA_pre l pr d (k + 1) M hk
  have hD : Ss.buildB l pr d = Ss.dtA l pr d k ++ (S ++ t) := by rw [← Ss.dtA_all, ← hM', ht, hS, ← List.append_assoc]; rfl
  have hNN : N = F + fk + t.length := by rw [HN.out, hD, List.length_append, List.length_append, hF, hfk]; omega
  have hr1 : (Ss.rcA l pr d k).length ≤ 400000 := Ss.rcA_len HC0.out l150'.out k
  have hfk0 : 12 ≤ fk := by rw [hfk, hS, frm_length]; omega
  have hfk9 : fk ≤ 400012 := by rw [hfk, hS, frm_length]; omega
  have P0 : w5.cell? ⟨ge, k, none⟩ = some (.int .i64 (F : Int)) ∧ w5.cell? ⟨ge, k + 1, none⟩ = some (.int .i64 ((F + fk : Nat) : Int)) := by
    have c1 := O4.out.cellAt k (by omega)
    have c2 := O4.out.cellAt (k + 1) (by omega)
    refine ⟨c1.trans ?_, c2.trans ?_⟩
    · unfold fends; rw [List.getElem?_map, List.getElem?_range (by omega), hF]; rfl
    · unfold fends; rw [List.getElem?_map, List.getElem?_range (by omega), ← hE0]; rfl
  have SB : Hid (∀ wx c', Below w5.heap.size w5 wx → BytesIn wx (.slice (some ⟨g, F, none⟩) fk c') S) := fun wx c' hx => by
    have := (V4.out.later hx).part F fk (by rw [← HN.out]; omega) c'
    rw [Nat.zero_add] at this
    have e : ((Ss.buildB l pr d).drop F).take fk = S := by
      rw [hD, List.drop_left' hF.symm]
      exact List.take_left' hfk.symm
    rw [e] at this
    exact this
  obtain ⟨E, hE⟩ : ∃ E, E = F + fk := ⟨_, rfl⟩
  rw [← hE] at P0
  have CE : Hid (∀ wx, Below w5.heap.size w5 wx → wx.cell? ⟨ge, k, none⟩ = some (.int .i64 (F : Int)) ∧ wx.cell? ⟨ge, k + 1, none⟩ = some (.int .i64 (E : Int))) := fun wx hx => ⟨keepC hx P0.1, keepC hx P0.2⟩
  have P1 : w5.drew.cell? ⟨ge, k, none⟩ = some (.int .i64 (F : Int)) ∧ w5.drew.cell? ⟨ge, k + 1, none⟩ = some (.int .i64 (E : Int)) := CE.out _ (Below.refl _ _).drew
  have HQ3 : Hid (E - F = fk) := by show _ = _; omega
  have r1 : (0 : Int) ≤ (k : Int) := by omega
  have r2 : (k : Int) ≤ (M : Int) := by omega
  have r3 : (k : Int) < (M : Int) + 1 := by omega
  have r4 : (0 : Int) ≤ (k : Int) + 1 := by omega
  have r5 : (k : Int) + 1 < (M : Int) + 1 := by omega
  have r6 : (k : Int) + 1 ≤ (M : Int) := by omega
  have r7 : IntKind.i64.wrap ((k : Int) + 1) = (k : Int) + 1 := by rw [IntKind.wrap_i64]; omega
  have r8 : (0 : Int) ≤ (F : Int) := by omega
  have r9 : (F : Int) ≤ (E : Int) := by omega
  have r10 : (E : Int) ≤ (cap : Int) := by omega
  have r11 : (E : Int) ≤ (N : Int) := by omega
  have r12 : ¬ cap = F := by omega
  have qE : F + fk = E := hE.symm
  cases hB : burB S at' turn with
  | false =>
    have BU : Hid (∀ wx o' n' c', Below w5.heap.size w5 wx → o' = F → n' = fk → Calls Try.prog 9 #[.slice (some ⟨g, o', none⟩) n' c', .int .i64 at', .int .u32 (turn : Int)] wx fun e w' => ∃ v, e = .returned (.tuple #[v, .int .i64 2]) ∧ Below wx.heap.size wx w') := fun wx o' n' c' hx ho hn => by
      subst ho
      have hb := SB.out wx c' hx
      rw [hfk] at hb hn
      subst hn
      refine (burst_any wx _ c' S at' turn hb ha hbt).mono ?_
      rintro e w' ⟨v, rfl, hx⟩
      have e1 : burE S at' turn = 2 := by unfold burE; rw [hB]; rfl
      rw [e1]
      exact ⟨v, rfl, hx.below (Nat.le_refl _) (by simp [Value.ownBlock])⟩
    clear hF hS hfk hE0 hM' ht hD hNN hr1 hfk0 hfk9 P0 SB hE qE hB
    go_region_held3 (fun w' => w'.cell? ⟨ge, k, none⟩ = some (.int .i64 (F : Int)) ∧ w'.cell? ⟨ge, k + 1, none⟩ = some (.int .i64 (E : Int)))
      (first | exact P1 | exact P2)
      (first | (go_at_call 9; go_loud (refine (BU.out _ _ _ _ (Below.refl _ _).drew rfl HQ3.out).mono ?_; rintro e w6 ⟨v6, rfl, b6⟩; have D6 := hide ((Below.refl _ w5).drew.trans (b6.mono (Nat.le_refl _))); have P2 := CE.out _ D6.out)))
    go_wp2_with (fail)
    go_ret
    exact ⟨rfl, B4.trans (D6.out.mono B4.size)⟩
  | true =>
    have hat0 : 0 ≤ at' := by
      rcases Int.lt_or_le at' 0 with h | h
      · rw [burB_neg h] at hB; cases hB
      · exact h
    obtain ⟨p, rfl⟩ : ∃ p : Nat, at' = p := ⟨at'.toNat, by omega⟩
    obtain ⟨X, hX⟩ : ∃ X, X = Crc.burst S p turn 32 := ⟨_, rfl⟩
    have lX : X.length = fk := by rw [hX, Crc.burst_length, hfk]
    have e1' : burE S p turn = 0 := by unfold burE; rw [hB]; rfl
    have e2' : burL S p turn = X := by unfold burL; rw [hX, hB, Int.toNat_natCast]; rfl
    have BU : Hid (∀ wx o' n' c', Below w5.heap.size w5 wx → o' = F → n' = fk → Calls Try.prog 9 #[.slice (some ⟨g, o', none⟩) n' c', .int .i64 (p : Int), .int .u32 (turn : Int)] wx fun e w' => ∃ g' c', e = .returned (.tuple #[.slice (some ⟨g', 0, none⟩) fk c', .int .i64 0]) ∧ Hid (BytesIn w' (.slice (some ⟨g', 0, none⟩) fk c') X) ∧ Below wx.heap.size wx w') := fun wx o' n' c' hx ho hn => by
      subst ho
      have hb := SB.out wx c' hx
      rw [hfk] at hb hn
      subst hn
      refine (burst_any wx _ c' S p turn hb ha hbt).mono ?_
      rintro e w' ⟨v, rfl, hx⟩
      rw [e1']
      rw [e2'] at hx
      obtain ⟨g', c', rfl⟩ := hx.some (by intro e; rw [e] at lX; simp at lX; omega)
      have hin := bytes_of_own hx.own (by omega)
      rw [lX] at hin ⊢
      exact ⟨g', c', rfl, hin, hx.below (Nat.le_refl _) (by simp [Value.ownBlock])⟩
    have hr6 : rdE X = 6 := by
      have := read_altered (Ss.rcA l pr d k) [] p turn (by omega) hbt ht0 (by rw [← hS]; exact (burB_iff S p turn).mp hB)
      rw [List.append_nil, ← hS, ← hX] at this
      exact this
    have ODD := hide (Ss.odd_open HC0.out l150'.out (by rw [← hM']; exact hk) (x := X) (t := t) (by rw [← hS, ← hfk]; exact lX) hr6 (by rw [hD, hS]))
    have HXL : Hid (X.length = (frm (Ss.rcA l pr d k)).length) := by show _ = _; rw [lX, hfk, hS]
    have HR6 := hide hr6
    have HNN := hide hNN
    have HF := hide hF
    have HD := hide hD
    have LX2 : Hid (fk = X.length) := lX.symm
    have HFK := hide hfk
    have HFK9 := hide hfk9
    clear hF hS hfk hE0 hM' ht hD hNN hr1 hfk0 hfk9 P0 SB qE hB hX lX e1' e2' hr6 hat0
    have QE := hide hE
    clear hE
    go_region_held3 (fun w' => w'.cell? ⟨ge, k, none⟩ = some (.int .i64 (F : Int)) ∧ w'.cell? ⟨ge, k + 1, none⟩ = some (.int .i64 (E : Int)))
      (first | exact P1 | exact P2)
      (first | (go_at_call 9; refine (BU.out _ _ _ _ (Below.refl _ _).drew rfl HQ3.out).mono ?_; rintro e w6 ⟨g6, c6, rfl, V6, b6⟩; have D6 := hide ((Below.refl _ w5).drew.trans (b6.mono (Nat.le_refl _))); have P2 := CE.out _ D6.out))
    go_wp2_with (fail)
    have B6 := B4.trans (D6.out.mono B4.size)
    have W6 := V4.out.later D6.out
    obtain ⟨P, hP⟩ : ∃ P, P = Ss.dtA l pr d k := ⟨_, rfl⟩
    have lP : P.length = F := by rw [hP, HF.out]
    have nn := HNN.out
    have qe := QE.out
    have CP : Hid (∀ wx, Below w6.heap.size w6 wx → Calls Try.prog 10 #[.slice (some ⟨g, 0, none⟩) F cap] wx fun e w' => ∃ g7 cap7, e = .returned (.slice (some ⟨g7, 0, none⟩) F cap7) ∧ Below w6.heap.size w6 w' ∧ w'.ownsRow w6.heap.size 5 1 (.slice (some ⟨g7, 0, none⟩) F cap7) F (bc P)) := fun wx hw => by
      have hcut := (W6.later hw).cut F (by rw [← HN.out]; omega) cap
      have e : (Ss.buildB l pr d).take F = P := by rw [HD.out, ← hP]; exact List.take_left' lP
      rw [e] at hcut
      have := copyBytes_any wx (some ⟨g, 0, none⟩) cap P (by rw [lP]; exact hcut) (fun e => by cases e)
      rw [lP] at this
      refine this.mono ?_
      rintro e w' ⟨g7, cap7, rfl, hx⟩
      have ho := hx.own
      rw [lP] at ho
      exact ⟨g7, cap7, rfl, hw.trans ((hx.below (Nat.le_refl _) (by simp [Value.ownBlock])).mono hw.size), own_base ho hw.size⟩
    have TB : Hid (∀ wx, Below w6.heap.size w6 wx → ∀ c', BytesIn wx (.slice (some ⟨g, E, none⟩) (N - E) c') t) := fun wx hw c' => by
      have := (W6.later hw).part E (N - E) (by rw [← HN.out]; omega) c'
      rw [Nat.zero_add] at this
      have e : ((Ss.buildB l pr d).drop E).take (N - E) = t := by
        rw [HD.out, ← List.append_assoc, List.drop_left' (by rw [List.length_append, ← HF.out, ← HFK.out, qe])]
        exact List.take_of_length_le (by omega)
      rw [e] at this
      exact this
    have Y1 : Hid (P.length + X.length ≤ 140737488355328) := by show _ ≤ _; rw [lP, ← LX2.out]; omega
    have Y2 : Hid ((P ++ X).length + t.length ≤ 140737488355328) := by show _ ≤ _; rw [List.length_append, lP, ← LX2.out]; omega
    have LP : Hid (F = P.length) := lP.symm
    have LT : Hid (N - E = t.length) := by show _ = _; omega
    have V6' : Hid (∀ wx, Below w6.heap.size w6 wx → BytesIn wx (.slice (some ⟨g6, 0, none⟩) fk c6) X) := fun wx hw => V6.out.later hw
    have C6 : Hid (∀ wx, Below w6.heap.size w6 wx → wx.cell? ⟨ge, k, none⟩ = some (.int .i64 (F : Int)) ∧ wx.cell? ⟨ge, k + 1, none⟩ = some (.int .i64 (E : Int))) := fun wx hx => ⟨keepC hx P2.1, keepC hx P2.2⟩
    have LL : Hid ((P ++ X ++ t).length ≤ 1000000000) := by show _ ≤ _; rw [List.length_append, List.length_append, lP, ← LX2.out]; omega
    have OP : Hid (∀ wx g8 L c8, L = (P ++ X ++ t).length → wx.ownsRow w6.heap.size 5 1 (.slice (some ⟨g8, 0, none⟩) L c8) L (bc (P ++ X ++ t)) → Calls Try.prog 11 #[.slice (some ⟨g8, 0, none⟩) L c8] wx fun e w' => OpenAns wx (Ss.dtA l pr d k ++ (X ++ t)) e w') := fun wx g8 L c8 hL ho => by
      have hcc := (own_cap ho).1
      subst hL
      have := open_any wx (some ⟨g8, 0, none⟩) c8 _ (P ++ X ++ t) rfl (bytes_of_own ho (by have := LL.out; omega)) hcc LL.out
      rw [List.append_assoc, hP] at this
      rw [List.append_assoc, hP]
      exact this
    have hP' := hide hP
    clear hP lP nn W6 V4 V6 O4
    have k1 : (F : Int) ≤ (cap : Int) := by omega
    have k3 : (E : Int) ≤ (N : Int) := by omega
    have k4 : (N : Int) ≤ (cap : Int) := by omega
    have k5 : (F : Int) ≤ (N : Int) := by omega
    clear qe
    have Q2 := C6.out _ (Below.refl _ _)
    have Q3 := C6.out _ (Below.refl _ _).drew
    by_cases hce : cap = E
    · have hz : N = cap := by omega
      have ht : t = [] := List.eq_nil_of_length_eq_zero (by rw [← LT.out]; omega)
      have T0 : Hid (0 = t.length) := by show _ = _; rw [ht]; rfl
      have TB2 : Hid (∀ wx ao c', BytesIn wx (.slice ao 0 c') t) := fun wx ao c' => by
        rw [ht]
        exact ⟨⟨ao, c', rfl, fun h => absurd rfl h⟩, by decide⟩
      clear TB ht LT
      have TB : Hid True := trivial
      subst hce
      subst hz
      go_region_held3 (fun w' => w'.cell? ⟨ge, k, none⟩ = some (.int .i64 (F : Int)) ∧ w'.cell? ⟨ge, k + 1, none⟩ = some (.int .i64 (N : Int)))
        (first | exact Q2 | exact Q3 | exact C6.out _ hbx | (go_keep; done))
        (first
          | (go_at_call 10; (first | refine (CP.out _ (Below.refl _ _)).mono ?_ | refine (CP.out _ (Below.refl _ _).drew).mono ?_); rintro e w7 ⟨g7, cap7, rfl, hbx, O7⟩)
          | (refine step_app_bytes _ (by rfl) _ _ (by rfl) w6.heap.size g7 cap7 P X F fk c6 LP.out LX2.out (by rfl) O7 _ (by rfl) (V6'.out _ hbx) (fun e => by cases e) Y1.out hbx.size ?_; intro g8 cap8 L8 w8 HL8 x8; have hbx := hbx.trans (x8.below hbx.size (by intro q hq; exact (O7.lt q hq).1)); have O8 : w8.ownsRow w6.heap.size 5 1 (.slice (some ⟨g8, 0, none⟩) L8 cap8) L8 (bc (P ++ X)) := (by have := x8.own; rw [← HL8.out] at this; exact this); clear O7 x8)
          | (refine step_app_bytes _ (by rfl) _ _ (by rfl) w6.heap.size g8 cap8 (P ++ X) t L8 0 0 HL8.out T0.out (by rfl) O8 (some ⟨g, 0, none⟩) (by rfl) (TB2.out _ _ _) (fun e => by cases e) Y2.out hbx.size ?_; intro g9 cap9 L9 w9 HL9 x9; have hbx := hbx.trans (x9.below hbx.size (by intro q hq; exact (O8.lt q hq).1)); have O9 : w9.ownsRow w6.heap.size 5 1 (.slice (some ⟨g9, 0, none⟩) L9 cap9) L9 (bc (P ++ X ++ t)) := (by have := x9.own; rw [← HL9.out] at this; exact this); clear O8 x9))
      have B9 := B6.trans (hbx.mono B6.size)
      have QS := OP.out _ _ _ _ HL9.out O9
      obtain ⟨od1, od2⟩ := ODD.out
      have hcm := HM.out
      by_cases hkc : k < C
      · obtain ⟨o1, o2⟩ := od2 (by rw [← HC.out]; exact hkc)
        have kk : Hid (k < Ss.cnt l pr) := by rw [← HC.out]; exact hkc
        have rx : Hid (X.length = (frm (Bk.blockB (Ss.piece l pr k))).length) := by have := HXL.out; rw [Ss.rcA_block kk.out] at this; exact this
        have ll := LL.out
        have OKT : Hid (Ss.TabOk (Ss.oddT l pr d k X)) := by
          rw [← o2]
          refine Ss.tabOk_of_open o1 ?_
          have e := hP'.out
          rw [List.append_assoc, e] at ll
          exact ll
        have QO : Hid (Calls Try.prog 11 #[.slice (some ⟨g9, 0, none⟩) L9 cap9] w9 fun e w' => ∃ T, e = .returned (.tuple #[.pointer (some ⟨T, 0, none⟩), .int .i64 0]) ∧ TabAt w' w9.heap.size T (Ss.oddT l pr d k X) 0 ∧ Below w9.heap.size w9 w') := by
          refine QS.mono ?_
          rintro e w' ⟨p', E', rfl, H, b⟩
          rcases H with ⟨_, rfl, T, rfl, ht⟩ | ⟨h1, _, _⟩
          · rw [o2] at ht; exact ⟨T, rfl, ht, b⟩
          · rw [o1] at h1; cases h1
        have AL : Hid (∀ wx base T q, q ≤ 200 → TabAt wx base T (Ss.oddT l pr d k X) q → Calls Try.prog 14 #[.pointer (some ⟨T, 0, none⟩)] wx fun e w' => ∃ v q', e = .returned (.tuple #[v, .int .i64 6]) ∧ Turned T q' wx w') := fun wx base T q hq h => by
          refine (sall_any wx base T q _ h OKT.out (by omega)).mono ?_
          rintro e w' ⟨v, E', rfl, H, u⟩
          have s2 := Ss.odd_all HC0.out kk.out rx.out HR6.out (d := d)
          rcases H with ⟨l', h1, rfl, o⟩ | ⟨h1, rfl, rfl⟩
          · rw [s2] at h1; cases h1
          · exact ⟨_, _, rfl, u⟩
        have j1 : (k : Int) < (C : Int) := by omega
        have z9 := B9.size
        rcases Ss.odd_get HC0.out kk.out rx.out HR6.out key seq (d := d) with ⟨g1, g2⟩ | ⟨g1, g2⟩
        · have GT : Hid (∀ wx base T, TabAt wx base T (Ss.oddT l pr d k X) 0 → Calls Try.prog 12 #[.pointer (some ⟨T, 0, none⟩), str key, .int .i64 seq] wx fun e w' => e = .returned (.tuple #[entV zeroE, .bool false, .int .i64 6]) ∧ ∃ q, q ≤ 1 ∧ Turned T q wx w') := fun wx base T h => by
            refine (sget_any wx base T 0 _ h OKT.out key seq hkey (by decide)).mono ?_
            rintro e w' ⟨h1, h2⟩
            rw [g1, g2] at h1
            exact ⟨h1, _, by have := getN_le (Ss.oddT l pr d k X) key seq; omega, h2⟩
          clear QS OP ODD o1 o2 od1 od2 g1 g2 O9 CP TB V6' C6 Q2 Q3 hcm
          generalize Ss.oddT l pr d k X = TT at *
          obtain ⟨XK, XV, XQ, XD⟩ := XE
          go_wp2_with (first
            | (go_at_call 11; refine QO.out.mono ?_; rintro e w10 ⟨T, rfl, t10, b10⟩; have B10 := B9.trans (b10.mono B9.size); have lT := t10.low; have zz : w.heap.size ≤ T := (by omega); clear QO b10 B9)
            | (go_at_call 12; refine (GT.out _ _ _ t10).mono ?_; rintro e w11 ⟨rfl, k6, hk6, u6⟩; have t11 := u6.tab t10; have B11 := B10.grown u6.1 B10.size (fun k hk => by cases hk; exact zz); clear GT t10 B10 u6)
            | (go_at_call 13; refine (FD.out _ (B11.alloc B11.size _)).mono ?_; rintro e w12 ⟨rfl, b12⟩; have B12 := (B11.alloc B11.size _).trans (b12.mono (B11.alloc B11.size _).size); have t12 := (t11.later ((Below.refl _ _).alloc (Nat.le_refl _) _)).later b12; have t13 := t12.later ((Below.refl w12.heap.size w12).alloc (Nat.le_refl _) (.cells #[str XK, str XV, .int .i64 XQ, .bool XD] 39)); have B13 := B12.alloc B12.size (.cells #[str XK, str XV, .int .i64 XQ, .bool XD] 39); clear FD t11 B11 b12 B12 t12)
            | (go_at_call 14; refine (AL.out _ _ _ _ (by omega) t13).mono ?_; rintro e w14 ⟨v14, k14, rfl, u14⟩; have B14 := B13.grown u14.1 B13.size (fun k hk => (by cases hk; exact zz)); clear AL))
          go_ret
          exact ⟨rfl, B14⟩
        · have GT : Hid (∀ wx base T, TabAt wx base T (Ss.oddT l pr d k X) 0 → Calls Try.prog 12 #[.pointer (some ⟨T, 0, none⟩), str key, .int .i64 seq] wx fun e w' => e = .returned (.tuple #[entV XE, .bool XB, .int .i64 0]) ∧ ∃ q, q ≤ 1 ∧ Turned T q wx w') := fun wx base T h => by
            refine (sget_any wx base T 0 _ h OKT.out key seq hkey (by decide)).mono ?_
            rintro e w' ⟨h1, h2⟩
            rw [g1, g2, ← hX0, ← HXE.out, ← HXB.out] at h1
            exact ⟨h1, _, by have := getN_le (Ss.oddT l pr d k X) key seq; omega, h2⟩
          clear QS OP ODD o1 o2 od1 od2 g1 g2 O9 CP TB V6' C6 Q2 Q3 hcm HXE HXB
          generalize Ss.oddT l pr d k X = TT at *
          obtain ⟨XK, XV, XQ, XD⟩ := XE
          go_wp2_with (first
            | (go_at_call 11; refine QO.out.mono ?_; rintro e w10 ⟨T, rfl, t10, b10⟩; have B10 := B9.trans (b10.mono B9.size); have lT := t10.low; have zT := t10.lt; have zz : w.heap.size ≤ T := (by omega); clear QO b10 B9)
            | (go_at_call 12; refine (GT.out _ _ _ t10).mono ?_; rintro e w11 ⟨rfl, k6, hk6, u6⟩; have t11 := u6.tab t10; have zT := t11.lt; have B11 := B10.grown u6.1 B10.size (fun k hk => by cases hk; exact zz); clear GT t10 B10 u6)
            | (go_at_call 13; refine (FD.out _ (B11.alloc B11.size _)).mono ?_; rintro e w12 ⟨rfl, b12⟩; have two := hide (two_cells b12 _ rfl); have z12 : w11.heap.size < w12.heap.size := (by have := b12.size; simp at this; omega); have B12 := (B11.alloc B11.size _).trans (b12.mono (B11.alloc B11.size _).size); have t12 := (t11.later ((Below.refl _ _).alloc (Nat.le_refl _) _)).later b12; have t13 := t12.later ((Below.refl w12.heap.size w12).alloc (Nat.le_refl _) (.cells #[str XK, str XV, .int .i64 XQ, .bool XD] 39)); have B13 := B12.alloc B12.size (.cells #[str XK, str XV, .int .i64 XQ, .bool XD] 39); clear FD t11 B11 b12 B12 t12)
            | (go_at_call 14; refine (AL.out _ _ _ _ (by omega) t13).mono ?_; rintro e w14 ⟨v14, k14, rfl, u14⟩; have B14 := B13.grown u14.1 B13.size (fun k hk => (by cases hk; exact zz)); obtain ⟨⟨y0, y1, y2, y3⟩, y4, y5, y6, y7⟩ := two.out; have n1 : w11.heap.size ≠ T := (by omega); have n2 : w12.heap.size ≠ T := (by omega); have y0 := keep_other u14.1 n1 y0; have y1 := keep_other u14.1 n1 y1; have y2 := keep_other u14.1 n1 y2; have y3 := keep_other u14.1 n1 y3; have y4 := keep_other u14.1 n2 y4; have y5 := keep_other u14.1 n2 y5; have y6 := keep_other u14.1 n2 y6; have y7 := keep_other u14.1 n2 y7; clear AL two t13 u14 B13))
          go_ret
          exact ⟨rfl, B14⟩
      · have o1 := od1 (by rw [← HC.out]; omega)
        have QO : Hid (Calls Try.prog 11 #[.slice (some ⟨g9, 0, none⟩) L9 cap9] w9 fun e w' => e = .returned (.tuple #[.pointer none, .int .i64 6]) ∧ Below w9.heap.size w9 w') := by
          refine QS.mono ?_
          rintro e w' ⟨p', E', rfl, H, b⟩
          rcases H with ⟨h1, _⟩ | ⟨h1, rfl, rfl⟩
          · rw [o1] at h1; cases h1
          · exact ⟨rfl, b⟩
        clear QS OP ODD o1 od1 od2 O9 CP TB V6' C6 Q2 Q3 hcm
        have j1 : ¬ (k : Int) < (C : Int) := by omega
        have j2 : (C : Int) ≤ (k : Int) := by omega
        have j3 : (k : Int) ≥ (C : Int) := j2
        go_wp2_with (go_at_call 11; refine QO.out.mono ?_; rintro e w10 ⟨rfl, b10⟩; have B10 := B9.trans (b10.mono B9.size); clear QO b10 B9)
        go_ret
        exact ⟨rfl, B10⟩
    · go_region_held3 (fun w' => w'.cell? ⟨ge, k, none⟩ = some (.int .i64 (F : Int)) ∧ w'.cell? ⟨ge, k + 1, none⟩ = some (.int .i64 (E : Int)))
        (first | exact Q2 | exact Q3 | exact C6.out _ hbx | (go_keep; done))
        (first
          | (go_at_call 10; (first | refine (CP.out _ (Below.refl _ _)).mono ?_ | refine (CP.out _ (Below.refl _ _).drew).mono ?_); rintro e w7 ⟨g7, cap7, rfl, hbx, O7⟩)
          | (refine step_app_bytes _ (by rfl) _ _ (by rfl) w6.heap.size g7 cap7 P X F fk c6 LP.out LX2.out (by rfl) O7 _ (by rfl) (V6'.out _ hbx) (fun e => by cases e) Y1.out hbx.size ?_; intro g8 cap8 L8 w8 HL8 x8; have hbx := hbx.trans (x8.below hbx.size (by intro q hq; exact (O7.lt q hq).1)); have O8 : w8.ownsRow w6.heap.size 5 1 (.slice (some ⟨g8, 0, none⟩) L8 cap8) L8 (bc (P ++ X)) := (by have := x8.own; rw [← HL8.out] at this; exact this); clear O7 x8)
          | (refine step_app_bytes _ (by rfl) _ _ (by rfl) w6.heap.size g8 cap8 (P ++ X) t L8 (N - E) _ HL8.out LT.out (by rfl) O8 _ (by rfl) (TB.out _ hbx _) (fun e => by cases e) Y2.out hbx.size ?_; intro g9 cap9 L9 w9 HL9 x9; have hbx := hbx.trans (x9.below hbx.size (by intro q hq; exact (O8.lt q hq).1)); have O9 : w9.ownsRow w6.heap.size 5 1 (.slice (some ⟨g9, 0, none⟩) L9 cap9) L9 (bc (P ++ X ++ t)) := (by have := x9.own; rw [← HL9.out] at this; exact this); clear O8 x9))
      have B9 := B6.trans (hbx.mono B6.size)
      have QS := OP.out _ _ _ _ HL9.out O9
      obtain ⟨od1, od2⟩ := ODD.out
      have hcm := HM.out
      by_cases hkc : k < C
      · obtain ⟨o1, o2⟩ := od2 (by rw [← HC.out]; exact hkc)
        have kk : Hid (k < Ss.cnt l pr) := by rw [← HC.out]; exact hkc
        have rx : Hid (X.length = (frm (Bk.blockB (Ss.piece l pr k))).length) := by have := HXL.out; rw [Ss.rcA_block kk.out] at this; exact this
        have ll := LL.out
        have OKT : Hid (Ss.TabOk (Ss.oddT l pr d k X)) := by
          rw [← o2]
          refine Ss.tabOk_of_open o1 ?_
          have e := hP'.out
          rw [List.append_assoc, e] at ll
          exact ll
        have QO : Hid (Calls Try.prog 11 #[.slice (some ⟨g9, 0, none⟩) L9 cap9] w9 fun e w' => ∃ T, e = .returned (.tuple #[.pointer (some ⟨T, 0, none⟩), .int .i64 0]) ∧ TabAt w' w9.heap.size T (Ss.oddT l pr d k X) 0 ∧ Below w9.heap.size w9 w') := by
          refine QS.mono ?_
          rintro e w' ⟨p', E', rfl, H, b⟩
          rcases H with ⟨_, rfl, T, rfl, ht⟩ | ⟨h1, _, _⟩
          · rw [o2] at ht; exact ⟨T, rfl, ht, b⟩
          · rw [o1] at h1; cases h1
        have AL : Hid (∀ wx base T q, q ≤ 200 → TabAt wx base T (Ss.oddT l pr d k X) q → Calls Try.prog 14 #[.pointer (some ⟨T, 0, none⟩)] wx fun e w' => ∃ v q', e = .returned (.tuple #[v, .int .i64 6]) ∧ Turned T q' wx w') := fun wx base T q hq h => by
          refine (sall_any wx base T q _ h OKT.out (by omega)).mono ?_
          rintro e w' ⟨v, E', rfl, H, u⟩
          have s2 := Ss.odd_all HC0.out kk.out rx.out HR6.out (d := d)
          rcases H with ⟨l', h1, rfl, o⟩ | ⟨h1, rfl, rfl⟩
          · rw [s2] at h1; cases h1
          · exact ⟨_, _, rfl, u⟩
        have j1 : (k : Int) < (C : Int) := by omega
        have z9 := B9.size
        rcases Ss.odd_get HC0.out kk.out rx.out HR6.out key seq (d := d) with ⟨g1, g2⟩ | ⟨g1, g2⟩
        · have GT : Hid (∀ wx base T, TabAt wx base T (Ss.oddT l pr d k X) 0 → Calls Try.prog 12 #[.pointer (some ⟨T, 0, none⟩), str key, .int .i64 seq] wx fun e w' => e = .returned (.tuple #[entV zeroE, .bool false, .int .i64 6]) ∧ ∃ q, q ≤ 1 ∧ Turned T q wx w') := fun wx base T h => by
            refine (sget_any wx base T 0 _ h OKT.out key seq hkey (by decide)).mono ?_
            rintro e w' ⟨h1, h2⟩
            rw [g1, g2] at h1
            exact ⟨h1, _, by have := getN_le (Ss.oddT l pr d k X) key seq; omega, h2⟩
          clear QS OP ODD o1 o2 od1 od2 g1 g2 O9 CP TB V6' C6 Q2 Q3 hcm
          generalize Ss.oddT l pr d k X = TT at *
          obtain ⟨XK, XV, XQ, XD⟩ := XE
          go_wp2_with (first
            | (go_at_call 11; refine QO.out.mono ?_; rintro e w10 ⟨T, rfl, t10, b10⟩; have B10 := B9.trans (b10.mono B9.size); have lT := t10.low; have zz : w.heap.size ≤ T := (by omega); clear QO b10 B9)
            | (go_at_call 12; refine (GT.out _ _ _ t10).mono ?_; rintro e w11 ⟨rfl, k6, hk6, u6⟩; have t11 := u6.tab t10; have B11 := B10.grown u6.1 B10.size (fun k hk => by cases hk; exact zz); clear GT t10 B10 u6)
            | (go_at_call 13; refine (FD.out _ (B11.alloc B11.size _)).mono ?_; rintro e w12 ⟨rfl, b12⟩; have B12 := (B11.alloc B11.size _).trans (b12.mono (B11.alloc B11.size _).size); have t12 := (t11.later ((Below.refl _ _).alloc (Nat.le_refl _) _)).later b12; have t13 := t12.later ((Below.refl w12.heap.size w12).alloc (Nat.le_refl _) (.cells #[str XK, str XV, .int .i64 XQ, .bool XD] 39)); have B13 := B12.alloc B12.size (.cells #[str XK, str XV, .int .i64 XQ, .bool XD] 39); clear FD t11 B11 b12 B12 t12)
            | (go_at_call 14; refine (AL.out _ _ _ _ (by omega) t13).mono ?_; rintro e w14 ⟨v14, k14, rfl, u14⟩; have B14 := B13.grown u14.1 B13.size (fun k hk => (by cases hk; exact zz)); clear AL))
          go_ret
          exact ⟨rfl, B14⟩
        · have GT : Hid (∀ wx base T, TabAt wx base T (Ss.oddT l pr d k X) 0 → Calls Try.prog 12 #[.pointer (some ⟨T, 0, none⟩), str key, .int .i64 seq] wx fun e w' => e = .returned (.tuple #[entV XE, .bool XB, .int .i64 0]) ∧ ∃ q, q ≤ 1 ∧ Turned T q wx w') := fun wx base T h => by
            refine (sget_any wx base T 0 _ h OKT.out key seq hkey (by decide)).mono ?_
            rintro e w' ⟨h1, h2⟩
            rw [g1, g2, ← hX0, ← HXE.out, ← HXB.out] at h1
            exact ⟨h1, _, by have := getN_le (Ss.oddT l pr d k X) key seq; omega, h2⟩
          clear QS OP ODD o1 o2 od1 od2 g1 g2 O9 CP TB V6' C6 Q2 Q3 hcm HXE HXB
          generalize Ss.oddT l pr d k X = TT at *
          obtain ⟨XK, XV, XQ, XD⟩ := XE
          go_wp2_with (first
            | (go_at_call 11; refine QO.out.mono ?_; rintro e w10 ⟨T, rfl, t10, b10⟩; have B10 := B9.trans (b10.mono B9.size); have lT := t10.low; have zT := t10.lt; have zz : w.heap.size ≤ T := (by omega); clear QO b10 B9)
            | (go_at_call 12; refine (GT.out _ _ _ t10).mono ?_; rintro e w11 ⟨rfl, k6, hk6, u6⟩; have t11 := u6.tab t10; have zT := t11.lt; have B11 := B10.grown u6.1 B10.size (fun k hk => by cases hk; exact zz); clear GT t10 B10 u6)
            | (go_at_call 13; refine (FD.out _ (B11.alloc B11.size _)).mono ?_; rintro e w12 ⟨rfl, b12⟩; have two := hide (two_cells b12 _ rfl); have z12 : w11.heap.size < w12.heap.size := (by have := b12.size; simp at this; omega); have B12 := (B11.alloc B11.size _).trans (b12.mono (B11.alloc B11.size _).size); have t12 := (t11.later ((Below.refl _ _).alloc (Nat.le_refl _) _)).later b12; have t13 := t12.later ((Below.refl w12.heap.size w12).alloc (Nat.le_refl _) (.cells #[str XK, str XV, .int .i64 XQ, .bool XD] 39)); have B13 := B12.alloc B12.size (.cells #[str XK, str XV, .int .i64 XQ, .bool XD] 39); clear FD t11 B11 b12 B12 t12)
            | (go_at_call 14; refine (AL.out _ _ _ _ (by omega) t13).mono ?_; rintro e w14 ⟨v14, k14, rfl, u14⟩; have B14 := B13.grown u14.1 B13.size (fun k hk => (by cases hk; exact zz)); obtain ⟨⟨y0, y1, y2, y3⟩, y4, y5, y6, y7⟩ := two.out; have n1 : w11.heap.size ≠ T := (by omega); have n2 : w12.heap.size ≠ T := (by omega); have y0 := keep_other u14.1 n1 y0; have y1 := keep_other u14.1 n1 y1; have y2 := keep_other u14.1 n1 y2; have y3 := keep_other u14.1 n1 y3; have y4 := keep_other u14.1 n2 y4; have y5 := keep_other u14.1 n2 y5; have y6 := keep_other u14.1 n2 y6; have y7 := keep_other u14.1 n2 y7; clear AL two t13 u14 B13))
          go_ret
          exact ⟨rfl, B14⟩
      · have o1 := od1 (by rw [← HC.out]; omega)
        have QO : Hid (Calls Try.prog 11 #[.slice (some ⟨g9, 0, none⟩) L9 cap9] w9 fun e w' => e = .returned (.tuple #[.pointer none, .int .i64 6]) ∧ Below w9.heap.size w9 w') := by
          refine QS.mono ?_
          rintro e w' ⟨p', E', rfl, H, b⟩
          rcases H with ⟨h1, _⟩ | ⟨h1, rfl, rfl⟩
          · rw [o1] at h1; cases h1
          · exact ⟨rfl, b⟩
        clear QS OP ODD o1 od1 od2 O9 CP TB V6' C6 Q2 Q3 hcm
        have j1 : ¬ (k : Int) < (C : Int) := by omega
        have j2 : (C : Int) ≤ (k : Int) := by omega
        have j3 : (k : Int) ≥ (C : Int) := j2
        go_wp2_with (go_at_call 11; refine QO.out.mono ?_; rintro e w10 ⟨rfl, b10⟩; have B10 := B9.trans (b10.mono B9.size); clear QO b10 B9)
        go_ret
        exact ⟨rfl, B10⟩

theorem walk (w : World) (a : Option Addr) (c n : Nat) (l : List Mm.Ent) (hat : EntsAt w (.slice a n c) l) (hn : n = l.length) (hlen : n ≤ maxLen) (hcap : n ≤ c) (hok : ∀ x ∈ l, x.key.length ≤ maxLen ∧ x.value.length ≤ maxLen)
    (per bits which at' : Int) (turn : Nat) (key : List UInt8) (hkey : key.length ≤ 140737488355328) (seq : Int) (h1 : -9223372036854775808 ≤ which) (h2 : which ≤ 9223372036854775807) (ha : at' ≤ 9223372036854775807) (hbt : turn < 4294967296) :
    Calls Try.prog 3 #[.slice a n c, .int .i64 per, .int .i64 bits, .int .i64 which, .int .i64 at', .int .u32 (turn : Int), str key, .int .i64 seq] w fun e w' => e = .returned (.bool true) ∧ Below w.heap.size w w' := by
  by_cases hs : small9B l = true
  · by_cases ht : turn = 0
    · exact walk_off w a c n l hat hn hlen hok per bits which at' turn key seq (.inr ⟨hs, .inl ht⟩)
    · by_cases hc : Ss.checkE l per bits = 0
      · obtain ⟨⟨q1, q2, q3, q4⟩, _⟩ := Ss.check_parts hc
        obtain ⟨p, rfl⟩ : ∃ p : Nat, per = (p : Int) := ⟨per.toNat, by omega⟩
        obtain ⟨d, rfl⟩ : ∃ d : Nat, bits = (d : Int) := ⟨bits.toNat, by omega⟩
        exact walk_on w a c n l hat hn hlen hcap hok p d which at' turn key hkey seq h1 h2 ha hbt hs ht hc
      · exact walk_off w a c n l hat hn hlen hok per bits which at' turn key seq (.inr ⟨hs, .inr hc⟩)
  · exact walk_off w a c n l hat hn hlen hok per bits which at' turn key seq (.inl (by simpa using hs))
end Go.Proofs.Ytepkhbbhpamdnaa.sstAltered
