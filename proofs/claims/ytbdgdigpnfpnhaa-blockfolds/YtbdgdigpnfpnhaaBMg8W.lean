/-
  Lists of entries merged as the document does: the walk of stagepostref07.Merge.
-/
import Derived.Test.YtbdgdigpnfpnhaaBMg8S
import Derived.Test.YtbdgdigpnfpnhaaBMergeW
import Derived.Test.YtbdgdigpnfpnhaaKH
import Derived.Deep.RegionHeld3
import Derived.BigQuiet
namespace Go.Proofs.Ytbdgdigpnfpnhaa.Q
open Go.RowKit

def bI : Option Nat → Int
  | none => -1
  | some b => (b : Int)

set_option maxRecDepth 100000 in
set_option maxHeartbeats 8000000 in
theorem rmerge_any (w : World) (a : Option Addr) (n c : Nat) (vs : List Value) (ls : List (List Mm.Ent)) (hn : n = ls.length) (hcell : ls ≠ [] → ∃ b off, a = some ⟨b, off, none⟩ ∧ ∀ k (h : k < vs.length), w.cell? ⟨b, off + k, none⟩ = some vs[k]) (hL : LLs w vs ls) (hl : n ≤ 1000) (hs : ∀ x ∈ ls, x.length ≤ 1000) (ht : Bk.total ls ≤ 100000) :
    Calls Try.prog 28 #[.slice a n c] w fun e w' => ∃ v, e = .returned (.tuple #[v, .int .i64 (Bk.mergeE ls)]) ∧ w'.ownsRow w.heap.size 38 4 v (Bk.mergeL ls).length (ecs (Bk.mergeL ls)) ∧ Below w.heap.size w w' := by
  have HN : Hid (n = ls.length) := hn
  have HC : Hid (ls ≠ [] → ∃ b off, a = some ⟨b, off, none⟩ ∧ ∀ k (h : k < vs.length), w.cell? ⟨b, off + k, none⟩ = some vs[k]) := hcell
  have HL := hide hL
  have HS : Hid (∀ x ∈ ls, x.length ≤ 1000) := hs
  obtain ⟨T, hT⟩ : ∃ T, T = Bk.total ls := ⟨_, rfl⟩
  have HT : Hid (T = Bk.total ls) := hT
  have T1 : T ≤ 100000 := by rw [hT]; exact ht
  have hmk := make_ints n (by omega)
  obtain ⟨W0, hW0⟩ : ∃ W0, W0 = w.alloc (.cells (madeCells #[.int .i64 0] n) 3) := ⟨_, rfl⟩
  have B0 : Hid (Below w.heap.size w W0) := by show Below _ _ _; rw [hW0]; exact (Below.refl _ _).alloc (Nat.le_refl _) _
  have A0 : Hid (W0.ownsRow w.heap.size 3 1 (.slice (some ⟨w.heap.size, 0, none⟩) n n) n (nats (List.replicate n 0))) := by
    have h := World.ownsRow_lit (size := 1) (e := 3) (base := w.heap.size) w (madeCells #[.int .i64 0] n) n (Nat.le_refl _) (by unfold maxLen; omega) (by rw [size_madeCells, Nat.mul_one])
    rw [nats_zero] at h
    show World.ownsRow _ _ _ _ _ _ _
    rw [hW0]
    exact h
  have HW := hide hW0
  clear hn hcell hL hs ht hT hW0
  go_enter Try.func28, Try.ntmps28
  go_wp2_with (fail)
  rw [← HW.out]
  clear HW hmk
  obtain ⟨G, hG⟩ : ∃ G, G = w.heap.size := ⟨_, rfl⟩
  rw [← hG] at A0 ⊢
  have HG := hide hG
  clear hG
  go_loopw [5] (fun i wr => ∃ j : Nat, j ≤ n ∧ i = .int .i64 j ∧ Below W0.heap.size W0 wr ∧ Hid (∀ x ∈ ls.take j, Bk.inOrd x = true)) (fun i _ => n - (intOf i).toNat)
  case atStart => exact ⟨0, Nat.zero_le _, rfl, Below.refl _ _, fun x hx => by simp at hx⟩
  case round =>
    obtain ⟨j, hj, rfl, bx0, HF⟩ := hrel
    have bx : Below w.heap.size w wr := B0.out.trans (bx0.mono B0.out.size)
    by_cases hlt : j < n
    · have jl : j < ls.length := by have := HN.out; omega
      have jv : j < vs.length := by rw [HL.out.len]; exact jl
      obtain ⟨b, off, rfl, hat⟩ := HC.out (fun h0 => by rw [h0] at jl; cases jl)
      obtain ⟨aj, cj, ej, kj, kj2, EJ⟩ := HL.out.at' j jl jv
      have dj := keepC bx (hat j jv)
      rw [ej] at dj
      obtain ⟨S, hS⟩ : ∃ S, S = Bk.inOrd ls[j] := ⟨_, rfl⟩
      have lj := HS.out _ (List.getElem_mem jl)
      obtain ⟨nj, hnj⟩ : ∃ nj, nj = ls[j].length := ⟨_, rfl⟩
      have IO : Hid (Calls Try.prog 65 #[.slice aj nj cj] wr fun e w' => e = .returned (.bool S) ∧ Below wr.heap.size wr w') := by
        rw [hnj]
        exact rinOrder_any wr aj cj ls[j].length ls[j] (EJ.later bx) rfl (by omega) S hS
      rw [← hnj] at dj lj
      have jn : (j : Int) < (n : Int) := by omega
      have HTK : Hid (∀ x ∈ ls.take (j + 1), x ∈ ls.take j ∨ x = ls[j]) := fun x hx => by
        rw [List.take_succ_eq_append_getElem jl] at hx
        rcases List.mem_append.mp hx with h | h
        · exact .inl h
        · exact .inr (List.mem_singleton.mp h)
      have HSJ : Hid (S = Bk.inOrd ls[j]) := hS
      clear hat EJ ej kj kj2 hS hnj lj
      cases S
      · have HE : Hid (Bk.mergeE ls = 10 ∧ Bk.mergeL ls = []) := by
          have hall : ls.all Bk.inOrd = false := by
            rw [Bool.eq_false_iff]
            intro h
            have := List.all_eq_true.1 h _ (List.getElem_mem jl)
            rw [← HSJ.out] at this
            cases this
          refine ⟨?_, ?_⟩
          · unfold Bk.mergeE; rw [hall]; rfl
          · unfold Bk.mergeL; rw [hall]; rfl
        clear HF HTK jl jv HSJ
        go_wp2_with (go_at_call 65; refine IO.out.mono ?_; rintro e w1 ⟨rfl, b1⟩; clear IO)
        go_ret2
        rw [HE.out.1, HE.out.2]
        exact ⟨_, rfl, World.ownsRow_nil _ _ _ _, bx.trans (b1.mono bx.size)⟩
      · have HF' : Hid (∀ x ∈ ls.take (j + 1), Bk.inOrd x = true) := fun x hx => by
          rcases HTK.out x hx with h | h
          · exact HF.out x h
          · rw [h]; exact HSJ.out.symm
        clear HF HTK jl jv HSJ
        go_wp2_with (go_at_call 65; refine IO.out.mono ?_; rintro e w1 ⟨rfl, b1⟩; clear IO)
        exact ⟨⟨j + 1, by omega, by go_num, bx0.trans (b1.mono bx0.size), HF'⟩, by simp [intOf]; omega⟩
    · have ej : j = ls.length := by have := HN.out; omega
      have jn : ¬ (j : Int) < (n : Int) := by omega
      have HALL : Hid (ls.all Bk.inOrd = true) := by
        have h := HF.out
        rw [ej, List.take_length] at h
        exact List.all_eq_true.2 h
      have M0 : Hid (Rm w ls G n none 0 0 (List.replicate n 0) ls [] wr) := by
        refine ⟨own_lift (own_laterV A0.out bx0) (by have := HG.out; omega), World.ownsRow_nil _ _ _ _, HN.out.symm, by simp, HN.out.symm, rfl, fun i hi => ?_, by rw [Bk.total_lefts]; simp, rfl, fun x hx => List.all_eq_true.1 HALL.out x hx, Bk.behind_nil ls, (by intro e; cases e), bx⟩
        have : (List.replicate n 0).getD i 0 = 0 := by simp [List.getD, hi]
        rw [this]
        exact ⟨rfl, Nat.zero_le _⟩
      have CL : Hid (∀ (i : Nat) (hi : i < n) (hv : i < vs.length) wx, Below w.heap.size w wx → ∃ b off, a = some ⟨b, off, none⟩ ∧ wx.cell? ⟨b, off + i, none⟩ = some vs[i]) := fun i hi hv wx hb => by
        obtain ⟨b, off, ha, hat⟩ := HC.out (fun h0 => by have := HN.out; rw [h0] at this; simp at this; omega)
        exact ⟨b, off, ha, keepC hb (hat i hv)⟩
      have VL : Hid (vs.length = n) := by show _ = _; rw [HL.out.len]; exact HN.out.symm
      have HS2 : Hid (∀ i, (ls.getD i []).length ≤ 1000) := fun i => by
        rcases Nat.lt_or_ge i ls.length with h | h
        · rw [Bk.getD_at ls i h]; exact HS.out _ (List.getElem_mem h)
        · simp [List.getD, h]
      clear HF bx bx0 ej hlt hj A0 B0 HC HS HN HG
      go_wp2_with (fail)
      go_loopw [6] (fun y wr => ∃ (vb : Option Addr) (p cq : Nat) (at' : List Nat) (R : List (List Mm.Ent)) (O : List Mm.Ent), y = .slice vb p cq ∧ p ≤ T ∧ Hid (Rm w ls G n vb p cq at' R O wr)) (fun y _ => T - sliceLenM y)
      case atStart => exact ⟨none, 0, 0, _, _, _, rfl, Nat.zero_le _, M0⟩
      case round =>
        clear M0
        obtain ⟨vb, p, cq, at', R, O, rfl, hp, MM⟩ := hrel
        obtain ⟨W3, hW3⟩ : ∃ W3, W3 = wr := ⟨_, rfl⟩
        rw [← hW3] at MM ⊢
        clear hW3
        go_wp2_with (fail)
        go_loopw [7, 8] (fun x i wr2 => ∃ j : Nat, j ≤ n ∧ i = .int .i64 j ∧ x = .int .i64 (bI (Bk.rbN R j)) ∧ Below W3.heap.size W3 wr2) (fun _ i _ => n - (intOf i).toNat)
        case atStart => exact ⟨0, Nat.zero_le _, rfl, rfl, Below.refl _ _⟩
        case round =>
          obtain ⟨j, hj, rfl, rfl, bx⟩ := hrel
          have BEL : Below w.heap.size w W3 := MM.out.bel
          by_cases hlt : j < n
          · have jv : j < vs.length := by rw [VL.out]; exact hlt
            have jn : (j : Int) < (n : Int) := by omega
            have j0 : (0 : Int) ≤ (j : Int) := by omega
            obtain ⟨b0, o0, rfl, cl0⟩ := CL.out j hlt jv w (Below.refl _ _)
            have CLJ : Hid (∀ (i : Nat) (hi : i < n) (hv : i < vs.length) wx, Below W3.heap.size W3 wx → wx.cell? ⟨b0, o0 + i, none⟩ = some vs[i]) := fun i hi hv wx hb => by
              obtain ⟨b, off, e, h⟩ := CL.out i hi hv wx (BEL.trans (hb.mono BEL.size))
              cases e
              exact h
            have ca := MM.out.atcell j hlt wr bx
            have cl := CLJ.out j hlt jv wr bx
            clear cl0
            by_cases he : R.getD j [] = []
            · obtain ⟨aj, mj, cj, ev, hk⟩ := MM.out.used HL.out j hlt he jv
              rw [ev] at cl
              rw [hk] at ca
              have HNX : Hid (Bk.rbN R (j + 1) = Bk.rbN R j) := by show _ = _; rw [Bk.rbN, he]; simp
              have hd : decide ((mj : Int) < (mj : Int)) = false := by simp
              clear ev hk he jv CLJ CL
              obtain ⟨z, hz⟩ : ∃ z, z = bI (Bk.rbN R j) := ⟨_, rfl⟩
              rw [← hz]
              have HZ := hide hz
              clear hz
              go_wp2_with (fail)
              go_quiet (fail)
              go_wp2_with (fail)
              exact ⟨⟨j + 1, by omega, by go_num, by rw [HNX.out, HZ.out], below_drewN bx _⟩, by simp [intOf]; omega⟩
            · obtain ⟨b1, o1, m1, c1, ev, hk, hm1, KX⟩ := MM.out.there HL.out j hlt he jv
              rw [ev] at cl
              have AC : Hid (∀ (i : Nat) (hi : i < n) wx, Below W3.heap.size W3 wx → wx.cell? ⟨G, i, none⟩ = some (.int .i64 ((at'.getD i 0 : Nat) : Int))) := fun i hi wx hb => MM.out.atcell i hi wx hb
              have KJ : Hid (∀ wx, Below W3.heap.size W3 wx → wx.cell? ⟨G, j, none⟩ = some (.int .i64 ((at'.getD j 0 : Nat) : Int)) ∧ wx.cell? ⟨b0, o0 + j, none⟩ = some (.slice (some ⟨b1, o1, none⟩) m1 c1)) := fun wx hb => ⟨AC.out j hlt wx hb, by rw [← ev]; exact CLJ.out j hlt jv wx hb⟩
              have BW : Hid (∀ wx, Below W3.heap.size W3 wx → Below w.heap.size w wx) := fun wx hb => BEL.trans (hb.mono BEL.size)
              obtain ⟨kj, hkj⟩ : ∃ kj, kj = at'.getD j 0 := ⟨_, rfl⟩
              rw [← hkj] at ca hk KX KJ
              have k1 : (kj : Int) < (m1 : Int) := by omega
              have k0 : (0 : Int) ≤ (kj : Int) := by omega
              have hd : decide ((kj : Int) < (m1 : Int)) = true := by simpa using k1
              have HKX := hide KX
              clear KX ev hkj hm1
              cases hbb : Bk.rbN R j with
              | none =>
                have HNX : Hid (Bk.rbN R (j + 1) = some j) := by show _ = _; rw [Bk.rbN, hbb]; simp; intro h; exact absurd (by simpa using h) he
                have ez : bI none = -1 := rfl
                rw [ez]
                clear ez hbb HKX AC CL CLJ KJ jv he
                go_wp2_with (fail)
                go_quiet (fail)
                go_wp2_with (fail)
                exact ⟨⟨j + 1, by omega, by go_num, by rw [HNX.out]; rfl, below_drewN bx _⟩, by simp [intOf]; omega⟩
              | some bb =>
                have hbf : bb < j ∧ R.getD bb [] ≠ [] := by
                  rcases Bk.rb_fore R j (by rw [MM.out.rl]; omega) with ⟨h, _⟩ | ⟨b', h, h2, h3, _⟩
                  · rw [hbb] at h; cases h
                  · rw [hbb] at h
                    obtain rfl : bb = b' := Option.some.inj h
                    exact ⟨h2, h3⟩
                have hbn : bb < n := by omega
                have bv : bb < vs.length := by rw [VL.out]; exact hbn
                obtain ⟨b2, o2, m2, c2, ev2, hk2, hm2, KY⟩ := MM.out.there HL.out bb hbn hbf.2 bv
                have KB : Hid (∀ wx, Below W3.heap.size W3 wx → wx.cell? ⟨G, bb, none⟩ = some (.int .i64 ((at'.getD bb 0 : Nat) : Int)) ∧ wx.cell? ⟨b0, o0 + bb, none⟩ = some (.slice (some ⟨b2, o2, none⟩) m2 c2)) := fun wx hb => ⟨AC.out bb hbn wx hb, by rw [← ev2]; exact CLJ.out bb hbn bv wx hb⟩
                obtain ⟨kb, hkb⟩ : ∃ kb, kb = at'.getD bb 0 := ⟨_, rfl⟩
                rw [← hkb] at hk2 KY KB
                have HKY := hide KY
                have HNX : Hid (Bk.rbN R (j + 1) = if Mm.ahead (Bk.hdAt R j) (Bk.hdAt R bb) = true then some j else some bb) := by
                  show _ = _
                  rw [Bk.rbN, hbb]
                  simp only [decide_eq_false he, Bool.not_false, Bool.true_and]
                have AH : Hid (∀ wx, Calls Try.prog 14 #[entV (Bk.hdAt R j), entV (Bk.hdAt R bb)] wx fun e w' => e = .returned (.bool (Mm.ahead (Bk.hdAt R j) (Bk.hdAt R bb))) ∧ Below wx.heap.size wx w') := fun wx => rahead_any wx _ _
                generalize Bk.hdAt R j = X at *
                generalize Bk.hdAt R bb = Y at *
                have KC : Hid (∀ wx, Below W3.heap.size W3 wx → wx.cell? ⟨G, j, none⟩ = some (.int .i64 (kj : Int)) ∧ wx.cell? ⟨b0, o0 + j, none⟩ = some (.slice (some ⟨b1, o1, none⟩) m1 c1) ∧ wx.cell? ⟨G, bb, none⟩ = some (.int .i64 (kb : Int)) ∧ wx.cell? ⟨b0, o0 + bb, none⟩ = some (.slice (some ⟨b2, o2, none⟩) m2 c2) ∧ (wx.cell? ⟨b1, o1 + kj * 4, none⟩ = some (str X.key) ∧ wx.cell? ⟨b1, o1 + kj * 4 + 1, none⟩ = some (str X.value) ∧ wx.cell? ⟨b1, o1 + kj * 4 + 2, none⟩ = some (.int .i64 X.seq) ∧ wx.cell? ⟨b1, o1 + kj * 4 + 3, none⟩ = some (.bool X.del)) ∧ (wx.cell? ⟨b2, o2 + kb * 4, none⟩ = some (str Y.key) ∧ wx.cell? ⟨b2, o2 + kb * 4 + 1, none⟩ = some (str Y.value) ∧ wx.cell? ⟨b2, o2 + kb * 4 + 2, none⟩ = some (.int .i64 Y.seq) ∧ wx.cell? ⟨b2, o2 + kb * 4 + 3, none⟩ = some (.bool Y.del))) := fun wx hb => ⟨(KJ.out wx hb).1, (KJ.out wx hb).2, (KB.out wx hb).1, (KB.out wx hb).2, HKX.out wx (BW.out wx hb), HKY.out wx (BW.out wx hb)⟩
                obtain ⟨Q, hQ⟩ : ∃ Q, Q = Mm.ahead X Y := ⟨_, rfl⟩
                rw [← hQ] at AH HNX
                have l1 : (kb : Int) < (m2 : Int) := by omega
                have l0 : (0 : Int) ≤ (kb : Int) := by omega
                have bn : (bb : Int) < (n : Int) := by omega
                have bn0 : (0 : Int) ≤ (bb : Int) := by omega
                have hd2 : decide ((bb : Int) < 0) = false := by simp
                have P1 := KC.out wr.drew bx.drew
                have ez : bI (some bb) = (bb : Int) := rfl
                rw [ez]
                clear ez hbb HKX HKY KY AC CL CLJ KJ KB jv he ev2 hkb hQ hm2 bv hbf ca cl
                cases Q
                · go_wp2_with (fail)
                  go_region_held3 (fun wx => wx.cell? ⟨G, j, none⟩ = some (.int .i64 (kj : Int)) ∧ wx.cell? ⟨b0, o0 + j, none⟩ = some (.slice (some ⟨b1, o1, none⟩) m1 c1) ∧ wx.cell? ⟨G, bb, none⟩ = some (.int .i64 (kb : Int)) ∧ wx.cell? ⟨b0, o0 + bb, none⟩ = some (.slice (some ⟨b2, o2, none⟩) m2 c2) ∧ (wx.cell? ⟨b1, o1 + kj * 4, none⟩ = some (str X.key) ∧ wx.cell? ⟨b1, o1 + kj * 4 + 1, none⟩ = some (str X.value) ∧ wx.cell? ⟨b1, o1 + kj * 4 + 2, none⟩ = some (.int .i64 X.seq) ∧ wx.cell? ⟨b1, o1 + kj * 4 + 3, none⟩ = some (.bool X.del)) ∧ (wx.cell? ⟨b2, o2 + kb * 4, none⟩ = some (str Y.key) ∧ wx.cell? ⟨b2, o2 + kb * 4 + 1, none⟩ = some (str Y.value) ∧ wx.cell? ⟨b2, o2 + kb * 4 + 2, none⟩ = some (.int .i64 Y.seq) ∧ wx.cell? ⟨b2, o2 + kb * 4 + 3, none⟩ = some (.bool Y.del)))
                    (first | exact P1 | exact P2)
                    (first
                      | (go_at_call 14; refine (AH.out _).mono ?_; rintro r w8 ⟨rfl, b8⟩; have D8 := bx.drew.trans (b8.mono bx.drew.size); have P2 := KC.out _ D8))
                  go_wp2_with (fail)
                  exact ⟨⟨j + 1, by omega, by go_num, by rw [HNX.out]; rfl, D8⟩, by simp [intOf]; omega⟩
                · go_wp2_with (fail)
                  go_region_held3 (fun wx => wx.cell? ⟨G, j, none⟩ = some (.int .i64 (kj : Int)) ∧ wx.cell? ⟨b0, o0 + j, none⟩ = some (.slice (some ⟨b1, o1, none⟩) m1 c1) ∧ wx.cell? ⟨G, bb, none⟩ = some (.int .i64 (kb : Int)) ∧ wx.cell? ⟨b0, o0 + bb, none⟩ = some (.slice (some ⟨b2, o2, none⟩) m2 c2) ∧ (wx.cell? ⟨b1, o1 + kj * 4, none⟩ = some (str X.key) ∧ wx.cell? ⟨b1, o1 + kj * 4 + 1, none⟩ = some (str X.value) ∧ wx.cell? ⟨b1, o1 + kj * 4 + 2, none⟩ = some (.int .i64 X.seq) ∧ wx.cell? ⟨b1, o1 + kj * 4 + 3, none⟩ = some (.bool X.del)) ∧ (wx.cell? ⟨b2, o2 + kb * 4, none⟩ = some (str Y.key) ∧ wx.cell? ⟨b2, o2 + kb * 4 + 1, none⟩ = some (str Y.value) ∧ wx.cell? ⟨b2, o2 + kb * 4 + 2, none⟩ = some (.int .i64 Y.seq) ∧ wx.cell? ⟨b2, o2 + kb * 4 + 3, none⟩ = some (.bool Y.del)))
                    (first | exact P1 | exact P2)
                    (first
                      | (go_at_call 14; refine (AH.out _).mono ?_; rintro r w8 ⟨rfl, b8⟩; have D8 := bx.drew.trans (b8.mono bx.drew.size); have P2 := KC.out _ D8))
                  go_wp2_with (fail)
                  exact ⟨⟨j + 1, by omega, by go_num, by rw [HNX.out]; rfl, D8⟩, by simp [intOf]; omega⟩
          · have ej : j = n := by omega
            subst ej
            have jn : ¬ (j : Int) < (j : Int) := by omega
            cases hbb : Bk.rbN R j with
            | none =>
              have ez : bI none = -1 := rfl
              rw [ez]
              clear ez
              have HE : Hid (Bk.mergeE ls = 0 ∧ Bk.mergeL ls = O) := by
                have h := MM.out.done hbb
                refine ⟨?_, ?_⟩
                · unfold Bk.mergeE; rw [HALL.out, h]; rfl
                · unfold Bk.mergeL; rw [HALL.out, h]; rfl
              have HR : Hid (wr.ownsRow w.heap.size 38 4 (.slice vb p cq) O.length (ecs O)) := by
                have := own_laterV MM.out.out bx
                rw [MM.out.pl] at this ⊢
                exact this
              clear hbb MM
              go_wp2_with (fail)
              go_ret2
              rw [HE.out.1, HE.out.2]
              exact ⟨_, rfl, HR.out, BEL.trans (bx.mono BEL.size)⟩
            | some bb =>
              have ez : bI (some bb) = (bb : Int) := rfl
              rw [ez]
              clear ez
              obtain ⟨hbn, hbne, hsum, hstop, hfol⟩ := MM.out.chosen bb hbb
              have bv : bb < vs.length := by rw [VL.out]; exact hbn
              obtain ⟨b2, o2, m2, c2, ev2, hk2, hm2, KY⟩ := MM.out.there HL.out bb hbn hbne bv
              obtain ⟨b0, o0, rfl, cl0⟩ := CL.out bb hbn bv w (Below.refl _ _)
              have CLJ : Hid (∀ wx, Below W3.heap.size W3 wx → wx.cell? ⟨b0, o0 + bb, none⟩ = some (.slice (some ⟨b2, o2, none⟩) m2 c2)) := fun wx hb => by
                obtain ⟨b, off, e, h⟩ := CL.out bb hbn bv wx (BEL.trans (hb.mono BEL.size))
                cases e
                rw [← ev2]
                exact h
              have AC : Hid (∀ wx, Below W3.heap.size W3 wx → wx.cell? ⟨G, bb, none⟩ = some (.int .i64 ((at'.getD bb 0 : Nat) : Int))) := fun wx hb => MM.out.atcell bb hbn wx hb
              have STP : Hid (Bk.mayFollow O (Bk.hdAt R bb) = true → ∀ (W5 w4 : World) (g' cap' : Nat), Below W3.heap.size W3 W5 → w4.ownsRow w.heap.size 38 4 (.slice (some ⟨g', 0, none⟩) (p + 1) cap') (p + 1) (ecs (O ++ [Bk.hdAt R bb])) → W5.grownBy w4 (Value.slice vb p cq).ownBlock → ((Value.slice vb p cq).ownBlock = some g' ∨ g' = W5.heap.size) →
                  w4.cell? ⟨G, bb, none⟩ = some (.int .i64 ((at'.getD bb 0 : Nat) : Int)) ∧ w4.frozen? ⟨G, bb, none⟩ = false ∧ Hid (∃ at2 R2 O2, Rm w ls G j (some ⟨g', 0, none⟩) (p + 1) cap' at2 R2 O2 (w4.setCell ⟨G, bb, none⟩ (.int .i64 (((at'.getD bb 0 : Nat) : Int) + 1))))) := fun hf W5 w4 g' cap' b3 o4 gr hat => by
                obtain ⟨h1, h2⟩ := MM.out.step bb hbb hf b3 o4 gr hat
                refine ⟨?_, h1.frozenAt bb, ⟨_, _, _, h2⟩⟩
                rw [h1.cellAt bb (by omega), nats_get _ _ (by rw [MM.out.al]; exact hbn)]
              have OUT := hide MM.out.out
              have HPL := hide MM.out.pl
              have k1000 : at'.getD bb 0 ≤ 1000 := by have := HS2.out bb; omega
              have SUM : Hid (p + 1 ≤ T) := by show p + 1 ≤ T; rw [HT.out]; exact hsum
              have STOP : Hid (Bk.mayFollow O (Bk.hdAt R bb) = false → Bk.mergeE ls = 9 ∧ Bk.mergeL ls = []) := fun hf => by
                have h := hstop hf
                refine ⟨?_, ?_⟩
                · unfold Bk.mergeE; rw [HALL.out, h]; rfl
                · unfold Bk.mergeL; rw [HALL.out, h]; rfl
              have FOL := hide hfol
              obtain ⟨kb, hkb⟩ : ∃ kb, kb = at'.getD bb 0 := ⟨_, rfl⟩
              rw [← hkb] at hk2 KY AC STP k1000
              have HKB := hide hkb
              have BELh := hide BEL
              have HKY := hide KY
              generalize Bk.hdAt R bb = Y at *
              have KC : Hid (∀ wx, Below W3.heap.size W3 wx → wx.cell? ⟨G, bb, none⟩ = some (.int .i64 (kb : Int)) ∧ wx.cell? ⟨b0, o0 + bb, none⟩ = some (.slice (some ⟨b2, o2, none⟩) m2 c2) ∧ (wx.cell? ⟨b2, o2 + kb * 4, none⟩ = some (str Y.key) ∧ wx.cell? ⟨b2, o2 + kb * 4 + 1, none⟩ = some (str Y.value) ∧ wx.cell? ⟨b2, o2 + kb * 4 + 2, none⟩ = some (.int .i64 Y.seq) ∧ wx.cell? ⟨b2, o2 + kb * 4 + 3, none⟩ = some (.bool Y.del))) := fun wx hb => ⟨AC.out wx hb, CLJ.out wx hb, HKY.out wx (BELh.out.trans (hb.mono BELh.out.size))⟩
              have l1 : (kb : Int) < (m2 : Int) := by omega
              have l0 : (0 : Int) ≤ (kb : Int) := by omega
              have bn : (bb : Int) < (j : Int) := by omega
              have bn0 : (0 : Int) ≤ (bb : Int) := by omega
              have bn1 : ¬ (bb : Int) < 0 := by omega
              have P1 := KC.out wr.drew bx.drew
              have Z3 : Hid (w.heap.size ≤ W3.heap.size) := BEL.size
              clear MM hstop hsum hfol hbb KY hkb cl0 CL CLJ AC ev2 hbne bv hm2 HALL BEL HKY
              go_wp2_with (fail)
              go_region_held3 (fun wx => wx.cell? ⟨G, bb, none⟩ = some (.int .i64 (kb : Int)) ∧ wx.cell? ⟨b0, o0 + bb, none⟩ = some (.slice (some ⟨b2, o2, none⟩) m2 c2) ∧ (wx.cell? ⟨b2, o2 + kb * 4, none⟩ = some (str Y.key) ∧ wx.cell? ⟨b2, o2 + kb * 4 + 1, none⟩ = some (str Y.value) ∧ wx.cell? ⟨b2, o2 + kb * 4 + 2, none⟩ = some (.int .i64 Y.seq) ∧ wx.cell? ⟨b2, o2 + kb * 4 + 3, none⟩ = some (.bool Y.del)))
                (first | exact P1 | exact KC.out _ (bx.drew.alloc bx.drew.size _) | go_keep) (fail)
              obtain ⟨YK, YV, YQ, YD⟩ := Y
              obtain ⟨W5, hW5⟩ : ∃ W5, W5 = (wr.alloc (.cells #[str YK, str YV, .int .i64 YQ, .bool YD] 38)).drew := ⟨_, rfl⟩
              obtain ⟨E1, hE1⟩ : ∃ E1, E1 = wr.heap.size := ⟨_, rfl⟩
              have BR : Below W3.heap.size W3 W5 := by rw [hW5]; exact (bx.alloc bx.size _).drew
              have EC : Hid (∀ wx, Below W5.heap.size W5 wx → wx.cell? ⟨E1, 0, none⟩ = some (str YK) ∧ wx.cell? ⟨E1, 1, none⟩ = some (str YV) ∧ wx.cell? ⟨E1, 2, none⟩ = some (.int .i64 YQ) ∧ wx.cell? ⟨E1, 3, none⟩ = some (.bool YD)) := fun wx hb => by
                have h0 : ∀ k, W5.cell? ⟨E1, k, none⟩ = (#[str YK, str YV, .int .i64 YQ, .bool YD] : Array Value)[k]? := fun k => by
                  rw [hW5, hE1]
                  exact Joins.cell_of_block (World.alloc_heap_new wr _) k
                exact ⟨keepC hb (h0 0), keepC hb (h0 1), keepC hb (h0 2), keepC hb (h0 3)⟩
              simp only [] at P1
              rw [← hW5, ← hE1]
              clear hW5 hE1 P1 KC bx
              have wk : IntKind.i64.wrap ((kb : Int) + 1) = (kb : Int) + 1 := by rw [IntKind.wrap_i64]; omega
              have NCX : Hid (∀ X : World, ∀ j u, (ec ⟨YK, YV, YQ, YD⟩)[j]? = some u → (X.alloc (entO ⟨YK, YV, YQ, YD⟩)).cell? ⟨X.heap.size, j, none⟩ = some u) := fun X => ent_new X ⟨YK, YV, YQ, YD⟩
              rcases List.eq_nil_or_concat O with ho | ⟨O', y, ho⟩
              · subst ho
                have p0 : p = 0 := by rw [HPL.out]; rfl
                subst p0
                have HF : Hid (Bk.mayFollow [] ⟨YK, YV, YQ, YD⟩ = true) := Bk.follow_nil _
                clear FOL STOP
                go_wp2_with (fail)
                go_quiet (fail)
                obtain ⟨X, hX⟩ : ∃ X, X = W5.drewN nq := ⟨_, rfl⟩
                have bX : Below W5.heap.size W5 X := by rw [hX]; exact below_drewN (Below.refl _ _) _
                rw [← hX]
                clear hX
                have BX : Below W3.heap.size W3 X := BR.trans (bX.mono BR.size)
                obtain ⟨d0, d1, d2, d3⟩ := EC.out _ bX
                have OX := hide (own_laterV OUT.out BX)
                have BXa : Hid (Below W3.heap.size W3 (X.alloc (entO ⟨YK, YV, YQ, YD⟩))) := BX.alloc BX.size _
                have ZX : Hid (w.heap.size ≤ (X.alloc (entO ⟨YK, YV, YQ, YD⟩)).heap.size) := Nat.le_trans Z3.out BXa.out.size
                clear BX bX BR EC OUT
                go_wp2_with (at_builtin; refine wpList_app_ent _ rfl _ _ rfl w.heap.size _ [] ⟨YK, YV, YQ, YD⟩ 0 HPL.out rfl (OX.out.alloc _) X.heap.size rfl (NCX.out X) (by omega) ZX.out ?_; intro g5 cap5 w5 o5 gr5 hat5 lt5; obtain ⟨d5, f5, M5⟩ := STP.out HF.out _ w5 g5 cap5 BXa.out o5 gr5 hat5; clear o5 gr5 hat5 STP OX d0 d1 d2 d3)
                obtain ⟨at2, R2, O2, m5⟩ := M5.out
                exact ⟨⟨_, 0 + 1, cap5, at2, R2, O2, rfl, SUM.out, m5⟩, by have := SUM.out; simp [sliceLenM]; omega⟩
              · rw [List.concat_eq_append] at ho
                obtain ⟨yk, yv, yq, yd⟩ := y
                have HFO : Hid (Bk.mayFollow O ⟨YK, YV, YQ, YD⟩ = !(decide (yk = YK) && decide (yq = YQ))) := FOL.out O' _ ho
                have hk : p = O'.length + 1 := by rw [HPL.out, ho]; simp
                obtain ⟨g7, cq', hvb⟩ := own_someE OUT.out (by omega)
                simp only [Value.slice.injEq] at hvb
                obtain ⟨rfl, _, rfl⟩ := hvb
                have YC : Hid (∀ wx, Below W3.heap.size W3 wx → wx.cell? ⟨g7, O'.length * 4, none⟩ = some (str yk) ∧ wx.cell? ⟨g7, O'.length * 4 + 2, none⟩ = some (.int .i64 yq)) := fun wx hw => by
                  have h1 : EntsAt wx (.slice (some ⟨g7, 0, none⟩) p cq) O := EntsAt.own (by rw [← HPL.out]; exact own_laterV OUT.out hw)
                  have h2 := h1.cells O'.length (by rw [ho]; simp)
                  rw [Nat.zero_add] at h2
                  have e1 : O[O'.length]'(by rw [ho]; simp) = ⟨yk, yv, yq, yd⟩ := by simp [ho]
                  rw [e1] at h2
                  exact ⟨h2.1, h2.2.2.1⟩
                obtain ⟨kk, hkk⟩ : ∃ kk, kk = O'.length := ⟨_, rfl⟩
                rw [← hkk] at YC hk
                clear ho hkk FOL
                subst hk
                have z1 : ((kk + 1 : Nat) : Int) > 0 := by omega
                have z1' : (kk : Int) + 1 > 0 := by omega
                have z2 : (kk : Int) < (kk : Int) + 1 := by omega
                have z2' : (kk : Int) < ((kk + 1 : Nat) : Int) := by omega
                have z3 : (0 : Int) ≤ (kk : Int) := by omega
                have z4 : IntKind.i64.wrap (kk : Int) = (kk : Int) := by rw [IntKind.wrap_i64]; omega
                obtain ⟨y0, y2⟩ := YC.out W5 BR
                obtain ⟨x0, x1, x2, x3⟩ := EC.out W5 (Below.refl _ _)
                cases hK : (yk == YK)
                · have HF : Hid (Bk.mayFollow O ⟨YK, YV, YQ, YD⟩ = true) := by
                    show _ = _
                    rw [HFO.out]
                    have : yk ≠ YK := fun e => by rw [e] at hK; simp at hK
                    simp [this]
                  clear HFO STOP YC
                  go_wp2_with (fail)
                  go_quiet (fail)
                  obtain ⟨X, hX⟩ : ∃ X, X = W5.drewN nq := ⟨_, rfl⟩
                  have bX : Below W5.heap.size W5 X := by rw [hX]; exact below_drewN (Below.refl _ _) _
                  rw [← hX]
                  clear hX
                  have BX : Below W3.heap.size W3 X := BR.trans (bX.mono BR.size)
                  obtain ⟨d0, d1, d2, d3⟩ := EC.out _ bX
                  have OX := hide (own_laterV OUT.out BX)
                  have BXa : Hid (Below W3.heap.size W3 (X.alloc (entO ⟨YK, YV, YQ, YD⟩))) := BX.alloc BX.size _
                  have ZX : Hid (w.heap.size ≤ (X.alloc (entO ⟨YK, YV, YQ, YD⟩)).heap.size) := Nat.le_trans Z3.out BXa.out.size
                  clear BX bX BR EC OUT
                  clear y0 y2 x0 x1 x2 x3 hK
                  go_wp2_with (at_builtin; refine wpList_app_ent _ rfl _ _ rfl w.heap.size _ O ⟨YK, YV, YQ, YD⟩ (kk + 1) HPL.out rfl (OX.out.alloc _) X.heap.size rfl (NCX.out X) (by omega) ZX.out ?_; intro g5 cap5 w5 o5 gr5 hat5 lt5; obtain ⟨d5, f5, M5⟩ := STP.out HF.out _ w5 g5 cap5 BXa.out o5 gr5 hat5; clear o5 gr5 hat5 STP OX d0 d1 d2 d3)
                  obtain ⟨at2, R2, O2, m5⟩ := M5.out
                  exact ⟨⟨_, (kk + 1) + 1, cap5, at2, R2, O2, rfl, SUM.out, m5⟩, by have := SUM.out; simp [sliceLenM]; omega⟩
                · cases hQ : (yq == YQ)
                  · have HF : Hid (Bk.mayFollow O ⟨YK, YV, YQ, YD⟩ = true) := by
                      show _ = _
                      rw [HFO.out]
                      have : yq ≠ YQ := fun e => by rw [e] at hQ; simp at hQ
                      simp [this]
                    clear HFO STOP YC
                    go_wp2_with (fail)
                    go_quiet (fail)
                    obtain ⟨X, hX⟩ : ∃ X, X = W5.drewN nq := ⟨_, rfl⟩
                    have bX : Below W5.heap.size W5 X := by rw [hX]; exact below_drewN (Below.refl _ _) _
                    rw [← hX]
                    clear hX
                    have BX : Below W3.heap.size W3 X := BR.trans (bX.mono BR.size)
                    obtain ⟨d0, d1, d2, d3⟩ := EC.out _ bX
                    have OX := hide (own_laterV OUT.out BX)
                    have BXa : Hid (Below W3.heap.size W3 (X.alloc (entO ⟨YK, YV, YQ, YD⟩))) := BX.alloc BX.size _
                    have ZX : Hid (w.heap.size ≤ (X.alloc (entO ⟨YK, YV, YQ, YD⟩)).heap.size) := Nat.le_trans Z3.out BXa.out.size
                    clear BX bX BR EC OUT
                    clear y0 y2 x0 x1 x2 x3 hK hQ
                    go_wp2_with (at_builtin; refine wpList_app_ent _ rfl _ _ rfl w.heap.size _ O ⟨YK, YV, YQ, YD⟩ (kk + 1) HPL.out rfl (OX.out.alloc _) X.heap.size rfl (NCX.out X) (by omega) ZX.out ?_; intro g5 cap5 w5 o5 gr5 hat5 lt5; obtain ⟨d5, f5, M5⟩ := STP.out HF.out _ w5 g5 cap5 BXa.out o5 gr5 hat5; clear o5 gr5 hat5 STP OX d0 d1 d2 d3)
                    obtain ⟨at2, R2, O2, m5⟩ := M5.out
                    exact ⟨⟨_, (kk + 1) + 1, cap5, at2, R2, O2, rfl, SUM.out, m5⟩, by have := SUM.out; simp [sliceLenM]; omega⟩
                  · have HE := hide (STOP.out (by rw [HFO.out]; simp at hK hQ; simp [hK, hQ]))
                    clear HFO STOP YC STP
                    go_wp2_with (fail)
                    go_quiet (fail)
                    go_wp2_with (fail)
                    go_ret2
                    rw [HE.out.1, HE.out.2]
                    exact ⟨_, rfl, World.ownsRow_nil _ _ _ _, BELh.out.trans ((below_drewN BR _).mono BELh.out.size)⟩
end Go.Proofs.Ytbdgdigpnfpnhaa.Q
