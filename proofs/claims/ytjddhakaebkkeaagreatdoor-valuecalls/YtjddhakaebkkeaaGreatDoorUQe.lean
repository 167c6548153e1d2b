/-
  The document's own Gives: the kind that an operation gives, of any list of kinds.
-/
import Derived.Test.YtjddhakaebkkeaaGreatDoorUQd
import Derived.Test.YtjddhakaebkkeaaGreatDoorUDrawn
import Derived.Deep.Cut
import Derived.BigQuiet
namespace Go.Proofs.YtjddhakaebkkeaaGreatDoor
open Go.RowKit
attribute [local go_sem ↓] Go.wp_at_zero Go.wp_at_succ

theorem ref_all {op : Int} {l : List Val} (h : l.all Val.may = true) : refE op l = givesE op (l.map Val.k) := by
  unfold refE
  rw [h, Bool.and_true]
  by_cases j : justB op l.length = true
  · rw [if_pos j]
  · rw [if_neg j]
    unfold givesE
    rw [List.length_map, if_neg (by simp [j])]
theorem kind_of_may {v : Val} (h : v.may = true) : badK v.k = false := by
  unfold badK
  rcases may_cases v h with ⟨a, _⟩ | ⟨a, _⟩ | ⟨a, _⟩ | ⟨a, _⟩ <;> rw [a] <;> rfl
theorem op_cmp {op : Int} (h : 9 ≤ op ∧ op ≤ 14) : op = 9 ∨ op = 10 ∨ op = 11 ∨ op = 12 ∨ op = 13 ∨ op = 14 := by omega
theorem gives_cmp {op : Int} (h : 9 ≤ op ∧ op ≤ 14) {i j : Int} (hi : badK i = false) (hj : badK j = false) : givesE op [i, j] = if ¬ i = 0 ∧ ¬ j = 0 ∧ ¬ i = j then 220 else 0 := by
  have e1 : asksK op [i, j] = if i = 0 then j else i := by
    rw [← firstK_two]
    rcases op_cmp h with rfl | rfl | rfl | rfl | rfl | rfl <;> rfl
  have e2 : justB op 2 = true := by rcases op_cmp h with rfl | rfl | rfl | rfl | rfl | rfl <;> rfl
  unfold givesE
  rw [e1]
  have e3 : ([i, j].any badK) = false := by simp [hi, hj]
  rw [e3, show [i, j].length = 2 from rfl, e2]
  simp only [Bool.not_false, Bool.and_self, if_true, List.any_cons, List.any_nil, Bool.or_false, oddK]
  by_cases a : i = 0
  · subst a; simp
  · by_cases b : j = 0
    · subst b; simp [a]
    · by_cases c : i = j
      · subst c; simp [a]
      · have c' : ¬ j = i := fun e => c e.symm
        simp [a, b, c, c']
theorem ref_cmp {op : Int} (h : 9 ≤ op ∧ op ≤ 14) {a b : Val} (ha : a.may = true) (hb : b.may = true) : refE op [a, b] = if ¬ a.k = 0 ∧ ¬ b.k = 0 ∧ ¬ a.k = b.k then 220 else 0 := by
  rw [ref_all (by simp [ha, hb]), show [a, b].map Val.k = [a.k, b.k] from rfl]
  exact gives_cmp h (kind_of_may ha) (kind_of_may hb)
theorem makes_cmp {op : Int} (h : 9 ≤ op ∧ op ≤ 14) (a b : Val) : makesR op [a, b] = if [a, b].any isN then (nullV, 0) else (tv (holdsB op (cmpV a b)), 0) := by
  rcases op_cmp h with rfl | rfl | rfl | rfl | rfl | rfl <;> rfl
theorem cmp_null {op : Int} (h : 9 ≤ op ∧ op ≤ 14) {a b : Val} (ha : a.may = true) (hb : b.may = true) (hn : a.k = 0 ∨ b.k = 0) : doR op [a, b] = (nullV, 0) := by
  have e : refE op [a, b] = 0 := by rw [ref_cmp h ha hb, if_neg]; rintro ⟨x, y, _⟩; rcases hn with z | z <;> contradiction
  unfold doR
  rw [if_pos e, makes_cmp h, if_pos]
  rcases hn with z | z <;> simp [isN, z]
theorem cmp_kinds {op : Int} (h : 9 ≤ op ∧ op ≤ 14) {a b : Val} (ha : a.may = true) (hb : b.may = true) (h1 : ¬ a.k = 0) (h2 : ¬ b.k = 0) (h3 : ¬ a.k = b.k) : doR op [a, b] = (nullV, 220) := by
  have e : refE op [a, b] = 220 := by rw [ref_cmp h ha hb, if_pos ⟨h1, h2, h3⟩]
  unfold doR
  rw [e]; rfl
theorem cmp_same {op : Int} (h : 9 ≤ op ∧ op ≤ 14) {a b : Val} (ha : a.may = true) (hb : b.may = true) (h1 : ¬ a.k = 0) (h3 : a.k = b.k) : doR op [a, b] = (tv (holdsB op (cmpV a b)), 0) := by
  have e : refE op [a, b] = 0 := by rw [ref_cmp h ha hb, if_neg]; rintro ⟨_, _, z⟩; exact z h3
  unfold doR
  rw [if_pos e, makes_cmp h, if_neg]
  have h2 : ¬ b.k = 0 := by rw [← h3]; exact h1
  simp [isN, h1, h2]
theorem op_eighteen {op : Int} (h : ¬ takes op = 0) : (3 ≤ op ∧ op ≤ 7) ∨ op = 8 ∨ (9 ≤ op ∧ op ≤ 14) ∨ op = 15 ∨ op = 16 ∨ op = 17 ∨ op = 18 ∨ op = 19 ∨ op = 20 := by
  unfold takes at h
  by_cases h1 : 3 ≤ op ∧ op ≤ 16
  · omega
  · rw [if_neg h1] at h
    by_cases h2 : 17 ≤ op ∧ op ≤ 20
    · omega
    · rw [if_neg h2] at h; exact absurd rfl h
/-- A kind beside the one that is asked for. -/
theorem oddN_ways (x k : Int) : ((k != x) = false ∧ oddK x k = false) ∨ ((k != x) = true ∧ k = 0 ∧ oddK x k = false) ∨ ((k != x) = true ∧ (k != 0) = true ∧ oddK x k = true) := by
  by_cases h2 : k = x
  · exact .inl ⟨by simpa using h2, by simp [oddK, h2]⟩
  · by_cases h : k = 0
    · exact .inr (.inl ⟨by simpa using h2, h, by simp [oddK, h]⟩)
    · exact .inr (.inr ⟨by simpa using h2, by simpa using h, by simp [oddK, h, h2]⟩)
theorem badK_ways (k : Int) : (k ≤ 3 ∧ badK k = false) ∨ (3 < k ∧ badK k = true) := by
  unfold badK
  by_cases h : 3 < k
  · exact .inr ⟨h, by simpa using h⟩
  · exact .inl ⟨by omega, by simpa using h⟩
theorem gives_two {op : Int} {l : List Int} (hj : justB op l.length = true) (hb : l.any badK = false) {X : Int} (hx : asksK op l = X) : givesE op l = if l.any (oddK X) then 220 else 0 := by
  unfold givesE; rw [hj, hb, hx]; rfl
theorem asks_low {op : Int} (h : 3 ≤ op ∧ op ≤ 7) (l : List Int) : asksK op l = 2 ∧ answK op = 2 := by
  have e : op = 3 ∨ op = 4 ∨ op = 5 ∨ op = 6 ∨ op = 7 := by omega
  rcases e with rfl | rfl | rfl | rfl | rfl <;> exact ⟨rfl, rfl⟩
theorem gives_null {op : Int} (h : op = 19 ∨ op = 20) {i : Int} (hb : badK i = false) : givesE op [i] = 0 ∧ givesK op [i] = 1 := by
  have x : asksK op [i] = firstK [i] := by rcases h with rfl | rfl <;> rfl
  have j : justB op ([i] : List Int).length = true := by rcases h with rfl | rfl <;> rfl
  have e : givesE op [i] = 0 := by
    unfold givesE
    rw [j, x, show ([i] : List Int).any badK = false from by simp [hb]]
    by_cases z : i = 0
    · subst z; rfl
    · rw [show firstK [i] = i from by simp [firstK, z]]
      simp [oddK]
  refine ⟨e, ?_⟩
  unfold givesK
  rw [if_pos e]
  rcases h with rfl | rfl <;> rfl

set_option maxHeartbeats 6400000 in
theorem rgives_any (w : World) (op : Int) (v : Value) (l : List Int) (h : KindsIn w v l) :
    Calls Tryz.prog 9 #[.int .u8 op, v] w fun e w' => e = .returned (.tuple #[.int .u8 (givesK op l), .int .i64 (givesE op l)]) ∧ Below w.heap.size w w' := by
  obtain ⟨⟨a, cap, rfl, hf⟩, hlen⟩ := h
  have HL : Hid (l ≠ [] → ∃ b off, a = some ⟨b, off, none⟩ ∧ KindsAt w b off l) := hf
  clear hf
  have B0 : Hid (Below w.heap.size w w) := Below.refl _ _
  obtain ⟨T, hT⟩ : ∃ T, T = takes op := ⟨_, rfl⟩
  have TK : Hid (∀ wx, Calls Tryz.prog 11 #[.int .u8 op] wx fun e w' => e = .returned (.int .i64 T) ∧ w' = wx) := fun wx => by rw [hT]; exact rtakes_any wx op
  have HJ : Hid (justB op l.length = (decide (0 < l.length) && decide (T = (l.length : Int)))) := by show _ = _; rw [hT]; rfl
  have HT : Hid (T = takes op) := hT
  clear hT
  by_cases h0 : T = 0
  · have hj : justB op l.length = false := by rw [HJ.out, h0]; simp; omega
    have G : Hid (givesE op l = 2 ∧ givesK op l = 0) := by
      have e : givesE op l = 2 := by unfold givesE; rw [hj]; rfl
      exact ⟨e, by unfold givesK; rw [e]; rfl⟩
    clear hj HJ HT
    subst h0
    go_enter Tryz.func9, Tryz.ntmps9
    go_wp2_with (go_at_call 11; refine still (TK.out _) ?_)
    go_ret2
    exact ⟨by rw [G.out.1, G.out.2]; rfl, B0.out⟩
  · have b0 : (T == 0) = false := by simpa using h0
    have H18 := hide (op_eighteen (HT.out ▸ h0))
    by_cases h1 : T = (l.length : Int)
    · have b1 : (T != (l.length : Int)) = false := by simpa using h1
      have JJ : Hid (justB op l.length = true) := by show _ = _; rw [HJ.out, h1]; simp; omega
      have H2 : Hid (takes op = (l.length : Int)) := by show _ = _; rw [← HT.out, h1]
      clear h0 h1 HJ HT
      go_enter Tryz.func9, Tryz.ntmps9
      go_wp2_with (go_at_call 11; refine still (TK.out _) ?_)
      go_loopw [6] (fun i wr => ∃ j : Nat, j ≤ l.length ∧ i = .int .i64 j ∧ wr = w ∧ (l.take j).any badK = false) (fun i _ => l.length - (intOf i).toNat)
      case atStart => exact ⟨0, Nat.zero_le _, rfl, rfl, by simp⟩
      case round =>
        obtain ⟨j, hj, rfl, ew, hc⟩ := hrel
        have ew2 := ew.symm
        subst ew2
        have HC := hide hc
        clear hc
        by_cases hlt : j < l.length
        · obtain ⟨b, off, rfl, hv⟩ := HL.out (by intro e; rw [e] at hlt; simp at hlt)
          have c0 := hv j hlt
          obtain ⟨k, hk⟩ : ∃ k, k = l[j] := ⟨_, rfl⟩
          rw [← hk] at c0
          have HQ : Hid (k = l[j]) := hk
          clear hk hv
          rcases badK_ways k with ⟨k1, q⟩ | ⟨k1, q⟩
          · have HZ : Hid ((l.take (j + 1)).any badK = false) := by show _ = _; rw [any_take _ _ _ hlt HC.out, ← HQ.out, q]
            clear q
            go_wp2
            go_roundw
            case rel => exact ⟨j + 1, by omega, by go_num, by simp, HZ.out⟩
            case measure => simp [intOf]; omega
          · have HZ : Hid (l.any badK = true) := any_there _ _ _ hlt (by rw [← HQ.out, q])
            have G : Hid (givesE op l = 2 ∧ givesK op l = 0) := by
              have e : givesE op l = 2 := by unfold givesE; rw [HZ.out, JJ.out]; rfl
              exact ⟨e, by unfold givesK; rw [e]; rfl⟩
            clear q
            go_wp2
            go_ret2
            exact ⟨by rw [G.out.1, G.out.2]; rfl, B0.out⟩
        · have HZ : Hid (l.any badK = false) := by
            show _ = _
            have h := HC.out
            rwa [List.take_of_length_le (by omega)] at h
          clear b0 b1 TK HC
          rcases H18.out with ⟨g1, g2⟩ | rfl | ⟨g1, g2⟩ | rfl | rfl | rfl | rfl | rfl | rfl
          · have x8 : (op == 8) = false := by simp; omega
            have x15 : (op == 15) = false := by simp; omega
            have x16 : (op == 16) = false := by simp; omega
            have x17 : (op == 17) = false := by simp; omega
            have x19 : (op == 19) = false := by simp; omega
            have x20 : (op == 20) = false := by simp; omega
            have x9 : ¬ 9 ≤ op := by omega
            have HX : Hid (asksK op l = 2) := (asks_low ⟨g1, g2⟩ l).1
            have HN : Hid (answK op = 2) := (asks_low ⟨g1, g2⟩ l).2
            clear g1 g2
            have HE := hide (gives_two JJ.out HZ.out HX.out)
            clear HX JJ HZ H2 H18
            go_wp2
            go_loopw [9] (fun i wr => ∃ j : Nat, j ≤ l.length ∧ i = .int .i64 j ∧ wr = w ∧ (l.take j).any (oddK 2) = false) (fun i _ => l.length - (intOf i).toNat)
            case atStart => exact ⟨0, Nat.zero_le _, rfl, rfl, by simp⟩
            case round =>
              clear hlt
              obtain ⟨j, hj, rfl, ew, hc⟩ := hrel
              have ew2 := ew.symm
              subst ew2
              have HC := hide hc
              clear hc
              by_cases hlt : j < l.length
              · obtain ⟨b, off, rfl, hv⟩ := HL.out (by intro e; rw [e] at hlt; simp at hlt)
                have c0 := hv j hlt
                obtain ⟨k, hk⟩ : ∃ k, k = l[j] := ⟨_, rfl⟩
                rw [← hk] at c0
                have HQ : Hid (k = l[j]) := hk
                clear hk hv
                rcases oddN_ways 2 k with ⟨k1, q⟩ | ⟨k1, rfl, q⟩ | ⟨k1, k2, q⟩
                · have HZ : Hid ((l.take (j + 1)).any (oddK 2) = false) := by show _ = _; rw [any_take _ _ _ hlt HC.out, ← HQ.out, q]
                  clear q
                  go_wp2
                  go_roundw
                  case rel => exact ⟨j + 1, by omega, by go_num, by simp, HZ.out⟩
                  case measure => simp [intOf]; omega
                · have HZ : Hid ((l.take (j + 1)).any (oddK 2) = false) := by show _ = _; rw [any_take _ _ _ hlt HC.out, ← HQ.out, q]
                  clear q
                  go_wp2
                  go_roundw
                  case rel => exact ⟨j + 1, by omega, by go_num, by simp, HZ.out⟩
                  case measure => simp [intOf]; omega
                · have HZ : Hid (l.any (oddK 2) = true) := any_there _ _ _ hlt (by rw [← HQ.out, q])
                  have G : Hid (givesE op l = 220 ∧ givesK op l = 0) := by
                    have e : givesE op l = 220 := by rw [HE.out, HZ.out]; rfl
                    exact ⟨e, by unfold givesK; rw [e]; rfl⟩
                  clear q
                  go_wp2
                  go_ret2
                  exact ⟨by rw [G.out.1, G.out.2]; rfl, B0.out⟩
              · have HZ : Hid (l.any (oddK 2) = false) := by
                  show _ = _
                  have h := HC.out
                  rwa [List.take_of_length_le (by omega)] at h
                have G : Hid (givesE op l = 0 ∧ givesK op l = 2) := by
                  have e : givesE op l = 0 := by rw [HE.out, HZ.out]; rfl
                  exact ⟨e, by unfold givesK; rw [if_pos e, HN.out]⟩
                go_wp2
                go_ret2
                exact ⟨by rw [G.out.1, G.out.2]; rfl, B0.out⟩
          · have HX : Hid (asksK 8 l = 3) := rfl
            have HN : Hid (answK 8 = 3) := rfl
            have HE := hide (gives_two JJ.out HZ.out HX.out)
            clear HX JJ HZ H2 H18
            go_wp2
            go_loopw [9] (fun i wr => ∃ j : Nat, j ≤ l.length ∧ i = .int .i64 j ∧ wr = w ∧ (l.take j).any (oddK 3) = false) (fun i _ => l.length - (intOf i).toNat)
            case atStart => exact ⟨0, Nat.zero_le _, rfl, rfl, by simp⟩
            case round =>
              clear hlt
              obtain ⟨j, hj, rfl, ew, hc⟩ := hrel
              have ew2 := ew.symm
              subst ew2
              have HC := hide hc
              clear hc
              by_cases hlt : j < l.length
              · obtain ⟨b, off, rfl, hv⟩ := HL.out (by intro e; rw [e] at hlt; simp at hlt)
                have c0 := hv j hlt
                obtain ⟨k, hk⟩ : ∃ k, k = l[j] := ⟨_, rfl⟩
                rw [← hk] at c0
                have HQ : Hid (k = l[j]) := hk
                clear hk hv
                rcases oddN_ways 3 k with ⟨k1, q⟩ | ⟨k1, rfl, q⟩ | ⟨k1, k2, q⟩
                · have HZ : Hid ((l.take (j + 1)).any (oddK 3) = false) := by show _ = _; rw [any_take _ _ _ hlt HC.out, ← HQ.out, q]
                  clear q
                  go_wp2
                  go_roundw
                  case rel => exact ⟨j + 1, by omega, by go_num, by simp, HZ.out⟩
                  case measure => simp [intOf]; omega
                · have HZ : Hid ((l.take (j + 1)).any (oddK 3) = false) := by show _ = _; rw [any_take _ _ _ hlt HC.out, ← HQ.out, q]
                  clear q
                  go_wp2
                  go_roundw
                  case rel => exact ⟨j + 1, by omega, by go_num, by simp, HZ.out⟩
                  case measure => simp [intOf]; omega
                · have HZ : Hid (l.any (oddK 3) = true) := any_there _ _ _ hlt (by rw [← HQ.out, q])
                  have G : Hid (givesE 8 l = 220 ∧ givesK 8 l = 0) := by
                    have e : givesE 8 l = 220 := by rw [HE.out, HZ.out]; rfl
                    exact ⟨e, by unfold givesK; rw [e]; rfl⟩
                  clear q
                  go_wp2
                  go_ret2
                  exact ⟨by rw [G.out.1, G.out.2]; rfl, B0.out⟩
              · have HZ : Hid (l.any (oddK 3) = false) := by
                  show _ = _
                  have h := HC.out
                  rwa [List.take_of_length_le (by omega)] at h
                have G : Hid (givesE 8 l = 0 ∧ givesK 8 l = 3) := by
                  have e : givesE 8 l = 0 := by rw [HE.out, HZ.out]; rfl
                  exact ⟨e, by unfold givesK; rw [if_pos e, HN.out]⟩
                go_wp2
                go_ret2
                exact ⟨by rw [G.out.1, G.out.2]; rfl, B0.out⟩
          · have e2 : l.length = 2 := by
              have h := H2.out
              rw [show takes op = 2 from by unfold takes; rw [if_pos ⟨by omega, by omega⟩]] at h; omega
            obtain ⟨x, y, rfl⟩ : ∃ x y, l = [x, y] := by match l, e2 with | [x, y], _ => exact ⟨x, y, rfl⟩
            have bx : badK x = false := by have h := HZ.out; simp at h; exact h.1
            have by2 : badK y = false := by have h := HZ.out; simp at h; exact h.2
            have HE := hide (gives_cmp ⟨g1, g2⟩ bx by2)
            have HN : Hid (answK op = 1) := by show _ = _; rcases op_cmp ⟨g1, g2⟩ with rfl | rfl | rfl | rfl | rfl | rfl <;> rfl
            clear bx by2 JJ HZ H2 H18
            have x8 : (op == 8) = false := by simp; omega
            have x15 : (op == 15) = false := by simp; omega
            have x16 : (op == 16) = false := by simp; omega
            have x17 : (op == 17) = false := by simp; omega
            have x19 : (op == 19) = false := by simp; omega
            have x20 : (op == 20) = false := by simp; omega
            obtain ⟨b, off, rfl, hv⟩ := HL.out (by simp)
            have c0 : w.cell? ⟨b, off, none⟩ = some (.int .u8 x) := hv 0 (by simp)
            have c1 : w.cell? ⟨b, off + 1, none⟩ = some (.int .u8 y) := hv 1 (by simp)
            clear hv HL
            have BD : Hid (∀ n, Below w.heap.size w (w.drewN n)) := fun n => below_drewN B0.out n
            by_cases z1 : x = y
            · have u1 : (x != y) = false := by simpa using z1
              have G : Hid (givesE op [x, y] = 0 ∧ givesK op [x, y] = 1) := by
                have e : givesE op [x, y] = 0 := by rw [HE.out, if_neg (fun h => h.2.2 z1)]
                exact ⟨e, by unfold givesK; rw [if_pos e, HN.out]⟩
              clear HE HN z1
              go_wp2_with (fail)
              go_quiet (fail)
              go_wp2
              go_ret2
              exact ⟨by rw [G.out.1, G.out.2]; rfl, BD.out _⟩
            · have u1 : (x != y) = true := by simpa using z1
              by_cases z2 : x = 0
              · have u2 : (x != 0) = false := by simpa using z2
                have G : Hid (givesE op [x, y] = 0 ∧ givesK op [x, y] = 1) := by
                  have e : givesE op [x, y] = 0 := by rw [HE.out, if_neg (fun h => h.1 z2)]
                  exact ⟨e, by unfold givesK; rw [if_pos e, HN.out]⟩
                clear HE HN z1 z2
                go_wp2_with (fail)
                go_quiet (fail)
                go_wp2
                go_ret2
                exact ⟨by rw [G.out.1, G.out.2]; rfl, BD.out _⟩
              · have u2 : (x != 0) = true := by simpa using z2
                by_cases z3 : y = 0
                · have u3 : (y != 0) = false := by simpa using z3
                  have G : Hid (givesE op [x, y] = 0 ∧ givesK op [x, y] = 1) := by
                    have e : givesE op [x, y] = 0 := by rw [HE.out, if_neg (fun h => h.2.1 z3)]
                    exact ⟨e, by unfold givesK; rw [if_pos e, HN.out]⟩
                  clear HE HN z1 z2 z3
                  go_wp2_with (fail)
                  go_quiet (fail)
                  go_wp2
                  go_ret2
                  exact ⟨by rw [G.out.1, G.out.2]; rfl, BD.out _⟩
                · have u3 : (y != 0) = true := by simpa using z3
                  have G : Hid (givesE op [x, y] = 220 ∧ givesK op [x, y] = 0) := by
                    have e : givesE op [x, y] = 220 := by rw [HE.out, if_pos ⟨z2, z3, z1⟩]
                    exact ⟨e, by unfold givesK; rw [e]; rfl⟩
                  clear HE HN z1 z2 z3
                  go_wp2_with (fail)
                  go_quiet (fail)
                  go_wp2
                  go_ret2
                  exact ⟨by rw [G.out.1, G.out.2]; rfl, BD.out _⟩
          · have HX : Hid (asksK 15 l = 1) := rfl
            have HN : Hid (answK 15 = 1) := rfl
            have HE := hide (gives_two JJ.out HZ.out HX.out)
            clear HX JJ HZ H2 H18
            go_wp2
            go_loopw [9] (fun i wr => ∃ j : Nat, j ≤ l.length ∧ i = .int .i64 j ∧ wr = w ∧ (l.take j).any (oddK 1) = false) (fun i _ => l.length - (intOf i).toNat)
            case atStart => exact ⟨0, Nat.zero_le _, rfl, rfl, by simp⟩
            case round =>
              clear hlt
              obtain ⟨j, hj, rfl, ew, hc⟩ := hrel
              have ew2 := ew.symm
              subst ew2
              have HC := hide hc
              clear hc
              by_cases hlt : j < l.length
              · obtain ⟨b, off, rfl, hv⟩ := HL.out (by intro e; rw [e] at hlt; simp at hlt)
                have c0 := hv j hlt
                obtain ⟨k, hk⟩ : ∃ k, k = l[j] := ⟨_, rfl⟩
                rw [← hk] at c0
                have HQ : Hid (k = l[j]) := hk
                clear hk hv
                rcases oddN_ways 1 k with ⟨k1, q⟩ | ⟨k1, rfl, q⟩ | ⟨k1, k2, q⟩
                · have HZ : Hid ((l.take (j + 1)).any (oddK 1) = false) := by show _ = _; rw [any_take _ _ _ hlt HC.out, ← HQ.out, q]
                  clear q
                  go_wp2
                  go_roundw
                  case rel => exact ⟨j + 1, by omega, by go_num, by simp, HZ.out⟩
                  case measure => simp [intOf]; omega
                · have HZ : Hid ((l.take (j + 1)).any (oddK 1) = false) := by show _ = _; rw [any_take _ _ _ hlt HC.out, ← HQ.out, q]
                  clear q
                  go_wp2
                  go_roundw
                  case rel => exact ⟨j + 1, by omega, by go_num, by simp, HZ.out⟩
                  case measure => simp [intOf]; omega
                · have HZ : Hid (l.any (oddK 1) = true) := any_there _ _ _ hlt (by rw [← HQ.out, q])
                  have G : Hid (givesE 15 l = 220 ∧ givesK 15 l = 0) := by
                    have e : givesE 15 l = 220 := by rw [HE.out, HZ.out]; rfl
                    exact ⟨e, by unfold givesK; rw [e]; rfl⟩
                  clear q
                  go_wp2
                  go_ret2
                  exact ⟨by rw [G.out.1, G.out.2]; rfl, B0.out⟩
              · have HZ : Hid (l.any (oddK 1) = false) := by
                  show _ = _
                  have h := HC.out
                  rwa [List.take_of_length_le (by omega)] at h
                have G : Hid (givesE 15 l = 0 ∧ givesK 15 l = 1) := by
                  have e : givesE 15 l = 0 := by rw [HE.out, HZ.out]; rfl
                  exact ⟨e, by unfold givesK; rw [if_pos e, HN.out]⟩
                go_wp2
                go_ret2
                exact ⟨by rw [G.out.1, G.out.2]; rfl, B0.out⟩
          · have HX : Hid (asksK 16 l = 1) := rfl
            have HN : Hid (answK 16 = 1) := rfl
            have HE := hide (gives_two JJ.out HZ.out HX.out)
            clear HX JJ HZ H2 H18
            go_wp2
            go_loopw [9] (fun i wr => ∃ j : Nat, j ≤ l.length ∧ i = .int .i64 j ∧ wr = w ∧ (l.take j).any (oddK 1) = false) (fun i _ => l.length - (intOf i).toNat)
            case atStart => exact ⟨0, Nat.zero_le _, rfl, rfl, by simp⟩
            case round =>
              clear hlt
              obtain ⟨j, hj, rfl, ew, hc⟩ := hrel
              have ew2 := ew.symm
              subst ew2
              have HC := hide hc
              clear hc
              by_cases hlt : j < l.length
              · obtain ⟨b, off, rfl, hv⟩ := HL.out (by intro e; rw [e] at hlt; simp at hlt)
                have c0 := hv j hlt
                obtain ⟨k, hk⟩ : ∃ k, k = l[j] := ⟨_, rfl⟩
                rw [← hk] at c0
                have HQ : Hid (k = l[j]) := hk
                clear hk hv
                rcases oddN_ways 1 k with ⟨k1, q⟩ | ⟨k1, rfl, q⟩ | ⟨k1, k2, q⟩
                · have HZ : Hid ((l.take (j + 1)).any (oddK 1) = false) := by show _ = _; rw [any_take _ _ _ hlt HC.out, ← HQ.out, q]
                  clear q
                  go_wp2
                  go_roundw
                  case rel => exact ⟨j + 1, by omega, by go_num, by simp, HZ.out⟩
                  case measure => simp [intOf]; omega
                · have HZ : Hid ((l.take (j + 1)).any (oddK 1) = false) := by show _ = _; rw [any_take _ _ _ hlt HC.out, ← HQ.out, q]
                  clear q
                  go_wp2
                  go_roundw
                  case rel => exact ⟨j + 1, by omega, by go_num, by simp, HZ.out⟩
                  case measure => simp [intOf]; omega
                · have HZ : Hid (l.any (oddK 1) = true) := any_there _ _ _ hlt (by rw [← HQ.out, q])
                  have G : Hid (givesE 16 l = 220 ∧ givesK 16 l = 0) := by
                    have e : givesE 16 l = 220 := by rw [HE.out, HZ.out]; rfl
                    exact ⟨e, by unfold givesK; rw [e]; rfl⟩
                  clear q
                  go_wp2
                  go_ret2
                  exact ⟨by rw [G.out.1, G.out.2]; rfl, B0.out⟩
              · have HZ : Hid (l.any (oddK 1) = false) := by
                  show _ = _
                  have h := HC.out
                  rwa [List.take_of_length_le (by omega)] at h
                have G : Hid (givesE 16 l = 0 ∧ givesK 16 l = 1) := by
                  have e : givesE 16 l = 0 := by rw [HE.out, HZ.out]; rfl
                  exact ⟨e, by unfold givesK; rw [if_pos e, HN.out]⟩
                go_wp2
                go_ret2
                exact ⟨by rw [G.out.1, G.out.2]; rfl, B0.out⟩
          · have HX : Hid (asksK 17 l = 1) := rfl
            have HN : Hid (answK 17 = 1) := rfl
            have HE := hide (gives_two JJ.out HZ.out HX.out)
            clear HX JJ HZ H2 H18
            go_wp2
            go_loopw [9] (fun i wr => ∃ j : Nat, j ≤ l.length ∧ i = .int .i64 j ∧ wr = w ∧ (l.take j).any (oddK 1) = false) (fun i _ => l.length - (intOf i).toNat)
            case atStart => exact ⟨0, Nat.zero_le _, rfl, rfl, by simp⟩
            case round =>
              clear hlt
              obtain ⟨j, hj, rfl, ew, hc⟩ := hrel
              have ew2 := ew.symm
              subst ew2
              have HC := hide hc
              clear hc
              by_cases hlt : j < l.length
              · obtain ⟨b, off, rfl, hv⟩ := HL.out (by intro e; rw [e] at hlt; simp at hlt)
                have c0 := hv j hlt
                obtain ⟨k, hk⟩ : ∃ k, k = l[j] := ⟨_, rfl⟩
                rw [← hk] at c0
                have HQ : Hid (k = l[j]) := hk
                clear hk hv
                rcases oddN_ways 1 k with ⟨k1, q⟩ | ⟨k1, rfl, q⟩ | ⟨k1, k2, q⟩
                · have HZ : Hid ((l.take (j + 1)).any (oddK 1) = false) := by show _ = _; rw [any_take _ _ _ hlt HC.out, ← HQ.out, q]
                  clear q
                  go_wp2
                  go_roundw
                  case rel => exact ⟨j + 1, by omega, by go_num, by simp, HZ.out⟩
                  case measure => simp [intOf]; omega
                · have HZ : Hid ((l.take (j + 1)).any (oddK 1) = false) := by show _ = _; rw [any_take _ _ _ hlt HC.out, ← HQ.out, q]
                  clear q
                  go_wp2
                  go_roundw
                  case rel => exact ⟨j + 1, by omega, by go_num, by simp, HZ.out⟩
                  case measure => simp [intOf]; omega
                · have HZ : Hid (l.any (oddK 1) = true) := any_there _ _ _ hlt (by rw [← HQ.out, q])
                  have G : Hid (givesE 17 l = 220 ∧ givesK 17 l = 0) := by
                    have e : givesE 17 l = 220 := by rw [HE.out, HZ.out]; rfl
                    exact ⟨e, by unfold givesK; rw [e]; rfl⟩
                  clear q
                  go_wp2
                  go_ret2
                  exact ⟨by rw [G.out.1, G.out.2]; rfl, B0.out⟩
              · have HZ : Hid (l.any (oddK 1) = false) := by
                  show _ = _
                  have h := HC.out
                  rwa [List.take_of_length_le (by omega)] at h
                have G : Hid (givesE 17 l = 0 ∧ givesK 17 l = 1) := by
                  have e : givesE 17 l = 0 := by rw [HE.out, HZ.out]; rfl
                  exact ⟨e, by unfold givesK; rw [if_pos e, HN.out]⟩
                go_wp2
                go_ret2
                exact ⟨by rw [G.out.1, G.out.2]; rfl, B0.out⟩
          · have HX : Hid (asksK 18 l = 2) := rfl
            have HN : Hid (answK 18 = 2) := rfl
            have HE := hide (gives_two JJ.out HZ.out HX.out)
            clear HX JJ HZ H2 H18
            go_wp2
            go_loopw [9] (fun i wr => ∃ j : Nat, j ≤ l.length ∧ i = .int .i64 j ∧ wr = w ∧ (l.take j).any (oddK 2) = false) (fun i _ => l.length - (intOf i).toNat)
            case atStart => exact ⟨0, Nat.zero_le _, rfl, rfl, by simp⟩
            case round =>
              clear hlt
              obtain ⟨j, hj, rfl, ew, hc⟩ := hrel
              have ew2 := ew.symm
              subst ew2
              have HC := hide hc
              clear hc
              by_cases hlt : j < l.length
              · obtain ⟨b, off, rfl, hv⟩ := HL.out (by intro e; rw [e] at hlt; simp at hlt)
                have c0 := hv j hlt
                obtain ⟨k, hk⟩ : ∃ k, k = l[j] := ⟨_, rfl⟩
                rw [← hk] at c0
                have HQ : Hid (k = l[j]) := hk
                clear hk hv
                rcases oddN_ways 2 k with ⟨k1, q⟩ | ⟨k1, rfl, q⟩ | ⟨k1, k2, q⟩
                · have HZ : Hid ((l.take (j + 1)).any (oddK 2) = false) := by show _ = _; rw [any_take _ _ _ hlt HC.out, ← HQ.out, q]
                  clear q
                  go_wp2
                  go_roundw
                  case rel => exact ⟨j + 1, by omega, by go_num, by simp, HZ.out⟩
                  case measure => simp [intOf]; omega
                · have HZ : Hid ((l.take (j + 1)).any (oddK 2) = false) := by show _ = _; rw [any_take _ _ _ hlt HC.out, ← HQ.out, q]
                  clear q
                  go_wp2
                  go_roundw
                  case rel => exact ⟨j + 1, by omega, by go_num, by simp, HZ.out⟩
                  case measure => simp [intOf]; omega
                · have HZ : Hid (l.any (oddK 2) = true) := any_there _ _ _ hlt (by rw [← HQ.out, q])
                  have G : Hid (givesE 18 l = 220 ∧ givesK 18 l = 0) := by
                    have e : givesE 18 l = 220 := by rw [HE.out, HZ.out]; rfl
                    exact ⟨e, by unfold givesK; rw [e]; rfl⟩
                  clear q
                  go_wp2
                  go_ret2
                  exact ⟨by rw [G.out.1, G.out.2]; rfl, B0.out⟩
              · have HZ : Hid (l.any (oddK 2) = false) := by
                  show _ = _
                  have h := HC.out
                  rwa [List.take_of_length_le (by omega)] at h
                have G : Hid (givesE 18 l = 0 ∧ givesK 18 l = 2) := by
                  have e : givesE 18 l = 0 := by rw [HE.out, HZ.out]; rfl
                  exact ⟨e, by unfold givesK; rw [if_pos e, HN.out]⟩
                go_wp2
                go_ret2
                exact ⟨by rw [G.out.1, G.out.2]; rfl, B0.out⟩
          · have e1 : l.length = 1 := by have h := H2.out; rw [show takes 19 = 1 from rfl] at h; omega
            obtain ⟨i, rfl⟩ := List.length_eq_one_iff.mp e1
            have G := hide (gives_null (op := 19) (by simp) (i := i) (by have h := HZ.out; simpa using h))
            clear JJ HZ H2 H18
            go_wp2
            go_ret2
            exact ⟨by rw [G.out.1, G.out.2]; rfl, B0.out⟩
          · have e1 : l.length = 1 := by have h := H2.out; rw [show takes 20 = 1 from rfl] at h; omega
            obtain ⟨i, rfl⟩ := List.length_eq_one_iff.mp e1
            have G := hide (gives_null (op := 20) (by simp) (i := i) (by have h := HZ.out; simpa using h))
            clear JJ HZ H2 H18
            go_wp2
            go_ret2
            exact ⟨by rw [G.out.1, G.out.2]; rfl, B0.out⟩
    · have b1 : (T != (l.length : Int)) = true := by simpa using h1
      have hj : justB op l.length = false := by rw [HJ.out]; simp [h1]
      have G : Hid (givesE op l = 2 ∧ givesK op l = 0) := by
        have e : givesE op l = 2 := by unfold givesE; rw [hj]; rfl
        exact ⟨e, by unfold givesK; rw [e]; rfl⟩
      clear hj HJ HT h0 h1 H18
      go_enter Tryz.func9, Tryz.ntmps9
      go_wp2_with (go_at_call 11; refine still (TK.out _) ?_)
      go_ret2
      exact ⟨by rw [G.out.1, G.out.2]; rfl, B0.out⟩
end Go.Proofs.YtjddhakaebkkeaaGreatDoor
