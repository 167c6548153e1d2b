/-
  Package stagepostref13: a text at a place.
-/
import Derived.Test.YtjddhakaebkkeaaDoorLyE
import Derived.Test.YtjddhakaebkkeaaDoorVlB
namespace Go.Proofs.YtjddhakaebkkeaaDoor
open Go.RowKit
attribute [local go_sem ↓] Go.wp_at_zero Go.wp_at_succ

theorem scan_other {c : UInt8} (h : ¬ c = 39) (r : List UInt8) : Lx.scanT (c :: r) = (Lx.scanT r).map fun x => (c :: x.1, x.2 + 1) := by
  cases r with
  | nil => simp [Lx.scanT, h]
  | cons d q => rw [Lx.scanT, if_neg h]
theorem scan_twice (r : List UInt8) : Lx.scanT (39 :: 39 :: r) = (Lx.scanT r).map fun x => (39 :: x.1, x.2 + 2) := by
  rw [Lx.scanT, if_pos rfl, if_pos rfl]
theorem scan_end {r : List UInt8} (h : ∀ d q, r = d :: q → ¬ d = 39) : Lx.scanT (39 :: r) = some ([], 1) := by
  cases r with
  | nil => rw [Lx.scanT, if_pos rfl]
  | cons d q => rw [Lx.scanT, if_pos rfl, if_neg (h d q rfl)]
theorem textN_at {s : ByteArray} {p : Nat} (_hp : p < s.size) : Lx.textN (s.data.toList.drop p) = match Lx.scanT (s.data.toList.drop (p + 1)) with
    | none => .err 231
    | some (said, n) => if Lib.validD said then (if said.length > 64 then .err 3 else .tok ⟨3, said, 0, 0⟩ (n + 1)) else .err 232 := by
  unfold Lx.textN
  rw [List.drop_drop]
  cases Lx.scanT (s.data.toList.drop (p + 1)) with
  | none => rfl
  | some x => rfl
theorem bys_at {base : Nat} {w0 wr : World} {ad : Option Addr} {cap n : Nat} {q : List UInt8} (h : Bys base w0 wr (.slice ad n cap) q) (hn : n = q.length) : n ≤ cap ∧ (0 < n → ∃ b off, ad = some ⟨b, off, none⟩ ∧ TxAt wr b off ⟨q.toArray⟩) := by
  subst hn
  have ho := h.own
  rcases ho.2 with ⟨e, h0⟩ | ⟨g, cap', cur, e, _, _, hnc, _⟩
  · simp only [Value.slice.injEq] at e
    obtain ⟨rfl, hl, rfl⟩ := e
    exact ⟨by omega, fun h => by omega⟩
  · simp only [Value.slice.injEq, true_and] at e
    obtain ⟨rfl, rfl⟩ := e
    refine ⟨hnc, fun _ => ⟨g, 0, rfl, fun j hj => ?_⟩⟩
    have hj2 : j < q.length := by simpa [ByteArray.size] using hj
    rw [Nat.zero_add, ho.cellAt j (by omega), byteCells_get q j hj2]
    have : (⟨q.toArray⟩ : ByteArray).get! j = q[j] := by
      rw [← Lib.getD_get!']
      simp [List.getD_eq_getElem?_getD, hj2]
    rw [this]
theorem bys_valid {base : Nat} {w0 wr : World} {q : List UInt8} {v : Value} (h : Bys base w0 wr v q) (hn : q.length ≤ 1000000) (hT : Lib.Utf8Tabs 0 1 wr) :
    Calls Tryd.prog 54 #[v] wr fun e w' => e = .returned (.bool (Lib.validD q)) ∧ Below wr.heap.size wr w' := by
  obtain ⟨ad, cap, rfl⟩ := h.shape
  obtain ⟨h1, h2⟩ := bys_at h rfl
  have := valid_any wr ad cap q.length ⟨q.toArray⟩ (by show _ = q.toArray.size; rw [List.size_toArray]) h1 h2 hn hT
  rw [show (⟨q.toArray⟩ : ByteArray).data.toList = q from by simp] at this
  exact this

set_option maxRecDepth 20000 in
set_option maxHeartbeats 6400000 in
theorem rtext_at (w : World) (s : ByteArray) (p : Nat) (hp : p < s.size) (hs : s.size ≤ 100000) (hT : Tab2 w) : Calls Tryd.prog 33 #[.string s, .int .i64 p] w fun e w' => ∃ v, e = .returned v ∧ rnx (Lx.textN (s.data.toList.drop p)) p v ∧ Below w.heap.size w w' := by
  have TT := hide hT
  clear hT
  go_enter Tryd.func33, Tryd.ntmps33
  go_wp2
  go_loopw [7, 8] (fun bv iv wr => ∃ (J : Nat) (q : List UInt8), iv = .int .i64 J ∧ p + 1 ≤ J ∧ J ≤ s.size ∧ q.length ≤ J ∧ Hid (Bys (w.heap.size + 1) (w.alloc tk0) wr bv q) ∧ Hid (Lx.scanT (s.data.toList.drop (p + 1)) = (Lx.scanT (s.data.toList.drop J)).map fun x => (q ++ x.1, x.2 + (J - (p + 1))))) (fun _ iv _ => s.size - (intOf iv).toNat)
  case atStart => exact ⟨p + 1, [], by go_num, by omega, by omega, by simp, hide (Bys.nil (Below.refl _ _) (by simp)), hide (by simp)⟩
  case round =>
    obtain ⟨J, q, rfl, hpJ, hJ, hq, BO, HSC⟩ := hrel
    have hql : q.length ≤ 1000000 := by omega
    have hroom : q.length + 1 ≤ 140737488355328 := by omega
    by_cases hlt : J < s.size
    · have hd := drop_next hlt
      have hlti : (J : Int) < s.size := by omega
      obtain ⟨c, hc⟩ : ∃ c, c = s[J]'hlt := ⟨_, rfl⟩
      rw [← hc] at hd
      have hsj : s[J]'hlt = c := hc.symm
      clear hc
      by_cases h39 : c = 39
      · subst h39
        have h39i : (((39 : UInt8).toNat : Nat) : Int) = 39 := rfl
        by_cases hlt2 : J + 1 < s.size
        · have hd2 := drop_next hlt2
          have hlti2 : (J : Int) + 1 < s.size := by omega
          obtain ⟨d, hdc⟩ : ∃ d, d = s[J + 1]'hlt2 := ⟨_, rfl⟩
          rw [← hdc] at hd2
          have hsj2 : s[J + 1]'hlt2 = d := hdc.symm
          clear hdc
          by_cases hd39 : d = 39
          · subst hd39
            have HSC2 : Hid (Lx.scanT (s.data.toList.drop (p + 1)) = (Lx.scanT (s.data.toList.drop (J + 2))).map fun x => ((q ++ [39]) ++ x.1, x.2 + (J + 2 - (p + 1)))) := by
              show _ = _
              rw [HSC.out, hd, hd2, scan_twice, Option.map_map]
              congr 1
              funext x
              simp only [Function.comp, List.append_assoc, List.cons_append, List.nil_append, Prod.mk.injEq, true_and]
              omega
            clear hd hd2 HSC
            go_wp2_with (first | (at_builtin; refine wpList_byte _ rfl (.tmp 39) (.tmp 40) rfl (w.heap.size + 1) (w.alloc tk0) _ _ rfl (BO.out.alloc _) _ 1 1 rfl rfl (39) (39) rfl (new_cell _ _ _) rfl hroom ?_; intro v5 w5 b5; have B5 := hide b5; clear b5))
            go_roundw
            case rel => exact ⟨J + 2, _, by go_num, by omega, by omega, by simp; omega, B5, HSC2⟩
            case measure => simp [intOf]; omega
          · have hdi : ¬ (d.toNat : Int) = 39 := by intro h; exact hd39 (UInt8.toNat_inj.mp (by show _ = 39; omega))
            have hend : Lx.scanT (s.data.toList.drop J) = some ([], 1) := by rw [hd]; exact scan_end (fun x y e => by rw [hd2] at e; rw [← (List.cons.inj e).1]; exact hd39)
            have HTT := utf_later TT.out.utf (((Below.refl w.heap.size w).alloc (Nat.le_refl _) tk0).trans (BO.out.bel.mono (by omega)))
            clear hd2 hd39
            have HS2 : Hid (Lx.scanT (s.data.toList.drop (p + 1)) = some (q, J - p)) := by
              show _ = _
              rw [HSC.out, hend]
              simp only [Option.map_some, List.append_nil]
              rw [show 1 + (J - (p + 1)) = J - p from by omega]
            have VA := hide (bys_valid BO.out hql HTT)
            obtain ⟨pz0, bb0⟩ := tk_mid (w := w) (w2 := wr) (by simpa using BO.out.bel)
            obtain ⟨ad, cp, hsh⟩ := BO.out.shape
            subst hsh
            obtain ⟨T, hT2⟩ : ∃ T : ByteArray, T = ⟨q.toArray⟩ := ⟨_, rfl⟩
            have HT := hide hT2
            obtain ⟨Q, hQ⟩ : ∃ Q, Q = q.length := ⟨_, rfl⟩
            have HQ := hide hQ
            rw [← hQ] at BO VA
            rw [← hQ]
            clear hT2 hQ hend hd HSC HTT
            cases hv : Lib.validD q
            · have FIN : Hid (Lx.textN (s.data.toList.drop p) = .err 232) := by show _ = _; rw [textN_at hp, HS2.out]; simp only; rw [hv]; rfl
              rw [hv] at VA
              clear hv HS2 HQ
              go_wp2_with (first | (go_at_call 54; refine (VA.out).mono ?_; rintro e w7 ⟨rfl, hb7⟩; obtain ⟨pz, bb⟩ := tk_more pz0 bb0 (Nat.le_refl _) hb7; obtain ⟨y0, y1, y2, y3, u0, u1, u2, u3, ltw⟩ := slot4 pz; have CV := (BO.out.later hb7).str; rw [← HT.out] at CV))
              exact bodyPost_ret (v := .tuple #[noTok, .int .i64 _, .int .i64 232]) (by simp [results, Tryd.results33, go_sem, y0, y1, y2, y3, noTok]; try rfl) rfl ⟨_, rfl, by rw [FIN.out]; exact ⟨_, rfl⟩, by first | exact bb | exact below4 bb (Nat.le_refl _) _ _ _ _⟩
            · rw [hv] at VA
              by_cases h64 : Q > 64
              · have FIN : Hid (Lx.textN (s.data.toList.drop p) = .err 3) := by show _ = _; rw [textN_at hp, HS2.out]; simp only; rw [hv, if_pos rfl, if_pos (by have := HQ.out; omega)]
                have h64i : (64 : Int) < (Q : Int) := by omega
                clear hv HS2 h64 HQ
                go_wp2_with (first | (go_at_call 54; refine (VA.out).mono ?_; rintro e w7 ⟨rfl, hb7⟩; obtain ⟨pz, bb⟩ := tk_more pz0 bb0 (Nat.le_refl _) hb7; obtain ⟨y0, y1, y2, y3, u0, u1, u2, u3, ltw⟩ := slot4 pz; have CV := (BO.out.later hb7).str; rw [← HT.out] at CV))
                exact bodyPost_ret (v := .tuple #[noTok, .int .i64 _, .int .i64 3]) (by simp [results, Tryd.results33, go_sem, y0, y1, y2, y3, noTok]; try rfl) rfl ⟨_, rfl, by rw [FIN.out]; exact ⟨_, rfl⟩, by first | exact bb | exact below4 bb (Nat.le_refl _) _ _ _ _⟩
              · have FIN : Hid (Lx.textN (s.data.toList.drop p) = .tok ⟨3, q, 0, 0⟩ (J - p + 1)) := by show _ = _; rw [textN_at hp, HS2.out]; simp only; rw [hv, if_pos rfl, if_neg (by have := HQ.out; omega)]
                have h64i : ¬ (64 : Int) < (Q : Int) := by omega
                clear hv HS2 h64 HQ
                go_wp2_with (first | (go_at_call 54; refine (VA.out).mono ?_; rintro e w7 ⟨rfl, hb7⟩; obtain ⟨pz, bb⟩ := tk_more pz0 bb0 (Nat.le_refl _) hb7; obtain ⟨y0, y1, y2, y3, u0, u1, u2, u3, ltw⟩ := slot4 pz; have CV := (BO.out.later hb7).str; rw [← HT.out] at CV))
                exact bodyPost_ret (v := .tuple #[.agg #[.int .u8 3, .string T, .int .u64 0, .int .i64 (p : Int)], .int .i64 ((J : Int) + 1), .int .i64 0]) (by simp [results, Tryd.results33, go_sem, y0, y1, y2, y3]; try rfl) rfl ⟨_, rfl, by rw [FIN.out, HT.out]; exact congrArg (fun z : Int => Value.tuple #[tokV ⟨3, q, 0, p⟩, .int .i64 z, .int .i64 0]) (by omega), by first | exact bb | exact below4 bb (Nat.le_refl _) _ _ _ _⟩
        · have hlti2 : ¬ (J : Int) + 1 < s.size := by omega
          have hend : Lx.scanT (s.data.toList.drop J) = some ([], 1) := by
            rw [hd]
            exact scan_end (fun x y e => by rw [List.drop_of_length_le (by rw [l_size]; omega)] at e; cases e)
          have HTT := utf_later TT.out.utf (((Below.refl w.heap.size w).alloc (Nat.le_refl _) tk0).trans (BO.out.bel.mono (by omega)))
          have HS2 : Hid (Lx.scanT (s.data.toList.drop (p + 1)) = some (q, J - p)) := by
            show _ = _
            rw [HSC.out, hend]
            simp only [Option.map_some, List.append_nil]
            rw [show 1 + (J - (p + 1)) = J - p from by omega]
          have VA := hide (bys_valid BO.out hql HTT)
          obtain ⟨pz0, bb0⟩ := tk_mid (w := w) (w2 := wr) (by simpa using BO.out.bel)
          obtain ⟨ad, cp, hsh⟩ := BO.out.shape
          subst hsh
          obtain ⟨T, hT2⟩ : ∃ T : ByteArray, T = ⟨q.toArray⟩ := ⟨_, rfl⟩
          have HT := hide hT2
          obtain ⟨Q, hQ⟩ : ∃ Q, Q = q.length := ⟨_, rfl⟩
          have HQ := hide hQ
          rw [← hQ] at BO VA
          rw [← hQ]
          clear hT2 hQ hend hd HSC HTT
          cases hv : Lib.validD q
          · have FIN : Hid (Lx.textN (s.data.toList.drop p) = .err 232) := by show _ = _; rw [textN_at hp, HS2.out]; simp only; rw [hv]; rfl
            rw [hv] at VA
            clear hv HS2 HQ
            go_wp2_with (first | (go_at_call 54; refine (VA.out).mono ?_; rintro e w7 ⟨rfl, hb7⟩; obtain ⟨pz, bb⟩ := tk_more pz0 bb0 (Nat.le_refl _) hb7; obtain ⟨y0, y1, y2, y3, u0, u1, u2, u3, ltw⟩ := slot4 pz; have CV := (BO.out.later hb7).str; rw [← HT.out] at CV))
            exact bodyPost_ret (v := .tuple #[noTok, .int .i64 _, .int .i64 232]) (by simp [results, Tryd.results33, go_sem, y0, y1, y2, y3, noTok]; try rfl) rfl ⟨_, rfl, by rw [FIN.out]; exact ⟨_, rfl⟩, by first | exact bb | exact below4 bb (Nat.le_refl _) _ _ _ _⟩
          · rw [hv] at VA
            by_cases h64 : Q > 64
            · have FIN : Hid (Lx.textN (s.data.toList.drop p) = .err 3) := by show _ = _; rw [textN_at hp, HS2.out]; simp only; rw [hv, if_pos rfl, if_pos (by have := HQ.out; omega)]
              have h64i : (64 : Int) < (Q : Int) := by omega
              clear hv HS2 h64 HQ
              go_wp2_with (first | (go_at_call 54; refine (VA.out).mono ?_; rintro e w7 ⟨rfl, hb7⟩; obtain ⟨pz, bb⟩ := tk_more pz0 bb0 (Nat.le_refl _) hb7; obtain ⟨y0, y1, y2, y3, u0, u1, u2, u3, ltw⟩ := slot4 pz; have CV := (BO.out.later hb7).str; rw [← HT.out] at CV))
              exact bodyPost_ret (v := .tuple #[noTok, .int .i64 _, .int .i64 3]) (by simp [results, Tryd.results33, go_sem, y0, y1, y2, y3, noTok]; try rfl) rfl ⟨_, rfl, by rw [FIN.out]; exact ⟨_, rfl⟩, by first | exact bb | exact below4 bb (Nat.le_refl _) _ _ _ _⟩
            · have FIN : Hid (Lx.textN (s.data.toList.drop p) = .tok ⟨3, q, 0, 0⟩ (J - p + 1)) := by show _ = _; rw [textN_at hp, HS2.out]; simp only; rw [hv, if_pos rfl, if_neg (by have := HQ.out; omega)]
              have h64i : ¬ (64 : Int) < (Q : Int) := by omega
              clear hv HS2 h64 HQ
              go_wp2_with (first | (go_at_call 54; refine (VA.out).mono ?_; rintro e w7 ⟨rfl, hb7⟩; obtain ⟨pz, bb⟩ := tk_more pz0 bb0 (Nat.le_refl _) hb7; obtain ⟨y0, y1, y2, y3, u0, u1, u2, u3, ltw⟩ := slot4 pz; have CV := (BO.out.later hb7).str; rw [← HT.out] at CV))
              exact bodyPost_ret (v := .tuple #[.agg #[.int .u8 3, .string T, .int .u64 0, .int .i64 (p : Int)], .int .i64 ((J : Int) + 1), .int .i64 0]) (by simp [results, Tryd.results33, go_sem, y0, y1, y2, y3]; try rfl) rfl ⟨_, rfl, by rw [FIN.out, HT.out]; exact congrArg (fun z : Int => Value.tuple #[tokV ⟨3, q, 0, p⟩, .int .i64 z, .int .i64 0]) (by omega), by first | exact bb | exact below4 bb (Nat.le_refl _) _ _ _ _⟩
      · have hci : ¬ (c.toNat : Int) = 39 := by intro h; exact h39 (UInt8.toNat_inj.mp (by show _ = 39; omega))
        have HSC2 : Hid (Lx.scanT (s.data.toList.drop (p + 1)) = (Lx.scanT (s.data.toList.drop (J + 1))).map fun x => ((q ++ [c]) ++ x.1, x.2 + (J + 1 - (p + 1)))) := by
          show _ = _
          rw [HSC.out, hd, scan_other h39, Option.map_map]
          congr 1
          funext x
          simp only [Function.comp, List.append_assoc, List.cons_append, List.nil_append, Prod.mk.injEq, true_and]
          omega
        clear hd HSC h39
        go_wp2_with (first | (at_builtin; refine wpList_byte _ rfl (.tmp 21) (.tmp 25) rfl (w.heap.size + 1) (w.alloc tk0) _ _ rfl (BO.out.alloc _) _ 1 1 rfl rfl (c) ((c.toNat : Int)) rfl (new_cell _ _ _) rfl hroom ?_; intro v5 w5 b5; have B5 := hide b5; clear b5))
        go_roundw
        case rel => exact ⟨J + 1, _, by go_num, by omega, by omega, by simp; omega, B5, HSC2⟩
        case measure => simp [intOf]; omega
    · have hJe : J = s.size := by omega
      have FIN : Hid (Lx.textN (s.data.toList.drop p) = .err 231) := by
        show _ = _
        rw [textN_at hp, HSC.out, List.drop_of_length_le (by rw [l_size]; omega)]; rfl
      have hlti : ¬ (J : Int) < s.size := by omega
      obtain ⟨pz, bb⟩ := tk_mid (w := w) (w2 := wr) (by simpa using BO.out.bel)
      obtain ⟨y0, y1, y2, y3, u0, u1, u2, u3, ltw⟩ := slot4 pz
      clear HSC hJe
      go_wp2
      exact bodyPost_ret (v := .tuple #[noTok, .int .i64 _, .int .i64 231]) (by simp [results, Tryd.results33, go_sem, y0, y1, y2, y3, noTok]; try rfl) rfl ⟨_, rfl, by rw [FIN.out]; exact ⟨_, rfl⟩, by first | exact bb | exact below4 bb (Nat.le_refl _) _ _ _ _⟩
end Go.Proofs.YtjddhakaebkkeaaDoor
