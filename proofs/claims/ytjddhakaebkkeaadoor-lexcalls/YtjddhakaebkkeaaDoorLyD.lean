/-
  Package stagepostref13: a number at a place.
-/
import Derived.Test.YtjddhakaebkkeaaDoorLyC
namespace Go.Proofs.YtjddhakaebkkeaaDoor
open Go.RowKit
attribute [local go_sem ↓] Go.wp_at_zero Go.wp_at_succ

/-- What the reading of a token at a place answers. -/
def rnx (y : Lx.Nx) (p : Nat) (v : Value) : Prop := match y with
  | .tok x n => v = .tuple #[tokV { x with at' := p }, .int .i64 ((p + n : Nat) : Int), .int .i64 0]
  | .err e => ∃ i : Int, v = .tuple #[noTok, .int .i64 i, .int .i64 e]

theorem drop_next {s : ByteArray} {p : Nat} (h : p < s.size) : s.data.toList.drop p = s[p]'h :: s.data.toList.drop (p + 1) := Lx.drop_at s p h
theorem tw_full (q : UInt8 → Bool) : ∀ (l : List UInt8) (k : Nat), k ≤ l.length → (∀ c ∈ l.take k, q c = true) → (l.length ≤ k ∨ ∃ c r, l.drop k = c :: r ∧ q c = false) → (l.takeWhile q).length = k
  | [], k, hk, _, _ => by simp at hk; subst hk; rfl
  | c :: r, 0, _, _, h => by
    rcases h with h | ⟨d, r', e, hd⟩
    · simp at h
    · rw [List.drop_zero] at e
      obtain ⟨rfl, rfl⟩ := List.cons.inj e
      rw [List.takeWhile_cons_of_neg (by rw [hd]; simp)]; rfl
  | c :: r, k + 1, hk, ha, h => by
    rw [List.takeWhile_cons_of_pos (ha c (by simp)), List.length_cons]
    rw [tw_full q r k (by simpa using hk) (fun d hd => ha d (by simp [hd])) (by
      rcases h with h | ⟨d, r', e, hd⟩
      · exact .inl (by simpa using h)
      · exact .inr ⟨d, r', by simpa using e, hd⟩)]
theorem take_all_succ {q : UInt8 → Bool} {l : List UInt8} {k : Nat} {c : UInt8} {r : List UInt8} (ha : ∀ d ∈ l.take k, q d = true) (hd : l.drop k = c :: r) (hc : q c = true) : ∀ d ∈ l.take (k + 1), q d = true := by
  have hk : k < l.length := by
    rcases Nat.lt_or_ge k l.length with h | h
    · exact h
    · rw [List.drop_of_length_le h] at hd; cases hd
  have e : l[k] = c := by rw [List.drop_eq_getElem_cons hk] at hd; exact (List.cons.inj hd).1
  intro d hm
  rw [List.take_succ_eq_append_getElem hk] at hm
  simp only [List.mem_append, List.mem_cons, List.not_mem_nil, or_false] at hm
  rcases hm with hm | rfl
  · exact ha d hm
  · rw [e]; exact hc
theorem numG_app : ∀ (a b : List UInt8) (n : Nat), Lx.numG (a ++ b) n = (Lx.numG a n).bind fun m => Lx.numG b m
  | [], b, n => rfl
  | c :: a, b, n => by
    rw [List.cons_append, Lx.numG, Lx.numG]
    split
    · rfl
    · exact numG_app a b _
theorem numG_snoc (l : List UInt8) (k : Nat) (c : UInt8) (r : List UInt8) (h : l.drop k = c :: r) : Lx.numG (l.take (k + 1)) 0 = (Lx.numG (l.take k) 0).bind fun m => if (9223372036854775808 - (c.toNat - 48)) / 10 < m then none else some (10 * m + (c.toNat - 48)) := by
  have hk : k < l.length := by
    rcases Nat.lt_or_ge k l.length with h' | h'
    · exact h'
    · rw [List.drop_of_length_le h'] at h; cases h
  have e : l[k] = c := by rw [List.drop_eq_getElem_cons hk] at h; exact (List.cons.inj h).1
  rw [List.take_succ_eq_append_getElem hk, numG_app, e]
  congr 1
theorem numG_le {l : List UInt8} (hl : ∀ c ∈ l, Lx.dg c = true) : ∀ {n m : Nat}, n ≤ 9223372036854775808 → Lx.numG l n = some m → m ≤ 9223372036854775808 := by
  induction l with
  | nil => intro n m hn h; simp [Lx.numG] at h; omega
  | cons c r ih =>
    intro n m hn h
    rw [Lx.numG] at h
    have hc := (Lx.dg_iff _).1 (hl c (by simp))
    split at h
    · cases h
    · rename_i h2
      exact ih (fun d hd => hl d (by simp [hd])) (by omega) h

theorem wrap_nn (z : Int) : 0 ≤ IntKind.u64.wrap z := by rw [IntKind.wrap_u64]; omega
theorem wrap_lt (z : Int) : (IntKind.u64.wrap z).toNat < 18446744073709551616 := by rw [IntKind.wrap_u64]; omega

set_option maxRecDepth 20000 in
set_option maxHeartbeats 6400000 in
theorem rnumber_at (w : World) (s : ByteArray) (p : Nat) (hp : p ≤ s.size) (hs : s.size ≤ 100000) : Calls Tryd.prog 32 #[.string s, .int .i64 p] w fun e w' => ∃ v, e = .returned v ∧ rnx (Lx.numN (s.data.toList.drop p)) p v ∧ Below w.heap.size w w' := by
  have DG := hide (fun wx c => digitC_any wx c)
  have B0 : Below w.heap.size w (w.alloc tk0) := (Below.refl _ _).alloc (Nat.le_refl _) _
  have P0 : (w.alloc tk0).heap[w.heap.size]? = some tk0 := by show (w.heap.push _)[w.heap.size]? = _; simp
  obtain ⟨y0, y1, y2, y3, u0, u1, u2, u3, ltw⟩ := slot4 P0
  obtain ⟨L, hL⟩ : ∃ L, L = s.data.toList.drop p := ⟨_, rfl⟩
  have hLl : L.length = s.size - p := by rw [hL, List.length_drop, l_size]
  have HD : Hid (∀ k, L.drop k = s.data.toList.drop (p + k)) := by intro k; rw [hL, List.drop_drop]
  rw [← hL]
  clear hL
  go_enter Tryd.func32, Tryd.ntmps32
  go_wp2
  go_loopw [7, 8, 9, 10] (fun iv nv bv _ wr => ∃ (J k : Nat) (x : Nat) (bad : Bool), iv = .int .i64 J ∧ nv = .int .u64 x ∧ bv = .bool bad ∧ Hid (J = p + k) ∧ J ≤ s.size ∧ x < 18446744073709551616 ∧ wr = w.alloc tk0 ∧ Hid (∀ c ∈ L.take k, Lx.dg c = true) ∧ Hid (Lx.numG (L.take k) 0 = if bad then none else some x)) (fun iv _ _ _ _ => s.size - (intOf iv).toNat)
  case atStart => exact ⟨p, 0, 0, false, rfl, rfl, rfl, rfl, hp, by omega, rfl, hide (by intro c hc; simp at hc), hide rfl⟩
  case round =>
    obtain ⟨J, k, x, bad, rfl, rfl, rfl, HJ, hJ, hx, hw, HA, HG⟩ := hrel
    subst hw
    have hk : k ≤ L.length := by have := HJ.out; omega
    have stop : (L.length ≤ k ∨ ∃ c r, L.drop k = c :: r ∧ Lx.dg c = false) → Hid (Lx.numN L = if bad then .err 233 else .tok ⟨2, [], x, 0⟩ k) := fun h => by
      show _ = _
      unfold Lx.numN
      rw [show Lx.numW L = k from tw_full Lx.dg L k hk HA.out h, HG.out]
      cases bad <;> rfl
    by_cases hlt : J < s.size
    · have hd : L.drop k = s[J]'hlt :: L.drop (k + 1) := by
        have e := HJ.out
        subst e
        rw [HD.out k, HD.out (k + 1), drop_next hlt]; rfl
      have hlti : (J : Int) < s.size := by omega
      obtain ⟨c, hc⟩ : ∃ c, c = s[J]'hlt := ⟨_, rfl⟩
      rw [← hc] at hd
      have hsj : s[J]'hlt = c := hc.symm
      clear hc
      have DC := hide (DG.out (w.alloc tk0) c)
      cases hdc : Lx.dg c
      · have FIN := stop (.inr ⟨c, _, hd, hdc⟩)
        rw [hdc] at DC
        clear stop hd HG HA HD DG
        cases bad
        · rw [if_neg (by simp)] at FIN
          go_wp2_with (go_at_call 31; refine DC.out.mono ?_; rintro e w2 ⟨rfl, h2⟩; subst h2)
          exact bodyPost_ret (v := .tuple #[.agg #[.int .u8 2, .string ⟨#[]⟩, .int .u64 (x : Int), .int .i64 (p : Int)], .int .i64 (J : Int), .int .i64 0]) (by simp [results, Tryd.results32, go_sem]; try rfl) rfl ⟨_, rfl, by rw [FIN.out, HJ.out]; rfl, by first | exact B0 | exact below4 B0 (Nat.le_refl _) _ _ _ _ | exact (Below.refl _ _).alloc (Nat.le_refl _) _⟩
        · rw [if_pos rfl] at FIN
          go_wp2_with (go_at_call 31; refine DC.out.mono ?_; rintro e w2 ⟨rfl, h2⟩; subst h2)
          exact bodyPost_ret (v := .tuple #[noTok, .int .i64 (J : Int), .int .i64 233]) (by simp [results, Tryd.results32, go_sem, y0, y1, y2, y3, noTok]; try rfl) rfl ⟨_, rfl, by rw [FIN.out]; exact ⟨_, rfl⟩, by first | exact B0 | exact below4 B0 (Nat.le_refl _) _ _ _ _ | exact (Below.refl _ _).alloc (Nat.le_refl _) _⟩
      · rw [hdc] at DC
        have HA2 := hide (take_all_succ HA.out hd hdc)
        have HG2 := numG_snoc L k c _ hd
        rw [HG.out] at HG2
        have h48 := (Lx.dg_iff _).1 hdc
        have HJ2 : Hid (J + 1 = p + (k + 1)) := by show _ = _; rw [HJ.out]; rfl
        obtain ⟨d, hcd⟩ : ∃ d, c.toNat = d + 48 := ⟨c.toNat - 48, by omega⟩
        rw [hcd, show d + 48 - 48 = d from by omega] at HG2
        have hd9 : d ≤ 9 := by omega
        have hci : (c.toNat : Int) = (d : Int) + 48 := by omega
        rw [hci] at DC
        clear stop hd HG HA HD DG hdc h48
        cases bad
        · rw [if_neg (by simp)] at HG2
          simp only [Option.bind_some] at HG2
          by_cases hq : (9223372036854775808 - d) / 10 < x
          · rw [if_pos hq] at HG2
            have HG3 := hide HG2
            have hq1 : (9223372036854775808 - (d : Int)) / 10 < (x : Int) := by omega
            clear HG2 hq
            go_wp2_with (go_at_call 31; refine DC.out.mono ?_; rintro e w2 ⟨rfl, h2⟩; subst h2)
            go_roundw
            case rel => exact ⟨J + 1, k + 1, _, true, by go_num, congrArg (Value.int .u64) (Int.toNat_of_nonneg (wrap_nn _)).symm, (by first | rfl | rw [decide_eq_true hq1]), HJ2, by omega, wrap_lt _, trivial, HA2, HG3⟩
            case measure => simp [intOf]; omega
          · rw [if_neg hq] at HG2
            have HG3 : Hid (Lx.numG (L.take (k + 1)) 0 = if false = true then none else some (10 * x + d)) := HG2
            have hq1 : ¬ (9223372036854775808 - (d : Int)) / 10 < (x : Int) := by omega
            have hx2 : 10 * x + d < 18446744073709551616 := by omega
            have hqb : decide ((9223372036854775808 - (d : Int)) / 10 < (x : Int)) = false := decide_eq_false hq1
            clear HG2 hq
            go_wp2_with (go_at_call 31; refine DC.out.mono ?_; rintro e w2 ⟨rfl, h2⟩; subst h2)
            go_roundw
            case rel => exact ⟨J + 1, k + 1, 10 * x + d, false, by go_num, by go_num, (by first | rfl | exact congrArg Value.bool hqb | simp [hqb]), HJ2, by omega, hx2, trivial, HA2, HG3⟩
            case measure => simp [intOf]; omega
        · rw [if_pos rfl] at HG2
          have HG3 := hide HG2
          clear HG2
          go_wp2_with (go_at_call 31; refine DC.out.mono ?_; rintro e w2 ⟨rfl, h2⟩; subst h2)
          go_roundw
          case rel => exact ⟨J + 1, k + 1, _, true, by go_num, congrArg (Value.int .u64) (Int.toNat_of_nonneg (wrap_nn _)).symm, (by first | rfl | rw [decide_eq_true hq1]), HJ2, by omega, wrap_lt _, trivial, HA2, HG3⟩
          case measure => simp [intOf]; omega
    · have FIN := stop (.inl (by have := HJ.out; omega))
      have hlti : ¬ (J : Int) < s.size := by omega
      clear stop HG HA HD DG
      cases bad
      · rw [if_neg (by simp)] at FIN
        go_wp2
        exact bodyPost_ret (v := .tuple #[.agg #[.int .u8 2, .string ⟨#[]⟩, .int .u64 (x : Int), .int .i64 (p : Int)], .int .i64 (J : Int), .int .i64 0]) (by simp [results, Tryd.results32, go_sem]; try rfl) rfl ⟨_, rfl, by rw [FIN.out, HJ.out]; rfl, by first | exact B0 | exact below4 B0 (Nat.le_refl _) _ _ _ _ | exact (Below.refl _ _).alloc (Nat.le_refl _) _⟩
      · rw [if_pos rfl] at FIN
        go_wp2
        exact bodyPost_ret (v := .tuple #[noTok, .int .i64 (J : Int), .int .i64 233]) (by simp [results, Tryd.results32, go_sem, y0, y1, y2, y3, noTok]; try rfl) rfl ⟨_, rfl, by rw [FIN.out]; exact ⟨_, rfl⟩, by first | exact B0 | exact below4 B0 (Nat.le_refl _) _ _ _ _ | exact (Below.refl _ _).alloc (Nat.le_refl _) _⟩
end Go.Proofs.YtjddhakaebkkeaaDoor
