/-
  The document's own reading of a text within a tuple's text: what the call answers, at every text; and that it says what the program's own reading does.
-/
import Derived.Test.YtbcbdaaaglkjhaaRefText
import Derived.Test.YtbcbdaaaglkjhaaReadValue
namespace Go.Proofs.Ytbcbdaaaglkjhaa
open Go.RowKit

/-- The text with which these bytes begin, of whatever length, behind 'acc', and where it ends. -/
def wt : List UInt8 → Nat → List UInt8 → Option (List UInt8 × Nat)
  | [], _, _ => none
  | [c], i, acc => if c = 0 then none else wt [] (i + 1) (acc ++ [c])
  | c :: d :: r, i, acc => if c = 0 then (if d = 1 then some (acc, i + 2) else if d = 255 then wt r (i + 2) (acc ++ [0]) else none) else wt (d :: r) (i + 1) (acc ++ [c])

theorem wt_cons (c : UInt8) (r : List UInt8) (i : Nat) (acc : List UInt8) (h : ¬ c = 0) : wt (c :: r) i acc = wt r (i + 1) (acc ++ [c]) := by
  cases r with
  | nil => simp [wt, h]
  | cons d r => rw [wt, if_neg h]

theorem wt_long : ∀ (n : Nat) (S : List UInt8) (i : Nat) (acc : List UInt8) (p : List UInt8 × Nat), S.length ≤ n → wt S i acc = some p → acc.length ≤ p.1.length ∧ 0 < p.2 := by
  intro n
  induction n with
  | zero => intro S i acc p hn h; cases S with | nil => simp [wt] at h | cons _ _ => simp at hn
  | succ n ih =>
    intro S i acc p hn h
    match S, h with
    | [], h => simp [wt] at h
    | [c], h => by_cases hc : c = 0 <;> simp [wt, hc] at h
    | c :: d :: r, h =>
      rw [wt] at h
      simp only [List.length_cons] at hn
      by_cases hc : c = 0
      · rw [if_pos hc] at h
        by_cases hd : d = 1
        · rw [if_pos hd] at h; cases h; exact ⟨Nat.le_refl _, by simp⟩
        · rw [if_neg hd] at h
          by_cases he : d = 255
          · rw [if_pos he] at h
            have := ih r _ _ p (by omega) h
            simp at this; omega
          · rw [if_neg he] at h; cases h
      · rw [if_neg hc] at h
        have := ih (d :: r) _ _ p (by simp; omega) h
        simp at this; omega

/-- The program's reading is this one, of at most 64 bytes. -/
theorem rt_wt : ∀ (n : Nat) (S : List UInt8) (i : Nat) (acc : List UInt8), S.length ≤ n → acc.length ≤ 64 → rt S i acc false = (wt S i acc).bind fun p => if p.1.length ≤ 64 then some p else none := by
  intro n
  induction n with
  | zero => intro S i acc hn _; cases S with | nil => simp [wt, rt] | cons _ _ => simp at hn
  | succ n ih =>
    intro S i acc hn ha
    match S with
    | [] => simp [wt, rt]
    | [c] =>
      by_cases hc : c = 0
      · simp [wt, rt, hc]
      · by_cases h64 : acc.length = 64
        · simp [wt, rt, hc, h64]
        · simp [wt, rt, hc, h64]
    | c :: d :: r =>
      simp only [List.length_cons] at hn
      by_cases hc : c = 0
      · rw [wt, rt, if_pos hc, if_pos hc, rt]
        by_cases hd : d = 1
        · rw [if_pos hd, if_pos hd, Option.bind_some, if_pos ha]
        · rw [if_neg hd, if_neg hd]
          by_cases he : d = 255
          · rw [if_pos he, if_pos he]
            by_cases h64 : acc.length = 64
            · rw [if_pos h64]
              cases hw : wt r (i + 2) (acc ++ [0]) with
              | none => rfl
              | some p =>
                have := (wt_long _ r _ _ p (Nat.le_refl _) hw).1
                rw [List.length_append, List.length_singleton] at this
                rw [Option.bind_some, if_neg (by omega)]
            · rw [if_neg h64, ih r (i + 1 + 1) (acc ++ [0]) (by omega) (by simp; omega)]
          · rw [if_neg he, if_neg he]; rfl
      · rw [wt_cons _ _ _ _ hc, rt, if_neg hc]
        by_cases h64 : acc.length = 64
        · rw [if_pos h64]
          cases hw : wt (d :: r) (i + 1) (acc ++ [c]) with
          | none => rfl
          | some p =>
            have := (wt_long _ (d :: r) _ _ p (Nat.le_refl _) hw).1
            rw [List.length_append, List.length_singleton] at this
            rw [Option.bind_some, if_neg (by omega)]
        · rw [if_neg h64, ih (d :: r) (i + 1) (acc ++ [c]) (by simp; omega) (by simp; omega)]

theorem wt_shift : ∀ (n : Nat) (S : List UInt8) (i : Nat) (acc : List UInt8), S.length ≤ n → wt S (i + 1) acc = (wt S i acc).map fun p => (p.1, p.2 + 1) := by
  intro n
  induction n with
  | zero => intro S i acc hn; cases S with | nil => simp [wt] | cons _ _ => simp at hn
  | succ n ih =>
    intro S i acc hn
    match S with
    | [] => simp [wt]
    | [c] => by_cases hc : c = 0 <;> simp [wt, hc]
    | c :: d :: r =>
      simp only [List.length_cons] at hn
      rw [wt, wt]
      by_cases hc : c = 0
      · rw [if_pos hc, if_pos hc]
        by_cases hd : d = 1
        · rw [if_pos hd, if_pos hd]; rfl
        · rw [if_neg hd, if_neg hd]
          by_cases he : d = 255
          · rw [if_pos he, if_pos he]
            exact ih r (i + 2) _ (by omega)
          · rw [if_neg he, if_neg he]; rfl
      · rw [if_neg hc, if_neg hc]
        exact ih (d :: r) (i + 1) _ (by simp; omega)

def wK (S : List UInt8) : Int := match wt S 1 [] with | none => 0 | some _ => 3
def wT (S : List UInt8) : ByteArray := match wt S 1 [] with | none => ByteArray.empty | some p => ⟨p.1.toArray⟩
def wN (S : List UInt8) : Int := match wt S 1 [] with | none => 0 | some p => p.2
def wB (S : List UInt8) : Bool := match wt S 1 [] with | none => false | some p => decide (p.1.length ≤ 64)

theorem w_none {S : List UInt8} (h : wt S 1 [] = none) : Hid (wK S = 0) ∧ Hid (wT S = ByteArray.empty) ∧ Hid (wN S = 0) ∧ Hid (wB S = false) :=
  ⟨by show _ = _; unfold wK; rw [h], by show _ = _; unfold wT; rw [h], by show _ = _; unfold wN; rw [h], by show _ = _; unfold wB; rw [h]⟩
theorem w_some {S : List UInt8} {p : List UInt8 × Nat} (h : wt S 1 [] = some p) : Hid (wK S = 3) ∧ Hid (wT S = ⟨p.1.toArray⟩) ∧ Hid (wN S = p.2) ∧ Hid (wB S = decide (p.1.length ≤ 64)) :=
  ⟨by show _ = _; unfold wK; rw [h], by show _ = _; unfold wT; rw [h], by show _ = _; unfold wN; rw [h], by show _ = _; unfold wB; rw [h]⟩

/-- Whether there is a text that may be, and which. -/
theorem word_says (r : List UInt8) : (wB r = true → rv (4 :: r) = (⟨wK r, 0, wT r⟩, (wN r).toNat) ∧ 0 < wN r) ∧ (wB r = false → (rv (4 :: r)).2 = 0) := by
  have e := rt_wt _ r 0 [] (Nat.le_refl _) (by simp)
  have sh := wt_shift _ r 0 [] (Nat.le_refl _)
  rw [Nat.zero_add] at sh
  cases hw : wt r 0 [] with
  | none =>
    rw [hw] at e sh
    have hn := (rt_none (S := r) (by rw [e]; rfl)).2.out
    have wn := (w_none (S := r) (by rw [sh]; rfl)).2.2.2.out
    refine ⟨fun h => by rw [wn] at h; (cases h), fun _ => ?_⟩
    rw [rv_cons]; simp [hn]
  | some p =>
    rw [hw] at e sh
    obtain ⟨k1, k2, k3, k4⟩ := w_some (S := r) (p := (p.1, p.2 + 1)) (by rw [sh]; rfl)
    by_cases h64 : p.1.length ≤ 64
    · obtain ⟨t1, t2⟩ := rt_some (S := r) (p := p) (by rw [e, Option.bind_some, if_pos h64])
      have hp := (wt_long _ r _ _ p (Nat.le_refl _) hw).2
      refine ⟨fun _ => ⟨?_, by rw [k3.out]; show (0 : Int) < ((p.2 + 1 : Nat) : Int); omega⟩, fun h => by rw [k4.out] at h; simp [h64] at h⟩
      rw [rv_cons, k1.out, k2.out, k3.out, t1.out, t2.out]
      simp [hp]
      omega
    · have hn := (rt_none (S := r) (by rw [e, Option.bind_some, if_neg h64])).2.out
      refine ⟨fun h => by rw [k4.out] at h; simp [h64] at h, fun _ => ?_⟩
      rw [rv_cons]; simp [hn]

/-- What is held of a call's own block of three cells behind another call. -/
theorem three_slot {w w2 : World} {x y z : Value} {t : TypeId} (hb : Below (w.alloc (.cells #[x, y, z] t)).heap.size (w.alloc (.cells #[x, y, z] t)) w2) :
    w2.cell? ⟨w.heap.size, 0, none⟩ = some x ∧ w2.cell? ⟨w.heap.size, 1, none⟩ = some y ∧ w2.cell? ⟨w.heap.size, 2, none⟩ = some z ∧ w2.frozen? ⟨w.heap.size, 0, none⟩ = false ∧ w2.frozen? ⟨w.heap.size, 1, none⟩ = false ∧ w2.frozen? ⟨w.heap.size, 2, none⟩ = false ∧ w.heap.size < w2.heap.size := by
  refine ⟨(hb.cell (p := ⟨w.heap.size, 0, none⟩) (by simp)).trans (by simp), (hb.cell (p := ⟨w.heap.size, 1, none⟩) (by simp)).trans (by simp), (hb.cell (p := ⟨w.heap.size, 2, none⟩) (by simp)).trans (by simp), (hb.frozen (p := ⟨w.heap.size, 0, none⟩) (by simp)).trans (by simp), (hb.frozen (p := ⟨w.heap.size, 1, none⟩) (by simp)).trans (by simp), (hb.frozen (p := ⟨w.heap.size, 2, none⟩) (by simp)).trans (by simp), ?_⟩
  have := hb.size
  simp at this; omega

set_option maxRecDepth 20000 in
set_option maxHeartbeats 4000000 in
theorem word_any (w : World) (s : ByteArray) (h : 0 < s.size) (hs : s.size ≤ 140737488355327) :
    Calls Try.prog 66 #[.string s] w fun e w' => e = .returned (.tuple #[.agg #[.int .u8 (wK (s.data.toList.drop 1)), .int .i64 0, .string (wT (s.data.toList.drop 1))], .int .i64 (wN (s.data.toList.drop 1)), .bool (wB (s.data.toList.drop 1))]) ∧ Below w.heap.size w w' := by
  obtain ⟨S, hS⟩ : ∃ S, S = s.data.toList.drop 1 := ⟨_, rfl⟩
  rw [← hS]
  have HS : Hid (S = s.data.toList.drop 1) := hS
  clear hS
  go_enter Try.func66, Try.ntmps66
  go_wp2
  generalize hW : w.alloc (.cells #[.int .u8 0, .int .i64 0, .string ByteArray.empty] 32) = W0
  have hW0 : W0.heap.size = w.heap.size + 1 := by rw [← hW]; simp
  have HW : Hid (w.alloc (.cells #[.int .u8 0, .int .i64 0, .string ByteArray.empty] 32) = W0) := hW
  clear hW
  go_loopw [5, 6] (fun x i wr => ∃ (p : Nat) (m : List UInt8) (ad : Option Addr) (cap : Nat), 1 ≤ p ∧ p ≤ s.size ∧ i = .int .i64 p ∧ x = .slice ad m.length cap ∧ m.length ≤ p ∧ Ext (w.heap.size + 1) W0 (.slice none 0 0) wr (.slice ad m.length cap) m ∧ wt S 1 [] = wt (s.data.toList.drop p) p m) (fun _ i _ => s.size - (intOf i).toNat)
  case atStart => exact ⟨1, [], none, 0, Nat.le_refl _, h, rfl, rfl, by simp, (by refine (show Ext (w.heap.size + 1) W0 (.slice none 0 0) (w.alloc (.cells #[.int .u8 0, .int .i64 0, .string ByteArray.empty] 32)) (.slice none 0 0) [] from ?_); rw [HW.out]; exact Ext.nil _ _), by rw [HS.out]⟩
  case round =>
    obtain ⟨p, m, ad, cap, hp1, hps, rfl, rfl, hm, hext, hr⟩ := hrel
    have HR : Hid (wt S 1 [] = wt (s.data.toList.drop p) p m) := hr
    clear hr
    have hbel : Below W0.heap.size W0 wr := by rw [hW0]; exact hext.below (by omega) (by simp [Value.ownBlock])
    obtain ⟨q0, q1, q2, f0, f1, f2, q4⟩ := three_slot (by rw [HW.out]; exact hbel)
    have B0 : Below w.heap.size w wr := by
      have := (Below.refl w.heap.size w).alloc (Nat.le_refl _) (.cells #[.int .u8 0, .int .i64 0, .string ByteArray.empty] 32)
      rw [HW.out] at this
      exact this.trans (hbel.mono (by omega))
    clear hbel
    by_cases hlt : p < s.size
    · have HD : Hid (s.data.toList.drop p = s[p] :: s.data.toList.drop (p + 1)) := drop_at s p hlt
      by_cases h0 : s[p] = 0
      · have b0 : ((s[p].toNat : Int) != 0) = false := by rw [h0]; rfl
        by_cases hlt2 : p + 1 < s.size
        · have HD2 : Hid (s.data.toList.drop (p + 1) = s[p + 1] :: s.data.toList.drop (p + 2)) := drop_at s (p + 1) hlt2
          have hi1 : ¬ (s.size : Int) ≤ (p : Int) + 1 := by omega
          have hi2 : (p : Int) + 1 < (s.size : Int) := by omega
          by_cases h1 : s[p + 1] = 1
          · have b1 : ((s[p + 1].toNat : Int) != 1) = false := by rw [h1]; rfl
            have b2 : ((s[p + 1].toNat : Int) == 1) = true := by rw [h1]; rfl
            have b3 : ((s[p + 1].toNat : Int) != 255) = true := by rw [h1]; rfl
            obtain ⟨N1, N2, N3, N4⟩ := w_some (S := S) (p := (m, p + 2)) (by rw [HR.out, HD.out, HD2.out, wt, if_pos h0, if_pos h1])
            have hcv := hext.str
            clear HD HD2 HR h0 h1
            go_wp2
            refine bodyPost_ret (v := .tuple #[.agg #[.int .u8 3, .int .i64 0, .string ⟨m.toArray⟩], .int .i64 ((p : Int) + 2), .bool (decide ((m.length : Int) ≤ 64))]) (by simp [results, Try.results66, go_sem, q0, q1, q2]) rfl ⟨?_, ?_⟩
            · have e : decide ((m.length : Int) ≤ 64) = decide (m.length ≤ 64) := decide_eq_decide.mpr (by omega)
              rw [N1.out, N2.out, N3.out, N4.out, e]; rfl
            · exact ((B0.setCell (Nat.le_refl _) _).setCell (Nat.le_refl _) _).setCell (Nat.le_refl _) _
          · by_cases h2 : s[p + 1] = 255
            · have b1 : ((s[p + 1].toNat : Int) != 1) = true := by rw [h2]; rfl
              have b2 : ((s[p + 1].toNat : Int) == 1) = false := by rw [h2]; rfl
              have b3 : ((s[p + 1].toNat : Int) != 255) = false := by rw [h2]; rfl
              have HR2 : Hid (wt S 1 [] = wt (s.data.toList.drop (p + 2)) (p + 2) (m ++ [0])) := by show _ = _; rw [HR.out, HD.out, HD2.out, wt, if_pos h0, if_neg h1, if_pos h2]
              have rm : m.length + [(0 : UInt8)].length ≤ 140737488355328 := by rw [List.length_singleton]; omega
              have hbb : w.heap.size + 1 ≤ (wr.alloc (.cells #[.int .u8 0] 5)).heap.size := by simp; omega
              clear HD HD2 HR h0 h1 h2
              go_wp2_with (at_builtin; refine wpList_append_bytes _ rfl _ _ rfl (w.heap.size + 1) _ m [0] rfl (hext.own.alloc _) ⟨wr.heap.size, 0, none⟩ 1 1 rfl rfl (cell_one_new _ _ _) (Nat.succ_pos _) rm hbb ?_; intro g1 cap1 L1 w1 HL1 hx1 hl1; have R := (hext.alloc _).trans hx1; clear hext hx1)
              have HL := HL1.out
              go_roundw
              case rel => exact ⟨p + 2, m ++ [0], some ⟨g1, 0, none⟩, cap1, by omega, by omega, by go_num, by rw [HL], by rw [List.length_append, List.length_singleton]; omega, by rw [← HL]; exact R, HR2.out⟩
              case measure => simp [intOf]; omega
            · have b1 : ((s[p + 1].toNat : Int) != 1) = true := by unfold bne; rw [is1]; simp [h1]
              have b3 : ((s[p + 1].toNat : Int) != 255) = true := by rw [isnt255]; simp [h2]
              obtain ⟨N1, N2, N3, N4⟩ := w_none (S := S) (by rw [HR.out, HD.out, HD2.out, wt, if_pos h0, if_neg h1, if_neg h2])
              clear HD HD2 HR h0 h1 h2
              go_wp2
              refine bodyPost_ret (v := .tuple #[.agg #[.int .u8 0, .int .i64 0, .string ByteArray.empty], .int .i64 0, .bool false]) (by simp [results, Try.results66, go_sem, q0, q1, q2]; try rfl) rfl ⟨by rw [N1.out, N2.out, N3.out, N4.out], ?_⟩
              exact ((B0.setCell (Nat.le_refl _) _).setCell (Nat.le_refl _) _).setCell (Nat.le_refl _) _
        · have hi1 : (s.size : Int) ≤ (p : Int) + 1 := by omega
          obtain ⟨N1, N2, N3, N4⟩ := w_none (S := S) (by rw [HR.out, HD.out, List.drop_eq_nil_of_le (by rw [ba_length]; omega), h0]; rfl)
          clear HD HR h0
          go_wp2
          refine bodyPost_ret (v := .tuple #[.agg #[.int .u8 0, .int .i64 0, .string ByteArray.empty], .int .i64 0, .bool false]) (by simp [results, Try.results66, go_sem, q0, q1, q2]; try rfl) rfl ⟨by rw [N1.out, N2.out, N3.out, N4.out], ?_⟩
          exact ((B0.setCell (Nat.le_refl _) _).setCell (Nat.le_refl _) _).setCell (Nat.le_refl _) _
      · have b0 : ((s[p].toNat : Int) != 0) = true := by unfold bne; rw [is0]; simp [h0]
        have HR2 : Hid (wt S 1 [] = wt (s.data.toList.drop (p + 1)) (p + 1) (m ++ [s[p]])) := by show _ = _; rw [HR.out, HD.out, wt_cons _ _ _ _ h0]
        have rm : m.length + [s[p]].length ≤ 140737488355328 := by rw [List.length_singleton]; omega
        have hbb : w.heap.size + 1 ≤ (wr.alloc (.cells #[.int .u8 (s[p].toNat : Int)] 5)).heap.size := by simp; omega
        clear HD HR h0
        go_wp2_with (at_builtin; refine wpList_append_bytes _ rfl _ _ rfl (w.heap.size + 1) _ m [s[p]] rfl (hext.own.alloc _) ⟨wr.heap.size, 0, none⟩ 1 1 rfl rfl (cell_one_new _ _ _) (Nat.succ_pos _) rm hbb ?_; intro g1 cap1 L1 w1 HL1 hx1 hl1; have R := (hext.alloc _).trans hx1; clear hext hx1)
        have HL := HL1.out
        go_roundw
        case rel => exact ⟨p + 1, m ++ [s[p]], some ⟨g1, 0, none⟩, cap1, by omega, by omega, by go_num, by rw [HL], by rw [List.length_append, List.length_singleton]; omega, by rw [← HL]; exact R, HR2.out⟩
        case measure => simp [intOf]; omega
    · obtain ⟨N1, N2, N3, N4⟩ := w_none (S := S) (by rw [HR.out, List.drop_eq_nil_of_le (by rw [ba_length]; omega)]; rfl)
      clear HR
      go_wp2
      refine bodyPost_ret (v := .tuple #[.agg #[.int .u8 0, .int .i64 0, .string ByteArray.empty], .int .i64 0, .bool false]) (by simp [results, Try.results66, go_sem, q0, q1, q2]; try rfl) rfl ⟨by rw [N1.out, N2.out, N3.out, N4.out], ?_⟩
      exact ((B0.setCell (Nat.le_refl _) _).setCell (Nat.le_refl _) _).setCell (Nat.le_refl _) _
end Go.Proofs.Ytbcbdaaaglkjhaa
