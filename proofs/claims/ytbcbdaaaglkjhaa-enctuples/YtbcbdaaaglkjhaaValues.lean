/-
  The tuple whose text a text is: what the call answers, at every text: its values in new memory and 0, or none and the error; it leaves all that was there as it was.
-/
import Derived.Test.YtbcbdaaaglkjhaaReadValue
import Derived.Test.YtbcbdaaaglkjhaaSameVals
namespace Go.Proofs.Ytbcbdaaaglkjhaa
open Go.RowKit

theorem Try.infoV : (Try.prog.info? 32).map (fun i => (i.zero, i.size, i.bytes)) = some (some (.agg #[.int .u8 0, .int .i64 0, .string ByteArray.empty]), 3, 32) := by kernel_rfl

/-- The cells of a list of values. -/
def vc (vs : List Val) : List Value := vs.flatMap fun v => [.int .u8 v.k, .int .i64 v.n, .string v.t]
theorem vc_length (vs : List Val) : (vc vs).length = vs.length * 3 := by
  induction vs with
  | nil => rfl
  | cons v vs ih =>
    have e : vc (v :: vs) = [.int .u8 v.k, .int .i64 v.n, .string v.t] ++ vc vs := by simp [vc]
    rw [e, List.length_append, ih, List.length_cons]; simp; omega
theorem vc_append (a b : List Val) : vc (a ++ b) = vc a ++ vc b := by simp [vc]
theorem vc_get (vs : List Val) (j : Nat) (h : j < vs.length) : (vc vs)[j * 3]? = some (.int .u8 (vs[j]).k) ∧ (vc vs)[j * 3 + 1]? = some (.int .i64 (vs[j]).n) ∧ (vc vs)[j * 3 + 2]? = some (.string (vs[j]).t) := by
  induction vs generalizing j with
  | nil => simp at h
  | cons v vs ih =>
    have e : vc (v :: vs) = [.int .u8 v.k, .int .i64 v.n, .string v.t] ++ vc vs := by simp [vc]
    cases j with
    | zero => rw [e]; exact ⟨rfl, rfl, rfl⟩
    | succ j =>
      have h' : j < vs.length := by simpa using h
      obtain ⟨a, b, c⟩ := ih j h'
      rw [e]
      refine ⟨?_, ?_, ?_⟩
      · rw [List.getElem?_append_right (by simp; omega)]; simpa [show (j + 1) * 3 - 3 = j * 3 from by omega] using a
      · rw [List.getElem?_append_right (by simp; omega)]; simpa [show (j + 1) * 3 + 1 - 3 = j * 3 + 1 from by omega] using b
      · rw [List.getElem?_append_right (by simp; omega)]; simpa [show (j + 1) * 3 + 2 - 3 = j * 3 + 2 from by omega] using c

theorem vals_of_own {w : World} {base : Nat} {v : Value} {vs : List Val} (h : w.ownsRow base 32 3 v vs.length (vc vs)) (hwf : ∀ x ∈ vs, x.wf) (hl : vs.length ≤ 1099511627776000) : ValsIn w v vs := by
  have ho := h
  rcases h.2 with ⟨rfl, h0⟩ | ⟨g, cap, cur, rfl, _⟩
  · exact ⟨⟨none, 0, by rw [h0], fun hne => absurd (List.eq_nil_of_length_eq_zero h0) hne⟩, hwf, hl⟩
  · refine ⟨⟨_, cap, rfl, fun _ => ⟨g, 0, rfl, fun j hj => ?_⟩⟩, hwf, hl⟩
    obtain ⟨a, b, c⟩ := vc_get vs j hj
    rw [Nat.zero_add, ho.cellAt (j * 3) (by omega), ho.cellAt (j * 3 + 1) (by omega), ho.cellAt (j * 3 + 2) (by omega)]
    exact ⟨a, b, c⟩

/-- The tuple whose text these bytes are, behind 'acc'. -/
def vl : Nat → List UInt8 → List Val → Option (List Val)
  | 0, _, _ => none
  | f + 1, S, acc => if S = [] then some acc else if (rv S).2 = 0 ∨ acc.length = 16 then none else vl f (S.drop (rv S).2) (acc ++ [(rv S).1])
def vals (S : List UInt8) : Option (List Val) := vl (S.length + 1) S []
def valsL (S : List UInt8) : List Val := (vals S).getD []
def valsE (S : List UInt8) : Int := if (vals S).isSome then 0 else 5

theorem zero_wf : zeroVal.wf := ⟨by decide, by decide, by decide, by decide, by decide⟩
theorem rv_ok (S : List UInt8) : (rv S).1.wf ∧ (rv S).2 ≤ S.length := by
  cases S with
  | nil => exact ⟨zero_wf, Nat.le_refl _⟩
  | cons c r =>
    rw [rv_cons]
    split
    · exact ⟨zero_wf, by simp⟩
    · split
      · cases r with
        | nil => exact ⟨zero_wf, by simp⟩
        | cons d r =>
          simp only
          split
          · exact ⟨⟨by show (0 : Int) ≤ 1; decide, by show (1 : Int) ≤ 255; decide, by show _ ≤ (d.toNat : Int); omega, by show (d.toNat : Int) ≤ _; omega, by show (0 : Nat) ≤ _; omega⟩, by simp⟩
          · exact ⟨zero_wf, by simp⟩
      · split
        · split
          · rename_i h
            have hn := hnum_lt (r.take 8)
            rw [List.length_take, Nat.min_eq_left h] at hn
            have p : (256 : Nat) ^ 8 = 18446744073709551616 := by decide
            rw [p] at hn
            exact ⟨⟨by show (0 : Int) ≤ 2; decide, by show (2 : Int) ≤ 255; decide, by show _ ≤ (hnum (r.take 8) : Int) - 9223372036854775808; omega, by show (hnum (r.take 8) : Int) - 9223372036854775808 ≤ _; omega, by show (0 : Nat) ≤ _; omega⟩, by simp; omega⟩
          · exact ⟨zero_wf, by simp⟩
        · split
          · split
            · have h1 := rtT_le r
              have h2 := rtN_le r
              exact ⟨⟨by show (0 : Int) ≤ 3; decide, by show (3 : Int) ≤ 255; decide, by show _ ≤ (0 : Int); decide, by show (0 : Int) ≤ _; decide, by show (rtT r).size ≤ maxLen; unfold maxLen; omega⟩, by simp; omega⟩
            · exact ⟨zero_wf, by simp⟩
          · exact ⟨zero_wf, by simp⟩

theorem extract_drop (s : ByteArray) (p : Nat) : (s.extract p s.size).data.toList = s.data.toList.drop p := by
  rw [Lib.extract_data, List.take_of_length_le (by rw [List.length_drop, ba_length]; omega)]

theorem kept_none (v : Value) : v.ownBlock = none ∨ v.ownBlock ≠ none := by cases v.ownBlock with | none => exact .inl rfl | some _ => exact .inr (by simp)

set_option maxHeartbeats 4000000 in
theorem encValues_any (w : World) (s : ByteArray) (hs : s.size ≤ 9223372036854775806) :
    Calls Try.prog 9 #[.string s] w fun e w' => ∃ v, e = .returned (.tuple #[v, .int .i64 (valsE s.data.toList)]) ∧ ValsIn w' v (valsL s.data.toList) ∧ Below w.heap.size w w' := by
  obtain ⟨i0, hi, hz0, hz1, hz2⟩ := info_parts Try.infoV
  go_enter Try.func9, Try.ntmps9
  go_wp2
  go_loopw [4, 5] (fun x i wr => ∃ (p f : Nat) (vs : List Val) (ad : Option Addr) (cap : Nat), p ≤ s.size ∧ i = .int .i64 p ∧ x = .slice ad vs.length cap ∧ vs.length ≤ 16 ∧ wr.ownsRow w.heap.size 32 3 (.slice ad vs.length cap) vs.length (vc vs) ∧ Below w.heap.size w wr ∧ (∀ v ∈ vs, v.wf) ∧ vals s.data.toList = vl f (s.data.toList.drop p) vs ∧ s.size < f + p) (fun _ i _ => s.size - (intOf i).toNat)
  case atStart => exact ⟨0, s.size + 1, [], none, 0, Nat.zero_le _, rfl, rfl, by simp, World.ownsRow_nil _ _ _ _, Below.refl _ _, by simp, by unfold vals; rw [ba_length, List.drop_zero], by omega⟩
  case round =>
    obtain ⟨p, f, vs, ad, cap, hp, rfl, rfl, hvl, hown, hbel, hwf, hsp, hf⟩ := hrel
    have HSP : Hid (vals s.data.toList = vl f (s.data.toList.drop p) vs) := hsp
    have HWF : Hid (∀ v ∈ vs, v.wf) := hwf
    clear hsp hwf
    have hsz := hbel.size
    obtain ⟨f', rfl⟩ : ∃ f', f = f' + 1 := ⟨f - 1, by omega⟩
    by_cases hlt : p < s.size
    · have hne : s.data.toList.drop p ≠ [] := by intro e; have := congrArg List.length e; rw [List.length_drop, ba_length] at this; simp at this; omega
      have hrv := fun wx : World => readValue_any wx (s.extract p s.size) (by rw [ByteArray.size_extract]; omega) (by rw [ByteArray.size_extract]; omega)
      rw [extract_drop s p] at hrv
      obtain ⟨hw1, hle⟩ := rv_ok (s.data.toList.drop p)
      have hst : vl (f' + 1) (s.data.toList.drop p) vs = if (rv (s.data.toList.drop p)).2 = 0 ∨ vs.length = 16 then none else vl f' ((s.data.toList.drop p).drop (rv (s.data.toList.drop p)).2) (vs ++ [(rv (s.data.toList.drop p)).1]) := by rw [vl, if_neg hne]
      obtain ⟨v, hv⟩ : ∃ v, v = (rv (s.data.toList.drop p)).1 := ⟨_, rfl⟩
      obtain ⟨n, hn⟩ : ∃ n, n = (rv (s.data.toList.drop p)).2 := ⟨_, rfl⟩
      rw [← hv, ← hn] at hrv hst
      rw [← hv] at hw1
      rw [← hn, List.length_drop, ba_length] at hle
      have HRV : Hid (∀ wx : World, Calls Try.prog 43 #[.string (s.extract p s.size)] wx fun e w' => e = .returned (.tuple #[.agg #[.int .u8 v.k, .int .i64 v.n, .string v.t], .int .i64 (n : Int)]) ∧ Below wx.heap.size wx w') := hrv
      have HST : Hid (vals s.data.toList = if n = 0 ∨ vs.length = 16 then none else vl f' (s.data.toList.drop (p + n)) (vs ++ [v])) := by
        show _ = _
        rw [HSP.out, hst, List.drop_drop]
      clear hrv hst hv hn hne HSP
      have k1 : (0 : Int) ≤ (p : Int) := by omega
      have k2 : (p : Int) ≤ (s.size : Int) := by omega
      by_cases hn0 : n = 0
      · have HN : Hid (vals s.data.toList = none) := by show _ = _; rw [HST.out, if_pos (.inl hn0)]
        have HE : Hid (valsE s.data.toList = 5) := by show _ = _; unfold valsE; rw [HN.out]; rfl
        have HL : Hid (valsL s.data.toList = []) := by show _ = _; unfold valsL; rw [HN.out]; rfl
        subst hn0
        clear HST
        go_wp2_with (go_at_call 43; refine (HRV.out _).mono ?_; rintro e w1 ⟨rfl, hb1⟩)
        go_ret2
        refine ⟨_, by rw [HE.out]; rfl, ?_, (hbel.trans (hb1.mono hsz)).alloc (by have := hb1.size; omega) _⟩
        rw [HL.out]
        exact ⟨⟨none, 0, rfl, fun h => absurd rfl h⟩, by simp, by decide⟩
      · have hnb : ((n : Int) == 0) = false := by rw [beq_eq_false_iff_ne]; omega
        by_cases h16 : vs.length = 16
        · have HN : Hid (vals s.data.toList = none) := by show _ = _; rw [HST.out, if_pos (.inr h16)]
          have HE : Hid (valsE s.data.toList = 5) := by show _ = _; unfold valsE; rw [HN.out]; rfl
          have HL : Hid (valsL s.data.toList = []) := by show _ = _; unfold valsL; rw [HN.out]; rfl
          have hb16 : ((vs.length : Int) == 16) = true := by rw [h16]; rfl
          clear HST h16
          go_wp2_with (go_at_call 43; refine (HRV.out _).mono ?_; rintro e w1 ⟨rfl, hb1⟩)
          go_ret2
          refine ⟨_, by rw [HE.out]; rfl, ?_, (hbel.trans (hb1.mono hsz)).alloc (by have := hb1.size; omega) _⟩
          rw [HL.out]
          exact ⟨⟨none, 0, rfl, fun h => absurd rfl h⟩, by simp, by decide⟩
        · have HN : Hid (vals s.data.toList = vl f' (s.data.toList.drop (p + n)) (vs ++ [v])) := by show _ = _; rw [HST.out, if_neg (by omega)]
          have hb16 : ((vs.length : Int) == 16) = false := by rw [beq_eq_false_iff_ne]; omega
          have hl16 : vs.length < 16 := by omega
          have hle2 : p + n ≤ s.size := by omega
          clear HST h16
          go_wp2_with (first
            | (go_at_call 43; refine (HRV.out _).mono ?_; rintro e w1 ⟨rfl, hb1⟩; have hown1 := hown.kept (w' := w1) (row := none) ⟨hb1.os, hb1.tape, hb1.output, hb1.size, fun k hk _ => hb1.block k hk⟩ (kept_none _); have hzb := hb1.size)
            | (at_builtin; refine wpList_append_lies _ rfl (.tmp 26) (.tmp 28) 24 rfl w.heap.size 32 i0 (.agg #[.int .u8 0, .int .i64 0, .string ByteArray.empty]) 3 32 Try.underlying24 hi hz0 hz1 hz2 rfl (by decide) _ _ _ rfl ((hown1.alloc _).alloc _) ⟨w1.heap.size + 1, 0, none⟩ 1 1 (vc [v]) rfl rfl ?a2 ?a6 (by decide) ?a3 ?a4 ?a5 _ rfl ?_))
          case a2 =>
            have := World.news_of_block (cs := #[.int .u8 v.k, .int .i64 v.n, .string v.t]) (heap_alloc_new (w1.alloc (.cells #[.int .u8 v.k, .int .i64 v.n, .string v.t] 32)) (.cells #[.int .u8 v.k, .int .i64 v.n, .string v.t] 32))
            simpa [vc] using this
          case a6 => intro u hu; simp [vc] at hu; rcases hu with rfl | rfl | rfl <;> rfl
          case a3 => unfold maxLen; omega
          case a4 => omega
          case a5 => simp; omega
          · intro g cap1 w2 hown2 hgrow2 hat2 hlt2
            have B1 : Below w.heap.size w w1 := hbel.trans (hb1.mono hsz)
            have B2 : Below w.heap.size w w2 := ((B1.alloc B1.size _).alloc (by have := B1.size; simp; omega) _).grown hgrow2 (by have := B1.size; simp; omega) (fun k hk => (hown.lt k hk).1)
            have hown3 : w2.ownsRow w.heap.size 32 3 (.slice (some ⟨g, 0, none⟩) (vs ++ [v]).length cap1) (vs ++ [v]).length (vc (vs ++ [v])) := by rw [vc_append, List.length_append]; exact hown2
            have HL : Hid ((vs ++ [v]).length = vs.length + 1) := by show _ = _; simp
            have HW : Hid (∀ x ∈ vs ++ [v], x.wf) := by
              intro x hx
              rw [List.mem_append, List.mem_singleton] at hx
              rcases hx with hx | hx
              · exact HWF.out x hx
              · rw [hx]; exact hw1
            clear hown2 hgrow2 hat2 hlt2 hown1 hown hbel hb1 B1 HWF hw1
            go_wp2
            go_roundw
            case rel => exact ⟨p + n, f', vs ++ [v], some ⟨g, 0, none⟩, cap1, by omega, by go_num, by rw [HL.out], by rw [HL.out]; omega, hown3, B2, HW.out, HN.out, by omega⟩
            case measure => simp [intOf]; omega
    · have HN : Hid (vals s.data.toList = some vs) := by show _ = _; rw [HSP.out, vl, if_pos (List.drop_eq_nil_of_le (by rw [ba_length]; omega))]
      have HE : Hid (valsE s.data.toList = 0) := by show _ = _; unfold valsE; rw [HN.out]; rfl
      have HL : Hid (valsL s.data.toList = vs) := by show _ = _; unfold valsL; rw [HN.out]; rfl
      go_wp2
      go_ret2
      refine ⟨_, by rw [HE.out]; rfl, ?_, hbel⟩
      rw [HL.out]
      exact vals_of_own hown HWF.out (by omega)
end Go.Proofs.Ytbcbdaaaglkjhaa
