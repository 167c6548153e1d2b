/-
  The document's own reading of a tuple's text: the same answer as the program's, at every text.
-/
import Derived.Test.YtbcbdaaaglkjhaaRefFirst
import Derived.Test.YtbcbdaaaglkjhaaBegins
namespace Go.Proofs.Ytbcbdaaaglkjhaa
open Go.RowKit

/-- Where there is no value ahead. -/
theorem refFirst_no (w : World) (s : ByteArray) (h : 0 < s.size) (hs : s.size ≤ 140737488355327) (h0 : (rv s.data.toList).2 = 0) :
    Calls Try.prog 55 #[.string s] w fun e w' => ∃ (k n : Int) (t : ByteArray) (N : Int), e = .returned (.tuple #[.agg #[.int .u8 k, .int .i64 n, .string t], .int .i64 N, .bool false]) ∧ Below w.heap.size w w' := by
  refine (refFirst_any w s h hs).mono ?_
  rintro e w' ⟨k, n, t, N, ok, rfl, h1, h2, hb⟩
  cases ok with
  | false => exact ⟨k, n, t, N, rfl, hb⟩
  | true =>
    obtain ⟨e1, e2⟩ := h1 rfl
    rw [e1] at h0
    have : N.toNat = 0 := h0
    omega

/-- Where there is one. -/
theorem refFirst_yes (w : World) (s : ByteArray) (h : 0 < s.size) (hs : s.size ≤ 140737488355327) (v : Val) (N : Nat) (h0 : rv s.data.toList = (v, N)) (hN : N ≠ 0) :
    Calls Try.prog 55 #[.string s] w fun e w' => e = .returned (.tuple #[.agg #[.int .u8 v.k, .int .i64 v.n, .string v.t], .int .i64 (N : Int), .bool true]) ∧ Below w.heap.size w w' := by
  refine (refFirst_any w s h hs).mono ?_
  rintro e w' ⟨k, n, t, M, ok, rfl, h1, h2, hb⟩
  cases ok with
  | false => have := h2 rfl; rw [h0] at this; exact absurd this hN
  | true =>
    obtain ⟨e1, e2⟩ := h1 rfl
    rw [h0] at e1
    simp only [Prod.mk.injEq] at e1
    obtain ⟨rfl, rfl⟩ := e1
    have e3 : ((M.toNat : Nat) : Int) = M := by omega
    exact ⟨by rw [e3], hb⟩

def strLen : Value → Nat
  | .string t => t.size
  | _ => 0

set_option maxHeartbeats 4000000 in
theorem refValues_any (w : World) (s : ByteArray) (hs : s.size ≤ 140737488355327) :
    Calls Try.prog 30 #[.string s] w fun e w' => ∃ v, e = .returned (.tuple #[v, .int .i64 (valsE s.data.toList)]) ∧ ValsIn w' v (valsL s.data.toList) ∧ Below w.heap.size w w' := by
  obtain ⟨i0, hi, hz0, hz1, hz2⟩ := info_parts Try.infoV
  obtain ⟨S, hS⟩ : ∃ S, S = s.data.toList := ⟨_, rfl⟩
  rw [← hS]
  have HS : Hid (S = s.data.toList) := hS
  clear hS
  go_enter Try.func30, Try.ntmps30
  go_wp2
  go_loopw [0, 4] (fun y x wr => ∃ (T : ByteArray) (f : Nat) (vs : List Val) (ad : Option Addr) (cap : Nat), T.size ≤ s.size ∧ y = .string T ∧ x = .slice ad vs.length cap ∧ vs.length ≤ 16 ∧ wr.ownsRow w.heap.size 32 3 (.slice ad vs.length cap) vs.length (vc vs) ∧ Below w.heap.size w wr ∧ (∀ v ∈ vs, v.wf) ∧ vals S = vl f T.data.toList vs ∧ T.size < f) (fun y _ _ => strLen y)
  case atStart => exact ⟨s, s.size + 1, [], none, 0, Nat.le_refl _, rfl, rfl, by simp, World.ownsRow_nil _ _ _ _, Below.refl _ _, by simp, by unfold vals; rw [HS.out, ba_length], by omega⟩
  case round =>
    obtain ⟨T, f, vs, ad, cap, hp, rfl, rfl, hvl, hown, hbel, hwf, hsp, hf⟩ := hrel
    have HSP : Hid (vals S = vl f T.data.toList vs) := hsp
    have HWF : Hid (∀ v ∈ vs, v.wf) := hwf
    clear hsp hwf
    have hsz := hbel.size
    obtain ⟨f', rfl⟩ : ∃ f', f = f' + 1 := ⟨f - 1, by omega⟩
    by_cases hlt : 0 < T.size
    · have hlti : (0 : Int) < (T.size : Int) := by omega
      have hne : T.data.toList ≠ [] := by intro e; have := congrArg List.length e; rw [ba_length, List.length_nil] at this; omega
      obtain ⟨hw1, hle⟩ := rv_ok T.data.toList
      have hst : vl (f' + 1) T.data.toList vs = if (rv T.data.toList).2 = 0 ∨ vs.length = 16 then none else vl f' (T.data.toList.drop (rv T.data.toList).2) (vs ++ [(rv T.data.toList).1]) := by rw [vl, if_neg hne]
      obtain ⟨v, hv⟩ : ∃ v, v = (rv T.data.toList).1 := ⟨_, rfl⟩
      obtain ⟨n, hn⟩ : ∃ n, n = (rv T.data.toList).2 := ⟨_, rfl⟩
      have hvn : rv T.data.toList = (v, n) := by rw [hv, hn]
      rw [← hv, ← hn] at hst
      rw [← hv] at hw1
      rw [← hn, ba_length] at hle
      have HST : Hid (vals S = if n = 0 ∨ vs.length = 16 then none else vl f' (T.data.toList.drop n) (vs ++ [v])) := by show _ = _; rw [HSP.out, hst]
      by_cases hn0 : n = 0
      · have HN : Hid (vals S = none) := by show _ = _; rw [HST.out, if_pos (.inl hn0)]
        have HE : Hid (valsE S = 5) := by show _ = _; unfold valsE; rw [HN.out]; rfl
        have HL : Hid (valsL S = []) := by show _ = _; unfold valsL; rw [HN.out]; rfl
        have HF : Hid (∀ wx : World, Calls Try.prog 55 #[.string T] wx fun e w' => ∃ (k n : Int) (t : ByteArray) (N : Int), e = .returned (.tuple #[.agg #[.int .u8 k, .int .i64 n, .string t], .int .i64 N, .bool false]) ∧ Below wx.heap.size wx w') := fun wx => refFirst_no wx T hlt (by omega) (by rw [← hn]; exact hn0)
        clear HST hvn hv hn hne hst hn0 HSP
        go_wp2_with (go_at_call 55; refine (HF.out _).mono ?_; rintro e w1 ⟨k1, n1, t1, N1, rfl, hb1⟩)
        go_ret2
        refine ⟨_, by rw [HE.out]; rfl, ?_, (hbel.trans (hb1.mono hsz)).alloc (by have := hb1.size; omega) _⟩
        rw [HL.out]
        exact ⟨⟨none, 0, rfl, fun h => absurd rfl h⟩, by simp, by decide⟩
      · have HF : Hid (∀ wx : World, Calls Try.prog 55 #[.string T] wx fun e w' => e = .returned (.tuple #[.agg #[.int .u8 v.k, .int .i64 v.n, .string v.t], .int .i64 (n : Int), .bool true]) ∧ Below wx.heap.size wx w') := fun wx => refFirst_yes wx T hlt (by omega) v n hvn hn0
        by_cases h16 : vs.length = 16
        · have HN : Hid (vals S = none) := by show _ = _; rw [HST.out, if_pos (.inr h16)]
          have HE : Hid (valsE S = 5) := by show _ = _; unfold valsE; rw [HN.out]; rfl
          have HL : Hid (valsL S = []) := by show _ = _; unfold valsL; rw [HN.out]; rfl
          have hb16 : ((vs.length : Int) == 16) = true := by rw [h16]; rfl
          clear HST h16 hvn hv hn hne hst HSP
          go_wp2_with (go_at_call 55; refine (HF.out _).mono ?_; rintro e w1 ⟨rfl, hb1⟩)
          go_ret2
          refine ⟨_, by rw [HE.out]; rfl, ?_, (hbel.trans (hb1.mono hsz)).alloc (by have := hb1.size; omega) _⟩
          rw [HL.out]
          exact ⟨⟨none, 0, rfl, fun h => absurd rfl h⟩, by simp, by decide⟩
        · have HN : Hid (vals S = vl f' (T.extract n T.size).data.toList (vs ++ [v])) := by show _ = _; rw [HST.out, if_neg (by omega), extract_drop]
          have hb16 : ((vs.length : Int) == 16) = false := by rw [beq_eq_false_iff_ne]; omega
          have hl16 : vs.length < 16 := by omega
          have hni : (n : Int) ≤ (T.size : Int) := by omega
          have HXS : Hid ((T.extract n T.size).size = T.size - n) := by show _ = _; rw [ByteArray.size_extract]; omega
          have hnp : 0 < n := by omega
          clear HST h16 hvn hv hn hne hst HSP
          go_wp2_with (first
            | (go_at_call 55; refine (HF.out _).mono ?_; rintro e w1 ⟨rfl, hb1⟩; have hown1 := hown.kept (w' := w1) (row := none) ⟨hb1.os, hb1.tape, hb1.output, hb1.size, fun k hk _ => hb1.block k hk⟩ (kept_none _); have hzb := hb1.size)
            | (at_builtin; refine wpList_append_lies _ rfl _ _ 24 rfl w.heap.size 32 i0 (.agg #[.int .u8 0, .int .i64 0, .string ByteArray.empty]) 3 32 Try.underlying24 hi hz0 hz1 hz2 rfl (by decide) _ _ _ rfl ((hown1.alloc _).alloc _) ⟨w1.heap.size + 1, 0, none⟩ 1 1 (vc [v]) rfl rfl ?a2 ?a6 (by decide) ?a3 ?a4 ?a5 _ rfl ?_))
          case a2 =>
            have := World.news_of_block (cs := #[.int .u8 v.k, .int .i64 v.n, .string v.t]) (heap_alloc_new (w1.alloc (.cells #[.int .u8 v.k, .int .i64 v.n, .string v.t] 32)) (.cells #[.int .u8 v.k, .int .i64 v.n, .string v.t] 32))
            simpa [vc] using this
          case a6 => intro u hu; simp [vc] at hu; rcases hu with rfl | rfl | rfl <;> rfl
          case a3 => unfold maxLen; omega
          case a4 => omega
          case a5 => simp; omega
          · intro g cap1 w2 hown2 hgrow2 hat2 hlt2
            have B1 : Below w.heap.size w w1 := hbel.trans (hb1.mono hsz)
            have B2 : Below w.heap.size w w2 := ((B1.alloc B1.size _).alloc (by have := B1.size; simp; omega) _).grown hgrow2 (by have := B1.size; simp; omega) (fun k hk => (hown.lt k hk).1)
            have hown3 : w2.ownsRow w.heap.size 32 3 (.slice (some ⟨g, 0, none⟩) (vs ++ [v]).length cap1) (vs ++ [v]).length (vc (vs ++ [v])) := by rw [vc_append, List.length_append]; exact hown2
            have HL : Hid ((vs ++ [v]).length = vs.length + 1) := by show _ = _; simp
            have HW : Hid (∀ x ∈ vs ++ [v], x.wf) := by
              intro x hx
              rw [List.mem_append, List.mem_singleton] at hx
              rcases hx with hx | hx
              · exact HWF.out x hx
              · rw [hx]; exact hw1
            clear hown2 hgrow2 hat2 hlt2 hown1 hown hbel hb1 B1 HWF hw1
            go_wp2
            go_roundw
            case rel => exact ⟨T.extract n T.size, f', vs ++ [v], some ⟨g, 0, none⟩, cap1, by rw [HXS.out]; omega, by go_num, by rw [HL.out], by rw [HL.out]; omega, hown3, B2, HW.out, HN.out, by rw [HXS.out]; omega⟩
            case measure => show (T.extract n T.size).size < T.size; rw [HXS.out]; omega
    · have hlti : ¬ (0 : Int) < (T.size : Int) := by omega
      have HN : Hid (vals S = some vs) := by show _ = _; rw [HSP.out, vl, if_pos (List.eq_nil_of_length_eq_zero (by rw [ba_length]; omega))]
      have HE : Hid (valsE S = 0) := by show _ = _; unfold valsE; rw [HN.out]; rfl
      have HL : Hid (valsL S = vs) := by show _ = _; unfold valsL; rw [HN.out]; rfl
      clear HSP HN
      go_wp2
      go_ret2
      refine ⟨_, by rw [HE.out]; rfl, ?_, hbel⟩
      rw [HL.out]
      exact vals_of_own hown HWF.out (by omega)
end Go.Proofs.Ytbcbdaaaglkjhaa
