/-
  A reader of a block's bytes: its texts, and its end.
-/
import Derived.Test.YtbdgdigpnfpnhaaBRd
namespace Go.Proofs.Ytbdgdigpnfpnhaa
open Go.RowKit

theorem bytes_str {w : World} {a : Option Addr} {n c : Nat} {l : List UInt8} (h : BytesIn w (.slice a n c) l) : (convert 89 9 (.slice a n c)).run Try.prog w = .ok (str l) w := by
  obtain ⟨⟨a', c', e, hf⟩, _⟩ := h
  cases e
  cases a with
  | none =>
    have h0 : l = [] := by
      by_cases h0 : l = []
      · exact h0
      · obtain ⟨_, _, e, _⟩ := hf h0; cases e
    subst h0
    exact run_convert_bytes_nil w 89 5 Try.underlying89 Try.underlying5 0 c _ Try.underlying9
  | some ad =>
    refine run_convert_bytes_back w 89 9 5 ad c l Try.underlying89 Try.underlying5 Try.underlying9 (fun j hj => ?_)
    obtain ⟨b, off, e, hat⟩ := hf (fun e => by rw [e] at hj; simp at hj)
    cases e
    have hadd : (⟨b, off, none⟩ : Addr).add j = ⟨b, off + j, none⟩ := by unfold Addr.add; split <;> simp_all
    rw [hadd, hat j hj]
theorem RdC.part {w : World} {T : Nat} {ao : Option Addr} {cap : Nat} {b : List UInt8} {at' : Nat} {bad : Bool} (h : RdC w T ao cap b at' bad) (lo n c : Nat) (hn : lo + n ≤ b.length) : BytesIn w (.slice (ao.map fun x => x.add lo) n c) ((b.drop lo).take n) := by
  have hl := h.len
  have hln : ((b.drop lo).take n).length = n := by rw [List.length_take, List.length_drop]; omega
  refine ⟨⟨_, c, by rw [hln], fun h0 => ?_⟩, by omega⟩
  obtain ⟨bl, off, e, _, hat⟩ := h.bytes (fun e => h0 (by rw [e]; simp))
  subst e
  have hadd : (⟨bl, off, none⟩ : Addr).add lo = ⟨bl, off + lo, none⟩ := by unfold Addr.add; split <;> simp_all
  refine ⟨bl, off + lo, by show some (Addr.add _ _) = _; rw [hadd], fun j hj => ?_⟩
  rw [hln] at hj
  have := hat (lo + j) (by omega)
  rw [Nat.add_assoc, this, List.getElem_take, List.getElem_drop]

set_option maxRecDepth 100000 in
set_option maxHeartbeats 4000000 in
theorem rtext_c (w : World) (T : Nat) (ao : Option Addr) (cap : Nat) (b : List UInt8) (at' : Nat) (bad : Bool) (most : Nat) (h : RdC w T ao cap b at' bad) (hm : most ≤ 1073741824) :
    Calls Try.prog 92 #[.int .i64 (most : Int), pt (T + 5), pt (T + 4), pt T, pt (T + 2), pt (T + 3)] w fun e w' => e = .returned (str (Bk.rtextX ⟨b.drop at', bad⟩ most)) ∧ (∃ at2, Hid ((Bk.rtext ⟨b.drop at', bad⟩ most).rest = b.drop at2) ∧ RdC w' T ao cap b at2 (Bk.rtext ⟨b.drop at', bad⟩ most).bad) ∧ Moved (rdT T) w w' ∧ w'.heap.size = w.heap.size := by
  obtain ⟨c0, c1, c2, c3, c4, f2, f3⟩ := h.cells
  have NM := rnumber_c w T ao cap b at' bad most h hm
  have hn9 := Bk.rnumX_le ⟨b.drop at', bad⟩ most
  have HX : Hid (Bk.rtextX ⟨b.drop at', bad⟩ most = if (Bk.rtextM ⟨b.drop at', bad⟩ most).bad then [] else (Bk.rnum ⟨b.drop at', bad⟩ most).rest.take (Bk.rnumX ⟨b.drop at', bad⟩ most)) := rfl
  have HT : Hid (Bk.rtext ⟨b.drop at', bad⟩ most = if (Bk.rtextM ⟨b.drop at', bad⟩ most).bad then Bk.rtextM ⟨b.drop at', bad⟩ most else ⟨(Bk.rnum ⟨b.drop at', bad⟩ most).rest.drop (Bk.rnumX ⟨b.drop at', bad⟩ most), false⟩) := rfl
  unfold Bk.rtextM at HX HT
  generalize Bk.rnumX ⟨b.drop at', bad⟩ most = n at *
  generalize Bk.rnum ⟨b.drop at', bad⟩ most = t at *
  generalize Bk.rtextX ⟨b.drop at', bad⟩ most = x at HX ⊢
  generalize Bk.rtext ⟨b.drop at', bad⟩ most = y at HT ⊢
  clear h
  go_enter Try.func92, Try.ntmps92
  go_wp2_with (fail)
  refine NM.mono ?_
  rintro e w1 ⟨rfl, ⟨at2, HA, r1⟩, m1, z1⟩
  clear NM c0 c1 c2 c3 c4 f2 f3
  obtain ⟨c0, c1, c2, c3, c4, f2, f3⟩ := r1.cells
  have hat := r1.hat
  have hcap := r1.hcap
  have hlen := r1.len
  obtain ⟨cc, hcc⟩ : ∃ cc, cc = decide ((n : Int) ≤ (b.length : Int) - (at2 : Int)) := ⟨_, rfl⟩
  have MU : Hid (Calls Try.prog 89 #[.bool cc, pt (T + 3)] w1 fun e w' => e = .returned (.tuple #[]) ∧ RdC w' T ao cap b at2 (t.bad || !cc) ∧ Moved (rdT T) w1 w' ∧ w'.heap.size = w1.heap.size) := must_any w1 T ao cap b at2 t.bad cc r1
  obtain ⟨B, hB⟩ : ∃ B, B = (t.bad || !cc) := ⟨_, rfl⟩
  have hlt : t.rest.length = b.length - at2 := by rw [HA.out, List.length_drop]
  have hdc : decide (n ≤ t.rest.length) = cc := by rw [hcc, hlt]; congr 1; apply propext; omega
  have hM : (Bk.mst t (decide (n ≤ t.rest.length))) = ⟨t.rest, B⟩ := by unfold Bk.mst; rw [hdc, ← hB]
  have hx : x = if B then [] else t.rest.take n := by have := HX.out; rw [hM] at this; exact this
  have hy : y = if B then ⟨t.rest, B⟩ else ⟨t.rest.drop n, false⟩ := by have := HT.out; rw [hM] at this; exact this
  have HX' : Hid _ := hx
  have HY' : Hid _ := hy
  have HCC : Hid (B = false → n ≤ b.length - at2) := fun e => by
    rw [hB] at e
    have : cc = true := by cases cc <;> simp_all
    rw [hcc] at this
    have := of_decide_eq_true this
    omega
  have MB : Hid (Calls Try.prog 89 #[.bool cc, pt (T + 3)] w1 fun e w' => e = .returned (.tuple #[]) ∧ RdC w' T ao cap b at2 B ∧ Moved (rdT T) w1 w' ∧ w'.heap.size = w1.heap.size) := by rw [hB]; exact MU.out
  have RT : Hid (t.rest = b.drop at2) := HA
  have HC : Hid (cc = decide ((n : Int) ≤ (b.length : Int) - (at2 : Int))) := hcc
  rw [hcc] at MB
  have m1' : Hid _ := m1
  clear HX HT hM hx hy hdc hlt hB hcc MU HC HA m1
  cases B with
  | true =>
    have hx := HX'.out
    have hy := HY'.out
    subst hx hy
    clear HX' HY' HCC
    go_wp2_with (first
      | (go_at_call 89; refine MB.out.mono ?_; rintro e w2 ⟨rfl, r2, m2, z2⟩; obtain ⟨d0, d1, d2, d3, d4, g2, g3⟩ := r2.cells; clear MB))
    go_ret
    exact ⟨rfl, ⟨at2, RT, r2⟩, m1'.out.trans m2 (fun _ _ h => h), z2.trans z1⟩
  | false =>
    have hle := HCC.out rfl
    have hx : x = t.rest.take n := HX'.out
    have hy : y = ⟨t.rest.drop n, false⟩ := HY'.out
    subst hx hy
    clear HX' HY' HCC
    have hnat : ((at2 + n : Nat) : Int) = (at2 : Int) + (n : Int) := by omega
    have CV : Hid (∀ w2, RdC w2 T ao cap b at2 false → ∀ c, (convert 89 9 (.slice (ao.map fun x => x.add at2) n c)).run Try.prog (w2.setCell ⟨T + 2, 0, none⟩ (.int .i64 ((at2 : Int) + (n : Int)))) = .ok (str (t.rest.take n)) (w2.setCell ⟨T + 2, 0, none⟩ (.int .i64 ((at2 : Int) + (n : Int))))) := fun w2 r2 c => by
      rw [RT.out, ← hnat]
      exact bytes_str ((r2.setAt (at2 := at2 + n) (by omega)).part at2 n c (by omega))
    have ST : Hid (∀ w2, RdC w2 T ao cap b at2 false → RdC (w2.setCell ⟨T + 2, 0, none⟩ (.int .i64 ((at2 : Int) + (n : Int)))) T ao cap b (at2 + n) false) := fun w2 r2 => by
      rw [← hnat]
      exact r2.setAt (by omega)
    have HD : Hid ((t.rest.drop n) = b.drop (at2 + n)) := by show _ = _; rw [RT.out, List.drop_drop]
    have hq0 : n = 0 → t.rest.take n = [] := fun e => by rw [e]; rfl
    have HQ0 : Hid (n = 0 → t.rest.take n = []) := hq0
    clear hq0
    obtain ⟨q, hq⟩ : ∃ q, q = t.rest.take n := ⟨_, rfl⟩
    have HQ : Hid (q = t.rest.take n) := hq
    rw [← hq] at CV HQ0
    clear hq
    clear hnat
    by_cases k4 : cap = at2
    · have n0 : n = 0 := by omega
      subst n0
      have MB2 : Hid (Calls Try.prog 89 #[.bool true, pt (T + 3)] w1 fun e w' => e = .returned (.tuple #[]) ∧ RdC w' T ao cap b at2 false ∧ Moved (rdT T) w1 w' ∧ w'.heap.size = w1.heap.size) := by
        have := MB.out
        rw [decide_eq_true (by omega)] at this
        exact this
      have hq := HQ0.out rfl
      have CW : Hid (∀ wx : World, (convert 89 9 (.slice ao 0 0)).run Try.prog wx = .ok (.string ⟨#[]⟩) wx) := fun wx => bytes_str (l := []) ⟨⟨ao, 0, rfl, fun h => absurd rfl h⟩, by simp⟩
      clear MB
      subst k4
      go_wp2_with (first
        | (go_at_call 89; refine MB2.out.mono ?_; rintro e w2 ⟨rfl, r2, m2, z2⟩; obtain ⟨d0, d1, d2, d3, d4, g2, g3⟩ := r2.cells; have cv := CW.out (w2.setCell ⟨T + 2, 0, none⟩ (.int .i64 (cap : Int))); clear MB2))
      go_ret
      exact ⟨rfl, ⟨cap, HD, by have := ST.out _ r2; simpa using this⟩, (m1'.out.trans m2 (fun _ _ h => h)).trans (set_moved _ _ _ (.inl rfl) _) (fun _ _ h => h), by simpa using z2.trans z1⟩
    · go_wp2_with (first
        | (go_at_call 89; refine MB.out.mono ?_; rintro e w2 ⟨rfl, r2, m2, z2⟩; obtain ⟨d0, d1, d2, d3, d4, g2, g3⟩ := r2.cells; have cv := CV.out _ r2 (cap - at2); clear MB))
      go_ret
      exact ⟨by rw [← HQ.out]; rfl, ⟨at2 + n, HD, ST.out _ r2⟩, (m1'.out.trans m2 (fun _ _ h => h)).trans (set_moved _ _ _ (.inl rfl) _) (fun _ _ h => h), by simpa using z2.trans z1⟩

set_option maxRecDepth 100000 in
set_option maxHeartbeats 4000000 in
theorem rend_c (w : World) (T : Nat) (ao : Option Addr) (cap : Nat) (b : List UInt8) (at' : Nat) (bad : Bool) (h : RdC w T ao cap b at' bad) :
    Calls Try.prog 93 #[pt (T + 4), pt (T + 2), pt T, pt (T + 3)] w fun e w' => e = .returned (errV (Bk.mst ⟨b.drop at', bad⟩ (decide (b.drop at' = []))).bad) ∧ Moved (rdT T) w w' ∧ w'.heap.size = w.heap.size := by
  obtain ⟨c0, c1, c2, c3, c4, f2, f3⟩ := h.cells
  have hat := h.hat
  have hlen := h.len
  obtain ⟨cc, hcc⟩ : ∃ cc, cc = ((at' : Int) == (b.length : Int)) := ⟨_, rfl⟩
  have hd : decide (b.drop at' = []) = cc := by
    rw [hcc]
    by_cases e : at' = b.length
    · rw [e]; simp
    · have h1 : ¬ b.drop at' = [] := fun h => by have := congrArg List.length h; rw [List.length_drop, List.length_nil] at this; omega
      rw [decide_eq_false h1]
      symm
      simp
      omega
  have MU : Hid (Calls Try.prog 89 #[.bool ((at' : Int) == (b.length : Int)), pt (T + 3)] w fun e w' => e = .returned (.tuple #[]) ∧ RdC w' T ao cap b at' (bad || !cc) ∧ Moved (rdT T) w w' ∧ w'.heap.size = w.heap.size) := by rw [← hcc]; exact must_any w T ao cap b at' bad cc h
  have HE : Hid ((Bk.mst ⟨b.drop at', bad⟩ (decide (b.drop at' = []))).bad = (bad || !cc)) := by show _ = _; rw [hd]; rfl
  rw [HE.out]
  generalize (bad || !cc) = B at MU
  clear h hd hcc HE
  go_enter Try.func93, Try.ntmps93
  go_wp2_with (first
    | (go_at_call 89; refine MU.out.mono ?_; rintro e w2 ⟨rfl, r2, m2, z2⟩; obtain ⟨d0, d1, d2, d3, d4, g2, g3⟩ := r2.cells; clear MU))
  go_ret
  exact ⟨rfl, m2, z2⟩
end Go.Proofs.Ytbdgdigpnfpnhaa
