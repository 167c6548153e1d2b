/-
  One list taken out of a list of lists that the call owns: slices.Delete.
-/
import Derived.Test.YtbdgdigpnfpnhaaBLent
import Derived.Deep.RegionLaw
import Derived.Lib.SliceRun
namespace Go.Proofs.Ytbdgdigpnfpnhaa
open Go.RowKit

/-- Values put over those from a place on. -/
def over : List Value → Nat → List Value → List Value
  | xs, _, [] => xs
  | xs, o, v :: vs => over (xs.set o v) (o + 1) vs
theorem over_is : ∀ (vs xs : List Value) (o : Nat), o + vs.length ≤ xs.length → over xs o vs = xs.take o ++ (vs ++ xs.drop (o + vs.length))
  | [], xs, o, _ => by simp [over]
  | v :: vs, xs, o, h => by
    rw [List.length_cons] at h
    have h1 : o < xs.length := by omega
    rw [over, over_is vs (xs.set o v) (o + 1) (by rw [List.length_set]; omega), List.length_cons, List.drop_set_of_lt (by omega), List.take_set]
    have e : (xs.take (o + 1)).set o v = xs.take o ++ [v] := by
      rw [List.take_succ_eq_append_getElem h1, List.set_append_right _ _ (by rw [List.length_take]; omega), List.length_take, Nat.min_eq_left (by omega), Nat.sub_self]
      rfl
    rw [e, show o + 1 + vs.length = o + (vs.length + 1) from by omega]
    simp

theorem own_over {base g n cap e : Nat} : ∀ (vs xs : List Value) (o : Nat) (w : World), w.ownsRow base e 1 (.slice (some ⟨g, 0, none⟩) n cap) n xs → (w.setCells g o vs).ownsRow base e 1 (.slice (some ⟨g, 0, none⟩) n cap) n (over xs o vs) ∧ w.grownBy (w.setCells g o vs) (some g)
  | [], _, _, w, h => ⟨h, World.grownBy.refl _ _⟩
  | v :: vs, xs, o, w, h => by
    obtain ⟨s1, s2⟩ := h.stored o v
    obtain ⟨t1, t2⟩ := own_over vs (xs.set o v) (o + 1) _ s1
    have hb : w.grownBy ((w.setCell ⟨g, o, none⟩ v).setCells g (o + 1) vs) (some g) :=
      ⟨t2.os.trans s2.os, t2.tape.trans s2.tape, t2.output.trans s2.output, Nat.le_trans s2.size t2.size, fun i hi hne => (t2.block i (Nat.lt_of_lt_of_le hi s2.size) hne).trans (s2.block i hi hne)⟩
    exact ⟨t1, hb⟩

theorem erase_over (xs : List Value) (i : Nat) (z : Value) (h : i < xs.length) : (over (over xs i (xs.drop (i + 1))) (xs.length - 1) [z]).take (xs.length - 1) = xs.eraseIdx i := by
  have h1 : i + (xs.drop (i + 1)).length = xs.length - 1 := by rw [List.length_drop]; omega
  have e1 := over_is (xs.drop (i + 1)) xs i (by omega)
  have l1 : (over xs i (xs.drop (i + 1))).length = xs.length := by
    rw [e1]; simp only [List.length_append, List.length_take, List.length_drop]; omega
  have e2 := over_is [z] (over xs i (xs.drop (i + 1))) (xs.length - 1) (by rw [l1, List.length_singleton]; omega)
  rw [e2, List.take_append_of_le_length (by rw [List.length_take, l1]; omega), List.take_take, Nat.min_self, e1, ← List.append_assoc, List.take_append_of_le_length (by rw [List.length_append, List.length_take]; omega), List.take_of_length_le (by rw [List.length_append, List.length_take]; omega), List.eraseIdx_eq_take_drop_succ]

theorem infoLE2 : (Try.prog.info? 23).map (fun i => (i.zero, i.size, i.bytes)) = some (some (.slice none 0 0), 1, 24) := by kernel_rfl
theorem zeroLE (w : World) : (zeroValue 23).run Try.prog w = .ok (.slice none 0 0) w := by
  obtain ⟨i0, hi, hz0, _, _⟩ := info_parts infoLE2
  simp [zeroValue, typeInfo, hi, hz0]

set_option maxRecDepth 100000 in
set_option maxHeartbeats 4000000 in
theorem delete_any (w : World) (base g n cap i : Nat) (xs : List Value) (hn : n = xs.length) (ho : w.ownsRow base 23 1 (.slice (some ⟨g, 0, none⟩) n cap) n xs) (h1 : ∀ u ∈ xs, u.oneCell' = true) (hi : i < n) (hnc : n ≤ cap) (_hcap : cap ≤ 9223372036854775807) :
    Calls Try.prog 64 #[.slice (some ⟨g, 0, none⟩) n cap, .int .i64 (i : Int), .int .i64 ((i : Int) + 1)] w fun e w' => e = .returned (.slice (some ⟨g, 0, none⟩) (n - 1) cap) ∧ w'.ownsRow base 23 1 (.slice (some ⟨g, 0, none⟩) (n - 1) cap) (n - 1) (xs.eraseIdx i) ∧ w.grownBy w' (some g) := by
  obtain ⟨i0, hi0, hz0, hz1, hz2⟩ := info_parts infoLE2
  obtain ⟨news, hnews⟩ : ∃ news, news = xs.drop (i + 1) := ⟨_, rfl⟩
  have hlen : news.length = n - (i + 1) := by rw [hnews, List.length_drop, hn]
  have cellX : ∀ j (h : j < xs.length), w.cell? ⟨g, j, none⟩ = some xs[j] := fun j h => by rw [ho.cellAt j (by omega), List.getElem?_eq_getElem h]
  obtain ⟨A, hA, hsrc⟩ : ∃ A : Addr, (if cap = i + 1 then some (⟨g, 0, none⟩ : Addr) else some ⟨g, i + 1, none⟩) = some A ∧ Hid (∀ t u, news[t]? = some u → w.drew.cell? (A.add t) = some u) := by
    by_cases h : cap = i + 1
    · refine ⟨⟨g, 0, none⟩, by simp [h], fun t u hu => ?_⟩
      rw [List.length_eq_zero_iff.1 (show news.length = 0 by omega)] at hu
      simp at hu
    · refine ⟨⟨g, i + 1, none⟩, by simp [h], fun t u hu => ?_⟩
      obtain ⟨ht, hu'⟩ := List.getElem?_eq_some_iff.1 hu
      have hadd : (⟨g, i + 1, none⟩ : Addr).add t = ⟨g, i + 1 + t, none⟩ := by unfold Addr.add; split <;> simp_all
      rw [hadd]
      show w.cell? _ = _
      rw [cellX (i + 1 + t) (by omega), ← hu']
      congr 1
      simp [hnews]
  have s1 : Hid (news.length = (n - (i + 1)) * 1) := by rw [Nat.mul_one]; exact hlen
  have s2 : Hid (∀ u ∈ news, u.oneCell' = true) := fun u hu => h1 u (by rw [hnews] at hu; exact List.mem_of_mem_drop hu)
  have s3 : Hid (∀ t, t < news.length → (w.drew.cell? ⟨g, 0 + i * 1 + t, none⟩).isSome = true ∧ w.drew.frozen? ⟨g, 0 + i * 1 + t, none⟩ = false) := fun t ht => by
    refine ⟨?_, ho.frozenAt _⟩
    show (w.cell? _).isSome = true
    rw [show 0 + i * 1 + t = i + t by omega, cellX (i + t) (by omega)]
    rfl
  obtain ⟨W1, hW1⟩ : ∃ W1, W1 = w.drew.setCells g (0 + i * 1) news := ⟨_, rfl⟩
  obtain ⟨r1, g1⟩ := own_over news xs i w.drew (e := 23) (base := base) (g := g) (n := n) (cap := cap) ho.drew
  have hW1' : W1 = w.drew.setCells g i news := by rw [hW1, show 0 + i * 1 = i by omega]
  rw [← hW1'] at r1 g1
  obtain ⟨r2, g2⟩ := own_over [Value.slice none 0 0] (over xs i news) (n - 1) W1 r1
  have hl1 : (over xs i news).length = n := by have := r1.1; omega
  have hcl : ∀ ty, (Builtin.clear_ #[51] ty #[.slice (some ⟨g, n - 1, none⟩) 1 (cap - (n - 1))]).run Try.prog W1 = .ok (.tuple #[]) (W1.setCells g (n - 1) [.slice none 0 0]) :=
    fun ty => Lib.run_clear_slice W1 _ _ ty _ Try.underlying51 zeroLE rfl rfl g (n - 1) 1 _ (by decide) (fun t ht => by rw [show n - 1 + t = n - 1 by omega, r1.cellAt (n - 1) (by omega), List.getElem?_eq_getElem (by omega)]; rfl) (fun t ht => r1.frozenAt _)
  have FIN : Hid ((W1.setCells g (n - 1) [.slice none 0 0]).ownsRow base 23 1 (.slice (some ⟨g, 0, none⟩) (n - 1) cap) (n - 1) (xs.eraseIdx i) ∧ w.grownBy (W1.setCells g (n - 1) [.slice none 0 0]) (some g)) := by
    refine ⟨⟨by rw [List.length_eraseIdx, if_pos (by omega)]; omega, .inr ?_⟩, grownBy_undrew (⟨g2.os.trans g1.os, g2.tape.trans g1.tape, g2.output.trans g1.output, Nat.le_trans g1.size g2.size, fun k hk hne => (g2.block k (Nat.lt_of_lt_of_le hk g1.size) hne).trans (g1.block k hk hne)⟩ : w.drew.grownBy _ (some g))⟩
    rcases r2.2 with ⟨e, _⟩ | ⟨g', cap', cur, e, q1, q2, q3, q4, q5, q6⟩
    · cases e
    · simp only [Value.slice.injEq, Option.some.injEq, Addr.mk.injEq, and_true, true_and] at e
      obtain ⟨rfl, rfl⟩ := e
      refine ⟨g, cap, cur, rfl, q1, q2, by omega, q4, q5, ?_⟩
      have e1 := erase_over xs i (.slice none 0 0) (by omega)
      rw [← hnews, ← hn] at e1
      rw [← e1, ← q6, List.take_take, Nat.mul_one, Nat.mul_one, Nat.min_eq_left (by omega)]
  have hW : Hid (W1 = w.drew.setCells g (0 + i * 1) news) := hW1
  have i1 : (i : Int) ≤ (i : Int) + 1 := by omega
  have i2 : (i : Int) + 1 ≤ (n : Int) := by omega
  have i3 : (n : Int) ≤ (cap : Int) := by omega
  have i4 : ((i : Int) == (i : Int) + 1) = false := by simp; omega
  have i5 : (i : Int) ≤ (cap : Int) := by omega
  have i7 : (0 : Int) ≤ (i : Int) + 1 := by omega
  have i6 : i + (n - (i + 1)) = n - 1 := by omega
  clear hW1 hW1' r1 r2 g1 g2 hnews hlen cellX hl1 hn h1 ho
  go_enter Try.func64, Try.ntmps64
  go_wp2_with (fail)
  go_region_law (refine step_append_room rfl (.tmp 22) (.tmp 25) 51 rfl 23 i0 1 Try.underlying51 hi0 hz1 g 0 i cap (by simp [Act.eval, Act.put]) A (n - (i + 1)) (cap - (i + 1)) news (by simp [Act.eval, Act.put]) s1.out hsrc.out s2.out (by omega) s3.out ?_; rw [← hW.out])
  have i8 : n - (n - 1) = 1 := by omega
  have i9 : ¬ cap = n - 1 := by omega
  have i10 : ((n - 1 : Nat) : Int) ≤ (n : Int) := by omega
  go_wp2_with (fail)
  go_ret
  exact ⟨rfl, FIN.out.1, FIN.out.2⟩
end Go.Proofs.Ytbdgdigpnfpnhaa
