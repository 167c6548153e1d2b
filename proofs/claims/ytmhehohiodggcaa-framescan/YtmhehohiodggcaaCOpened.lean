/-
  Sealed bytes opened: what the program's call answers, and where.
-/
import Derived.Test.YtmhehohiodggcaaCSeal
import Derived.Test.YtmhehohiodggcaaCSealed
namespace Go.Proofs.Ytmhehohiodggcaa
open Go.RowKit

theorem BytesIn.part {w : World} {b off n cap : Nat} {l : List UInt8} (h : BytesIn w (.slice (some ⟨b, off, none⟩) n cap) l) (i j : Nat) (hij : i + j ≤ l.length) (cap' : Nat) : BytesIn w (.slice (some ⟨b, off + i, none⟩) j cap') ((l.drop i).take j) := by
  obtain ⟨⟨a, c, e, hf⟩, hlen⟩ := h
  simp only [Value.slice.injEq] at e
  obtain ⟨rfl, rfl, rfl⟩ := e
  have hl : ((l.drop i).take j).length = j := by rw [List.length_take, List.length_drop]; omega
  refine ⟨⟨_, cap', by rw [hl], fun h0 => ⟨b, off + i, rfl, fun k hk => ?_⟩⟩, by omega⟩
  rw [hl] at hk
  obtain ⟨b', off', e, hat⟩ := hf (by intro e; rw [e] at hij; simp at hij; omega)
  simp only [Option.some.injEq, Addr.mk.injEq, and_true] at e
  obtain ⟨rfl, rfl⟩ := e
  have := hat (i + k) (by omega)
  rw [Nat.add_assoc, this]
  simp

theorem ext_undrew {base : Nat} {w w' : World} {v x : Value} {l : List UInt8} (h : Ext base w.drew v w' x l) : Ext base w v w' x l :=
  ⟨h.own, grownBy_undrew h.grown, h.lies⟩

set_option maxHeartbeats 1600000 in
theorem opened_short (w : World) (a0 : Option Addr) (c0 n : Nat) (hn : n < 4) :
    Calls Try.prog 29 #[.slice a0 n c0] w fun e w' => e = .returned (.tuple #[.slice none 0 0, .bool false]) ∧ Below w.heap.size w w' := by
  rcases (by omega : n = 0 ∨ n = 1 ∨ n = 2 ∨ n = 3) with rfl | rfl | rfl | rfl
  all_goals go_enter Try.func29, Try.ntmps29
  all_goals go_wp2_with (fail)
  all_goals go_quiet (fail)
  all_goals go_wp2_with (fail)
  all_goals go_ret2
  all_goals exact ⟨rfl, below_drewN (Below.refl _ _) _⟩

set_option maxHeartbeats 1600000 in
theorem opened_long (w : World) (b off c0 n : Nat) (l : List UInt8) (hl : n + 4 = l.length) (h : BytesIn w (.slice (some ⟨b, off, none⟩) (n + 4) c0) l) (hc : n + 4 ≤ c0) :
    Calls Try.prog 29 #[.slice (some ⟨b, off, none⟩) (n + 4) c0] w fun e w' => ∃ v, e = .returned (.tuple #[v, .bool (opnB l)]) ∧ Ext w.heap.size w (.slice none 0 0) w' v (opnL l) := by
  have hn : n ≤ 140737488355328 := by have := h.len; omega
  have hd : (l.drop n).length = 4 := by rw [List.length_drop]; omega
  obtain ⟨x, hx⟩ : ∃ x, x = num4 (l.drop n) := ⟨_, rfl⟩
  obtain ⟨y, hy⟩ : ∃ y, y = Crc.sum (l.take n) := ⟨_, rfl⟩
  have OB : Hid (opnB l = decide (x = y)) := by
    show _ = _
    unfold opnB
    rw [← hl, show n + 4 - 4 = n from by omega, ← hx, ← hy]
    simp
  have OL : Hid (opnL l = if decide (x = y) = true then l.take n else []) := by
    show _ = _
    unfold opnL
    rw [OB.out, ← hl, show n + 4 - 4 = n from by omega]
  have SE : Hid (∀ wx c, Below w.heap.size w wx → Calls Try.prog 40 #[.slice (some ⟨b, off + n, none⟩) 4 c] wx fun e w' => e = .returned (.int .u32 (x : Int)) ∧ w' = wx) := fun wx c hw => by
    rw [hx]
    refine seal_any wx _ _ ?_ hd
    have := (h.later hw).part n 4 (by omega) c
    rwa [List.take_of_length_le (by omega)] at this
  have SU : Hid (∀ wx c, Below w.heap.size w wx → Calls Try.prog 41 #[.slice (some ⟨b, off, none⟩) n c] wx fun e w' => e = .returned (.int .u32 (y : Int)) ∧ w' = wx) := fun wx c hw => by
    rw [hy]
    exact sum_any wx _ _ ((h.later hw).part 0 n (by omega) c)
  have MK := make_bytes n hn (n : Int) rfl
  have T0 : Hid (l.take n = l.take n ++ List.replicate (n - (n + 4)) 0) := by show _ = _; rw [show n - (n + 4) = 0 from by omega]; simp
  have TL : Hid (n = (l.take n).length) := by show _ = _; rw [List.length_take]; omega
  have LE : Hid (n + 4 = l.length) := hl
  obtain ⟨m, hm⟩ : ∃ m, m = l.take n := ⟨_, rfl⟩
  have HM : Hid (m = l.take n) := hm
  have i2 : (n : Int) ≤ (c0 : Int) := by omega
  have i3 : (n : Int) + 4 ≤ (c0 : Int) := by omega
  have i4 : (n : Int) ≤ (n : Int) + 4 := by omega
  have i5 : ¬ (c0 = n) := by omega
  clear hx hy hl hd hm
  have hD : Below w.heap.size w w.drew := (Below.refl _ _).drew
  have hin : BytesIn w.drew (.slice (some ⟨b, off, none⟩) (n + 4) c0) l := h.later hD
  rw [OB.out, OL.out]
  clear OB OL h
  by_cases hxy : x = y
  · subst hxy
    have c1 : ((x : Int) != (x : Int)) = false := by simp
    have E1 : Hid ((if decide (x = x) = true then l.take n else []) = m) := by show _ = _; rw [HM.out]; simp
    rw [E1.out, decide_eq_true rfl]
    have HT : Hid (m = l.take n ++ List.replicate (n - (n + 4)) 0) := by show _ = _; rw [HM.out]; exact T0.out
    have ML : Hid (n = m.length) := by show _ = _; rw [HM.out]; exact TL.out
    clear T0 TL HM E1
    go_enter Try.func29, Try.ntmps29
    go_wp2_with (fail)
    go_region_held3 (fun _ => True) (trivial)
      (first
        | (go_at_call 40; first | refine (SE.out _ _ (Below.refl _ _)).mono ?_ | refine (SE.out _ _ (Below.refl _ _).drew).mono ?_; rintro e w1 ⟨rfl, rfl⟩)
        | (go_at_call 41; first | refine (SU.out _ _ (Below.refl _ _)).mono ?_ | refine (SU.out _ _ (Below.refl _ _).drew).mono ?_; rintro e w1 ⟨rfl, rfl⟩))
    clear SE SU
    go_wp2_with (refine wpList_copy_in _ rfl _ _ rfl w.drew n (n + 4) c0 l m rfl rfl _ rfl LE.out hin HT.out hn ?_; intro w2 r2 o2 g2; clear hin)
    go_ret2
    exact ⟨_, rfl, ext_undrew (ext_of_own o2 ML.out g2)⟩
  · have c1 : ((x : Int) != (y : Int)) = true := by simp; omega
    have E1 : Hid ((if decide (x = y) = true then l.take n else []) = []) := by show _ = _; simp [hxy]
    rw [E1.out, decide_eq_false hxy]
    clear hin MK
    go_enter Try.func29, Try.ntmps29
    go_wp2_with (fail)
    go_region_held3 (fun _ => True) (trivial)
      (first
        | (go_at_call 40; first | refine (SE.out _ _ (Below.refl _ _)).mono ?_ | refine (SE.out _ _ (Below.refl _ _).drew).mono ?_; rintro e w1 ⟨rfl, rfl⟩)
        | (go_at_call 41; first | refine (SU.out _ _ (Below.refl _ _)).mono ?_ | refine (SU.out _ _ (Below.refl _ _).drew).mono ?_; rintro e w1 ⟨rfl, rfl⟩))
    clear SE SU
    go_wp2_with (fail)
    go_ret2
    exact ⟨_, rfl, World.ownsRow_nil _ _ _ _, ⟨hD.os, hD.tape, hD.output, hD.size, fun i hi _ => hD.block i hi⟩, .inl rfl⟩

theorem opened_any (w : World) (a0 : Option Addr) (c0 : Nat) (l : List UInt8) (h : BytesIn w (.slice a0 l.length c0) l) (hc : l.length ≤ c0) :
    Calls Try.prog 29 #[.slice a0 l.length c0] w fun e w' => ∃ v, e = .returned (.tuple #[v, .bool (opnB l)]) ∧ Ext w.heap.size w (.slice none 0 0) w' v (opnL l) := by
  by_cases h4 : 4 ≤ l.length
  · obtain ⟨n, hn⟩ : ∃ n, l.length = n + 4 := ⟨l.length - 4, by omega⟩
    have hne : l ≠ [] := by intro e; rw [e] at h4; simp at h4
    have h' := h
    obtain ⟨⟨a, cap, e, hf⟩, hlen⟩ := h
    simp only [Value.slice.injEq, true_and] at e
    obtain ⟨rfl, rfl⟩ := e
    obtain ⟨b, off, rfl, _⟩ := hf hne
    rw [hn] at h' ⊢
    exact opened_long w b off c0 n l hn.symm h' (by omega)
  · refine (opened_short w a0 c0 l.length (by omega)).mono ?_
    rintro e w' ⟨rfl, hb⟩
    have e1 : opnB l = false := by unfold opnB; rw [decide_eq_false h4]; rfl
    have e2 : opnL l = [] := by unfold opnL; rw [e1]; rfl
    rw [e1, e2]
    exact ⟨_, rfl, World.ownsRow_nil _ _ _ _, ⟨hb.os, hb.tape, hb.output, hb.size, fun i hi _ => hb.block i hi⟩, .inl rfl⟩
end Go.Proofs.Ytmhehohiodggcaa
