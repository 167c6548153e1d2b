/-
  The order of entries as the statements ask it; the puts of entries.
-/
import Derived.Test.YtmkchjgckmdmcaaBFold
import Derived.Test.YtmkchjgckmdmcaaBChk
namespace Go.Proofs.Ytmkchjgckmdmcaa
open Go.RowKit

set_option maxHeartbeats 1600000 in
theorem rahead_any (w : World) (a b : Mm.Ent) : Calls Try.prog 68 #[entV a, entV b] w fun e w' => e = .returned (.bool (Mm.ahead a b)) ∧ Below w.heap.size w w' := by
  obtain ⟨k, v, s, d⟩ := a
  obtain ⟨k', v', s', d'⟩ := b
  unfold Mm.ahead entV
  simp only
  by_cases hk : k = k'
  · subst hk
    have hB : Op.bytesLess k k = false := Mm.bl_irrefl k
    rw [if_pos rfl]
    by_cases hs : s' < s
    · have i1 : s > s' := hs
      rw [decide_eq_true hs]
      go_enter Try.func68, Try.ntmps68
      go_wp2_with (fail)
      go_ret
      exact ⟨rfl, ((Below.refl _ _).alloc (Nat.le_refl _) _).alloc (by simp) _⟩
    · have i1 : ¬ s > s' := hs
      rw [decide_eq_false hs]
      go_enter Try.func68, Try.ntmps68
      go_wp2_with (fail)
      go_ret
      exact ⟨rfl, ((Below.refl _ _).alloc (Nat.le_refl _) _).alloc (by simp) _⟩
  · rw [if_neg hk]
    have q : (k == k') = false := by simp [hk]
    cases hB : Op.bytesLess k k' with
    | true =>
      go_enter Try.func68, Try.ntmps68
      go_wp2_with (fail)
      go_ret
      exact ⟨rfl, ((Below.refl _ _).alloc (Nat.le_refl _) _).alloc (by simp) _⟩
    | false =>
      go_enter Try.func68, Try.ntmps68
      go_wp2_with (fail)
      go_ret
      exact ⟨rfl, ((Below.refl _ _).alloc (Nat.le_refl _) _).alloc (by simp) _⟩

set_option maxRecDepth 100000 in
set_option maxHeartbeats 4000000 in
theorem rinOrder_any (w : World) (a : Option Addr) (c n : Nat) (l : List Mm.Ent) (h : EntsAt w (.slice a n c) l) (hn : n = l.length) (hl : n ≤ 1000000) (S : Bool) (HS : Hid (S = Bk.inOrd l)) :
    Calls Try.prog 59 #[.slice a n c] w fun e w' => e = .returned (.bool S) ∧ Below w.heap.size w w' := by
  have H : Hid _ := h
  have HN : Hid (n = l.length) := hn
  clear h hn
  go_enter Try.func59, Try.ntmps59
  go_wp2_with (fail)
  go_loopw [3] (fun i wr => Below w.heap.size w wr ∧ ∃ m : Nat, i = .int .i64 (m + 1 : Nat) ∧ Hid (∀ k (h : k + 1 < l.length), k < m → Mm.ahead l[k] l[k + 1] = true)) (fun i _ => n - (intOf i).toNat)
  case atStart => exact ⟨Below.refl _ _, 0, rfl, fun k _ h => absurd h (by omega)⟩
  case round =>
    obtain ⟨bx, m, rfl, HT⟩ := hrel
    by_cases hlt : m + 1 < n
    · have jl : m + 1 < l.length := by have := HN.out; omega
      have jl0 : m < l.length := by omega
      obtain ⟨b, off, rfl⟩ := H.out.some (by omega)
      have AH : Hid (∀ wx, Calls Try.prog 68 #[entV l[m], entV l[m + 1]] wx fun r w' => r = .returned (.bool (Mm.ahead l[m] l[m + 1])) ∧ Below wx.heap.size wx w') := fun wx => rahead_any wx _ _
      have KC : Hid (∀ wx, Below wr.heap.size wr wx → (wx.cell? ⟨b, off + m * 4, none⟩ = some (str l[m].key) ∧ wx.cell? ⟨b, off + m * 4 + 1, none⟩ = some (str l[m].value) ∧ wx.cell? ⟨b, off + m * 4 + 2, none⟩ = some (.int .i64 l[m].seq) ∧ wx.cell? ⟨b, off + m * 4 + 3, none⟩ = some (.bool l[m].del)) ∧ wx.cell? ⟨b, off + (m + 1) * 4, none⟩ = some (str l[m + 1].key) ∧ wx.cell? ⟨b, off + (m + 1) * 4 + 1, none⟩ = some (str l[m + 1].value) ∧ wx.cell? ⟨b, off + (m + 1) * 4 + 2, none⟩ = some (.int .i64 l[m + 1].seq) ∧ wx.cell? ⟨b, off + (m + 1) * 4 + 3, none⟩ = some (.bool l[m + 1].del)) := fun wx hw => ⟨((H.out.later bx).later hw).cells m jl0, ((H.out.later bx).later hw).cells (m + 1) jl⟩
      have P1 := KC.out wr.drew (Below.refl _ _).drew
      have qk : (m : Int) + 1 < (n : Int) := by omega
      have mk : (m : Int) < (n : Int) := by omega
      have m0 : (0 : Int) ≤ (m : Int) + 1 := by omega
      have m3 : (0 : Int) ≤ (m : Int) := by omega
      have wm : IntKind.i64.wrap (m : Int) = (m : Int) := by rw [IntKind.wrap_i64]; omega
      have wm1 : IntKind.i64.wrap ((m : Int) + 1) = (m : Int) + 1 := by rw [IntKind.wrap_i64]; omega
      have FN : Hid (Mm.ahead l[m] l[m + 1] = false → S = false) := fun hf => by
        rw [HS.out]
        cases hI : Bk.inOrd l with
        | false => rfl
        | true => have := (Bk.inOrd_iff l).1 hI m jl; rw [hf] at this; cases this
      have FT : Hid (Mm.ahead l[m] l[m + 1] = true → ∀ k (h : k + 1 < l.length), k < m + 1 → Mm.ahead l[k] l[k + 1] = true) := fun ht k h hk => by
        by_cases e : k = m
        · subst e; exact ht
        · exact HT.out k h (by omega)
      obtain ⟨A, hA⟩ : ∃ A, A = Mm.ahead l[m] l[m + 1] := ⟨_, rfl⟩
      rw [← hA] at AH FN FT
      generalize l[m] = x1 at *
      generalize l[m + 1] = x2 at *
      clear H HS HN HT jl jl0 hA
      rw [show ((m + 1 : Nat) : Int) = (m : Int) + 1 by omega]
      cases A with
      | true =>
        have FQ : Hid (∀ k (h : k + 1 < l.length), k < m + 1 → Mm.ahead l[k] l[k + 1] = true) := FT.out rfl
        clear FN FT
        go_wp2_with (fail)
        go_region_held3 (fun wx => (wx.cell? ⟨b, off + m * 4, none⟩ = some (str x1.key) ∧ wx.cell? ⟨b, off + m * 4 + 1, none⟩ = some (str x1.value) ∧ wx.cell? ⟨b, off + m * 4 + 2, none⟩ = some (.int .i64 x1.seq) ∧ wx.cell? ⟨b, off + m * 4 + 3, none⟩ = some (.bool x1.del)) ∧ wx.cell? ⟨b, off + (m + 1) * 4, none⟩ = some (str x2.key) ∧ wx.cell? ⟨b, off + (m + 1) * 4 + 1, none⟩ = some (str x2.value) ∧ wx.cell? ⟨b, off + (m + 1) * 4 + 2, none⟩ = some (.int .i64 x2.seq) ∧ wx.cell? ⟨b, off + (m + 1) * 4 + 3, none⟩ = some (.bool x2.del))
          (first | exact P1 | exact P2)
          (first
            | (go_at_call 68; refine (AH.out _).mono ?_; rintro r w8 ⟨rfl, b8⟩; have D8 := (Below.refl wr.heap.size wr).drew.trans b8; have P2 := KC.out _ D8))
        go_wp2_with (fail)
        exact ⟨⟨bx.trans (D8.mono bx.size), m + 1, by go_num, FQ⟩, by simp [intOf]; omega⟩
      | false =>
        have HF : Hid (S = false) := FN.out rfl
        clear FN FT
        go_wp2_with (fail)
        go_region_held3 (fun wx => (wx.cell? ⟨b, off + m * 4, none⟩ = some (str x1.key) ∧ wx.cell? ⟨b, off + m * 4 + 1, none⟩ = some (str x1.value) ∧ wx.cell? ⟨b, off + m * 4 + 2, none⟩ = some (.int .i64 x1.seq) ∧ wx.cell? ⟨b, off + m * 4 + 3, none⟩ = some (.bool x1.del)) ∧ wx.cell? ⟨b, off + (m + 1) * 4, none⟩ = some (str x2.key) ∧ wx.cell? ⟨b, off + (m + 1) * 4 + 1, none⟩ = some (str x2.value) ∧ wx.cell? ⟨b, off + (m + 1) * 4 + 2, none⟩ = some (.int .i64 x2.seq) ∧ wx.cell? ⟨b, off + (m + 1) * 4 + 3, none⟩ = some (.bool x2.del))
          (first | exact P1 | exact P2)
          (first
            | (go_at_call 68; refine (AH.out _).mono ?_; rintro r w8 ⟨rfl, b8⟩; have D8 := (Below.refl wr.heap.size wr).drew.trans b8; have P2 := KC.out _ D8))
        go_wp2_with (fail)
        go_ret
        exact ⟨by rw [HF.out]; rfl, bx.trans (D8.mono bx.size)⟩
    · have i3 : ¬ ((m + 1 : Nat) : Int) < (n : Int) := by omega
      have HF : Hid (S = true) := by
        show _ = _
        rw [HS.out, Bk.inOrd_iff]
        exact fun k hk => HT.out k hk (by have := HN.out; omega)
      clear HT H HN HS
      go_wp2_with (fail)
      go_ret
      exact ⟨by rw [HF.out]; rfl, bx⟩


theorem linOrder_any (w : World) (a : Option Addr) (c n : Nat) (l : List Mm.Ent) (h : EntsAt w (.slice a n c) l) (hn : n = l.length) (hl : n ≤ 1000000) :
    Calls Try.prog 28 #[.slice a n c] w fun e w' => e = .returned (.bool (Bk.inOrd l)) ∧ Below w.heap.size w w' := by
  have IO := hide (rinOrder_any w a c n l h hn hl _ rfl)
  generalize Bk.inOrd l = I at *
  clear h hn
  go_enter Try.func28, Try.ntmps28
  go_wp2_with (first
    | (go_at_call 59; refine IO.out.mono ?_; rintro e w1 ⟨rfl, b1⟩))
  go_ret
  exact ⟨rfl, b1⟩

theorem up_inOrd {l : List Mm.Ent} (h : Bk.inOrd l = true) : Mm.Up l := by
  induction l with
  | nil => exact List.Pairwise.nil
  | cons a r ih =>
    cases r with
    | nil => exact List.pairwise_singleton _ _
    | cons b r =>
      rw [Bk.inOrd, Bool.and_eq_true] at h
      have hr := ih h.2
      refine List.pairwise_cons.2 ⟨fun x hx => ?_, hr⟩
      rcases List.mem_cons.1 hx with rfl | hx
      · exact h.1
      · exact Mm.ahead_trans h.1 ((List.pairwise_cons.1 hr).1 x hx)

set_option maxRecDepth 100000 in
set_option maxHeartbeats 4000000 in
theorem puts_any (w : World) (a : Option Addr) (c n : Nat) (l : List Mm.Ent) (h : EntsAt w (.slice a n c) l) (hn : n = l.length) (hl : n ≤ 100000) :
    Calls Try.prog 37 #[.slice a n c] w fun e w' => ∃ v, e = .returned v ∧ w'.ownsRow w.heap.size 27 4 v (Bk.putsL l).length (ecs (Bk.putsL l)) ∧ Below w.heap.size w w' := by
  obtain ⟨i0, hi, hz0, hz1, hz2⟩ := info_parts infoE
  have H := hide h
  have HN : Hid (n = l.length) := hn
  clear h hn
  go_enter Try.func37, Try.ntmps37
  go_wp2_with (fail)
  go_loopw [3, 4] (fun v i wr => ∃ j : Nat, j ≤ n ∧ i = .int .i64 j ∧ wr.ownsRow w.heap.size 27 4 v (Bk.putsL (l.take j)).length (ecs (Bk.putsL (l.take j))) ∧ Below w.heap.size w wr) (fun _ i _ => n - (intOf i).toNat)
  case atStart => exact ⟨0, Nat.zero_le _, rfl, World.ownsRow_nil _ _ _ _, Below.refl _ _⟩
  case round =>
    obtain ⟨j, hj, rfl, o, bx⟩ := hrel
    by_cases hlt : j < n
    · have jl : j < l.length := by have := HN.out; omega
      obtain ⟨b, off, rfl⟩ := (H.out).some (by omega)
      obtain ⟨c0, c1, c2, c3⟩ := (H.out.later bx).cells j jl
      have HP : Hid (Bk.putsL (l.take (j + 1)) = if l[j].del then Bk.putsL (l.take j) else Bk.putsL (l.take j) ++ [l[j]]) := by
        show _ = _
        unfold Bk.putsL
        rw [List.take_succ_eq_append_getElem jl, List.filter_append]
        cases hd : l[j].del <;> simp [hd]
      have hlo : (Bk.putsL (l.take j)).length ≤ n := by
        have := List.length_filter_le (fun x : Mm.Ent => !x.del) (l.take j)
        rw [List.length_take] at this
        show ((l.take j).filter _).length ≤ n
        omega
      generalize Bk.putsL (l.take j) = oo at *
      generalize l[j] = x at *
      obtain ⟨K, V, Q, D⟩ := x
      simp only at c0 c1 c2 c3 HP
      have CN : Hid (∀ W : World, ∀ B, B = W.heap.size → ∀ i u, (ecs [⟨K, V, Q, D⟩])[i]? = some u → (W.alloc (.cells #[str K, str V, .int .i64 Q, .bool D] 27)).cell? ((⟨B, 0, none⟩ : Addr).add i) = some u) := fun W B hB => ec_new W ⟨K, V, Q, D⟩ B hB
      have HL : Hid ((ecs [⟨K, V, Q, D⟩]).length = 1 * 4) := rfl
      have HO : Hid (∀ u ∈ ecs [⟨K, V, Q, D⟩], u.oneCell' = true) := ecs_one _
      have Z1 : Hid (oo.length + 1 ≤ maxLen) := by show _ ≤ _; unfold maxLen; omega
      have Z2 : Hid ((oo.length + 1) * 48 ≤ 140737488355328) := by show _ ≤ _; omega
      have O1 := hide o
      cases D with
      | true =>
        have HT : Hid (Bk.putsL (l.take (j + 1)) = oo) := HP.out
        clear HP CN HL HO Z1 Z2 o
        go_wp2_with (fail)
        refine ⟨⟨j + 1, by omega, by go_num, ?_, bx⟩, by simp [intOf]; omega⟩
        rw [HT.out]
        exact O1.out
      | false =>
        have HT : Hid (Bk.putsL (l.take (j + 1)) = oo ++ [⟨K, V, Q, false⟩]) := HP.out
        clear HP o
        go_wp2_with (first
          | (at_builtin; refine wpList_append_lies _ rfl _ _ 22 rfl w.heap.size 27 i0 _ 4 48 Try.underlying22 hi hz0 hz1 hz2 rfl (by decide) _ oo.length _ rfl (O1.out.alloc _) ⟨wr.heap.size, 0, none⟩ 1 1 (ecs [⟨K, V, Q, false⟩]) rfl HL.out (CN.out _ _ rfl) HO.out (by decide) Z1.out Z2.out (by have := bx.size; simp; omega) _ rfl ?_; intro g7 cap7 w7 o7 h7 l7 lt7))
        have B7 : Below w.heap.size w w7 := (bx.alloc bx.size _).grown h7 (by have := bx.size; simp; omega) (fun k hk => (O1.out.lt k hk).1)
        refine ⟨⟨j + 1, by omega, by go_num, ?_, B7⟩, by simp [intOf]; omega⟩
        rw [HT.out, ecs_append, List.length_append]
        exact o7
    · have e : j = n := by omega
      subst e
      have i3 : ¬ (j : Int) < (j : Int) := by omega
      rw [List.take_of_length_le (by have := HN.out; omega)] at o
      clear H HN
      go_wp2_with (fail)
      go_ret
      exact ⟨_, rfl, o, bx⟩
end Go.Proofs.Ytmkchjgckmdmcaa
