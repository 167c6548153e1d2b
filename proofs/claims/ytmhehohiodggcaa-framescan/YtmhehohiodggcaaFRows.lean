/-
  Records' frames, one behind the other, and where each ends, as the statements of the layer make them.
-/
import Derived.Test.YtmhehohiodggcaaKRecsAt
import Derived.Test.YtmhehohiodggcaaFAppend
import Derived.Test.YtmhehohiodggcaaScn
import Derived.OwnWalk
namespace Go.Proofs.Ytmhehohiodggcaa
open Go.RowKit

def smallB (rs : List (List UInt8)) : Bool := (rs.all fun r => decide (r.length ≤ 400)) && decide (rs.length ≤ 40)
theorem smallB_all {rs : List (List UInt8)} (h : smallB rs = true) : (∀ r ∈ rs, r.length ≤ 400) ∧ rs.length ≤ 40 := by
  unfold smallB at h
  rw [Bool.and_eq_true, List.all_eq_true, decide_eq_true_iff] at h
  exact ⟨fun r hr => of_decide_eq_true (h.1 r hr), h.2⟩

set_option maxHeartbeats 1600000 in
theorem small_any (w : World) (v : Value) (rs : List (List UInt8)) (h : RecsAt w v rs) :
    Calls Try.prog 25 #[v] w fun e w' => e = .returned (.bool (smallB rs)) ∧ w' = w := by
  have H1 : Hid (RecsAt w v rs) := h
  obtain ⟨a, cap, rfl, g2, g3, -, -⟩ := h
  go_enter Try.func25, Try.ntmps25
  go_wp2_with (fail)
  go_loopw [3] (fun i wr => ∃ j : Nat, j ≤ rs.length ∧ i = .int .i64 j ∧ wr = w ∧ Hid (∀ k (hk : k < rs.length), k < j → (rs[k]).length ≤ 400)) (fun i _ => rs.length - (intOf i).toNat)
  case atStart => exact ⟨0, Nat.zero_le _, rfl, rfl, fun k _ h => by omega⟩
  case round =>
    obtain ⟨j, hj, rfl, rfl, HA⟩ := hrel
    by_cases hlt : j < rs.length
    · have hlti : (j : Int) < (rs.length : Int) := by omega
      obtain ⟨b, off, ad, c, rfl, d0, u0⟩ := H1.out.get j hlt
      obtain ⟨_, c', e', hc1, hc2, _⟩ := u0
      obtain ⟨m, hm⟩ : ∃ m, m = (rs[j]).length := ⟨_, rfl⟩
      have hmx : m ≤ 9223372036854775807 := by rw [hm]; omega
      rw [← hm] at d0
      clear hc1 e'
      by_cases h4 : m ≤ 400
      · have i4 : ¬ (m : Int) > 400 := by omega
        have HA2 : Hid (∀ k (hk : k < rs.length), k < j + 1 → (rs[k]).length ≤ 400) := fun k hk hkj => by
          rcases Nat.lt_or_ge k j with h | h
          · exact HA.out k hk h
          · have : k = j := by omega
            subst this
            omega
        clear HA hm H1
        go_wp2_with (fail)
        exact ⟨⟨j + 1, by omega, by go_num, trivial, HA2⟩, by simp [intOf]; omega⟩
      · have i4 : (m : Int) > 400 := by omega
        have HB : Hid (smallB rs = false) := by
          show _ = _
          rw [Bool.eq_false_iff]
          intro h
          have := (smallB_all h).1 _ (List.getElem_mem hlt)
          omega
        clear HA hm H1
        go_wp2_with (fail)
        go_ret
        rw [HB.out]
        exact ⟨rfl, rfl⟩
    · have ej : j = rs.length := by omega
      subst ej
      have HB : Hid (smallB rs = decide (rs.length ≤ 40)) := by
        show _ = _
        have : (rs.all fun r => decide (r.length ≤ 400)) = true := by
          rw [List.all_eq_true]
          intro r hr
          obtain ⟨k, hk, rfl⟩ := List.mem_iff_getElem.mp hr
          exact decide_eq_true (HA.out k hk hk)
        unfold smallB
        rw [this, Bool.true_and]
      clear HA H1
      by_cases h40 : rs.length ≤ 40
      · have i4 : (rs.length : Int) ≤ 40 := by omega
        have HC : Hid (smallB rs = true) := by show _ = _; rw [HB.out]; exact decide_eq_true h40
        clear HB
        go_wp2_with (fail)
        go_ret
        rw [HC.out]
        exact ⟨rfl, rfl⟩
      · have i4 : ¬ (rs.length : Int) ≤ 40 := by omega
        have HC : Hid (smallB rs = false) := by show _ = _; rw [HB.out]; exact decide_eq_false h40
        clear HB
        go_wp2_with (fail)
        go_ret
        rw [HC.out]
        exact ⟨rfl, rfl⟩

theorem infoI : (Try.prog.info? 3).map (fun i => (i.zero, i.size, i.bytes)) = some (some (.int .i64 0), 1, 8) := by kernel_rfl

/-- One number put behind a list of numbers. -/
theorem wpList_append_int (w : World) {ops : Array Oper} {rest : List Oper} {o : Oper} {a : Act} {Q : Exit → Act → World → Prop} (hg : o.guard = none) (s x : Operand)
    (hop : o.op = .call { callee := .builtin .append, args := #[s, x], argTypes := #[37, 37] })
    (base : Nat) (v : Value) (n : Nat) (xs : List Value) (hs : a.eval s = v) (hown : w.ownsRow base 3 1 v n xs) (z : Int) (B c : Nat) (hx : a.eval x = .slice (some ⟨B, 0, none⟩) 1 c) (hc : w.cell? ⟨B, 0, none⟩ = some (.int .i64 z)) (hroom : n ≤ 1000000000) (hbase : base ≤ w.heap.size)
    (h : ∀ g cap w', w'.ownsRow base 3 1 (.slice (some ⟨g, 0, none⟩) (n + 1) cap) (n + 1) (xs ++ [.int .i64 z]) → w.grownBy w' v.ownBlock → wpList Try.prog ops Q rest (a.put o.dst (.slice (some ⟨g, 0, none⟩) (n + 1) cap)) w') :
    wpList Try.prog ops Q (o :: rest) a w := by
  obtain ⟨i0, hi, hz0, hz1, hz2⟩ := info_parts infoI
  refine wpList_append_lies w hg s x 37 hop base 3 i0 (.int .i64 0) 1 8 Try.underlying37 hi hz0 hz1 hz2 rfl (by decide) v n xs hs hown ⟨B, 0, none⟩ 1 c [.int .i64 z] hx rfl ?_ (by simp [Value.oneCell']) (by decide) (by unfold maxLen; omega) (by omega) hbase _ rfl ?_
  · intro j y hj
    match j, hj with
    | 0, hj =>
      simp only [List.getElem?_cons_zero, Option.some.injEq] at hj
      subst hj
      exact hc
  · intro g cap w' h1 h2 _ _
    exact h g cap w' h1 h2

/-- Where the first j frames end. -/
def endsV (rs : List (List UInt8)) (j : Nat) : List Value := (List.range j).map fun k => Value.int .i64 (((frms (rs.take (k + 1))).length : Nat) : Int)
theorem endsV_length (rs : List (List UInt8)) (j : Nat) : (endsV rs j).length = j := by simp [endsV]
theorem endsV_succ (rs : List (List UInt8)) (j : Nat) : endsV rs (j + 1) = endsV rs j ++ [.int .i64 (((frms (rs.take (j + 1))).length : Nat) : Int)] := by simp [endsV, List.range_succ]
theorem endsV_get (rs : List (List UInt8)) (j k : Nat) (h : k < j) : (endsV rs j)[k]? = some (.int .i64 (((frms (rs.take (k + 1))).length : Nat) : Int)) := by simp [endsV, h]
theorem frms_take_succ (rs : List (List UInt8)) (j : Nat) (h : j < rs.length) : frms (rs.take (j + 1)) = frms (rs.take j) ++ frm rs[j] := by
  rw [List.take_succ_eq_append_getElem h, frms_append, frms_one]
theorem frms_small (rs : List (List UInt8)) (h : ∀ r ∈ rs, r.length ≤ 400) : (frms rs).length ≤ 412 * rs.length := by
  induction rs with
  | nil => simp [frms]
  | cons r rs ih =>
    have := ih (fun x hx => h x (by simp [hx]))
    have := h r (by simp)
    rw [frms, List.length_append, frm_length, List.length_cons]
    omega

set_option maxHeartbeats 1600000 in
theorem rows_any (w : World) (v : Value) (rs : List (List UInt8)) (h : RecsAt w v rs) (hs : smallB rs = true) :
    Calls Try.prog 26 #[v] w fun e w' => ∃ ad c ve, e = .returned (.tuple #[.slice ad (frms rs).length c, ve, .bool true]) ∧ w'.ownsRow w.heap.size 5 1 (.slice ad (frms rs).length c) (frms rs).length (bc (frms rs)) ∧ w'.ownsRow w.heap.size 3 1 ve rs.length (endsV rs rs.length) ∧ Below w.heap.size w w' := by
  obtain ⟨hs1, hs2⟩ := smallB_all hs
  have H1 : Hid (RecsAt w v rs) := h
  obtain ⟨a, cap, rfl, g2, g3, -, -⟩ := h
  have HS : Hid (∀ r ∈ rs, r.length ≤ 400) := hs1
  clear hs1 hs
  go_enter Try.func26, Try.ntmps26
  go_wp2_with (fail)
  go_loopw [5, 6, 7] (fun x y i wr => ∃ (j : Nat) (ad : Option Addr) (n c : Nat) (ea : Option Addr) (en ec : Nat), j ≤ rs.length ∧ i = .int .i64 j ∧ x = .slice ad n c ∧ y = .slice ea en ec ∧ Hid (n = (frms (rs.take j)).length) ∧ wr.ownsRow w.heap.size 5 1 (.slice ad n c) (frms (rs.take j)).length (bc (frms (rs.take j))) ∧ wr.ownsRow w.heap.size 3 1 (.slice ea en ec) j (endsV rs j) ∧ Below w.heap.size w wr) (fun _ _ i _ => rs.length - (intOf i).toNat)
  case atStart => exact ⟨0, none, 0, 0, none, 0, 0, Nat.zero_le _, rfl, rfl, rfl, rfl, World.ownsRow_nil _ _ _ _, World.ownsRow_nil _ _ _ _, Below.refl _ _⟩
  case round =>
    obtain ⟨j, ad, n, c, ea, en, ec, hj, rfl, rfl, rfl, HN, ho, hv, hbel⟩ := hrel
    by_cases hlt : j < rs.length
    · have hlti : (j : Int) < (rs.length : Int) := by omega
      obtain ⟨b, off, ad2, c2, rfl, d0, u0⟩ := (H1.out.later hbel).get j hlt
      have h400 := HS.out _ (List.getElem_mem hlt)
      have hfr : (frms (rs.take j)).length ≤ 412 * 40 := by
        have := frms_small (rs.take j) (fun r hr => HS.out r (List.mem_of_mem_take hr))
        rw [List.length_take] at this
        omega
      have AP : Hid (Calls Try.prog 11 #[.slice ad n c, .slice ad2 (rs[j]).length c2] wr fun e w' => ∃ g cap, e = .returned (.tuple #[.slice (some ⟨g, 0, none⟩) (n + (rs[j]).length + 12) cap, .int .i64 0]) ∧ Below wr.heap.size wr w' ∧ w'.ownsRow w.heap.size 5 1 (.slice (some ⟨g, 0, none⟩) (n + (rs[j]).length + 12) cap) (frms (rs.take (j + 1))).length (bc (frms (rs.take (j + 1))))) := by
        obtain ⟨ad', c', e1, _, _, n0, _⟩ := RecAt.of_own ho
        simp only [Value.slice.injEq] at e1
        obtain ⟨rfl, enn, rfl⟩ := e1
        have e12 : (frms (rs.take (j + 1))).length = (frms (rs.take j)).length + (rs[j]).length + 12 := by rw [frms_take_succ rs j hlt, List.length_append, frm_length]; omega
        have hb0 := bytes_of_own ho (by omega)
        rw [enn] at hb0 ⊢
        refine (fappend_any wr ad ad2 c c2 (frms (rs.take j)) rs[j] hb0 (u0.bytes (by omega)) n0 (by omega) (by omega)).mono ?_
        rintro e w' ⟨g, cap, rfl, hx⟩
        refine ⟨g, cap, rfl, hx.below (Nat.le_refl _) (by simp [Value.ownBlock]), ?_⟩
        rw [frms_take_succ rs j hlt]
        exact own_base hx.own hbel.size
      have HN2 : Hid (n + (rs[j]).length + 12 = (frms (rs.take (j + 1))).length) := by show _ = _; rw [frms_take_succ rs j hlt, List.length_append, frm_length, HN.out]; omega
      have HV : Hid (wr.ownsRow w.heap.size 3 1 (.slice ea en ec) j (endsV rs j)) := hv
      have hn2 : n ≤ 412 * 40 := by rw [HN.out]; exact hfr
      obtain ⟨m, hm⟩ : ∃ m, m = (rs[j]).length := ⟨_, rfl⟩
      rw [← hm] at AP HN2 d0 h400
      clear hv ho u0 hm H1 HS hfr HN
      have j40 : j ≤ 1000000000 := by omega
      go_wp2_with (first
        | (go_at_call 11; refine AP.out.mono ?_; rintro e w2 ⟨g2, cap2, rfl, b2, o2⟩; have V2 := (HV.out.kept (row := none) ⟨b2.os, b2.tape, b2.output, b2.size, fun k hk _ => b2.block k hk⟩ (none_kept _)); have B2 := hbel.trans (b2.mono hbel.size); have zz : ∀ o, w.heap.size ≤ (w2.alloc o).heap.size := (fun o => by have := B2.size; simp; omega); clear AP HV)
        | (at_builtin; refine wpList_append_int _ rfl _ _ rfl w.heap.size _ j (endsV rs j) rfl (V2.alloc _) ((n : Int) + (m : Int) + 12) w2.heap.size 1 rfl (by simp) j40 (zz _) ?_; intro g3 cap3 w3 o3 G3; have O3 := (o2.alloc _).kept G3 (own_ne o2 V2 (by decide)); have B3 := (B2.alloc B2.size _).grown G3 (zz _) (by intro k hk; exact (V2.lt k hk).1); clear o2))
      have ez : (((frms (rs.take (j + 1))).length : Nat) : Int) = (n : Int) + (m : Int) + 12 := by rw [← HN2.out]; omega
      rw [← ez, ← endsV_succ] at o3
      exact ⟨⟨j + 1, _, _, _, _, _, _, by omega, by go_num, rfl, rfl, HN2, O3, o3, B3⟩, by simp [intOf]; omega⟩
    · have ej : j = rs.length := by omega
      subst ej
      have HN2 : Hid (n = (frms rs).length) := by have := HN.out; rw [List.take_length] at this; exact this
      have e0 : rs.take rs.length = rs := List.take_length
      rw [e0] at ho
      have HO : Hid (wr.ownsRow w.heap.size 5 1 (.slice ad n c) (frms rs).length (bc (frms rs))) := ho
      clear ho e0 HN H1 HS
      go_wp2_with (fail)
      go_ret3
      have e := HN2.out
      subst e
      exact ⟨ad, c, _, rfl, HO.out, hv, hbel⟩
end Go.Proofs.Ytmhehohiodggcaa
