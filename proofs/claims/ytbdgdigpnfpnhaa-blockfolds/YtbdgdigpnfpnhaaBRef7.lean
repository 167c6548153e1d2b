/-
  What the document's own package answers of entries: found, and seen in spans.
-/
import Derived.Test.YtbdgdigpnfpnhaaBFind
namespace Go.Proofs.Ytbdgdigpnfpnhaa
open Go.RowKit

set_option maxRecDepth 10000 in
set_option maxHeartbeats 1600000 in
theorem rin_any (w : World) (k lo hi : Mm.Bs) : Calls Try.prog 87 #[str k, .agg #[str lo, str hi]] w fun e w' => e = .returned (.bool (Mm.inB k lo hi)) ∧ Below w.heap.size w w' := by
  unfold Mm.inB
  cases h1 : Op.bytesLess k lo with
  | true =>
    go_enter Try.func87, Try.ntmps87
    go_wp2_with (fail)
    go_ret
    exact ⟨rfl, (Below.refl _ _).alloc (Nat.le_refl _) _⟩
  | false =>
    cases hi with
    | nil =>
      go_enter Try.func87, Try.ntmps87
      go_wp2_with (fail)
      go_ret
      exact ⟨rfl, (Below.refl _ _).alloc (Nat.le_refl _) _⟩
    | cons c r =>
      cases h2 : Op.bytesLess k (c :: r) with
      | true =>
        go_enter Try.func87, Try.ntmps87
        go_wp2_with (fail)
        go_ret
        exact ⟨by simp, (Below.refl _ _).alloc (Nat.le_refl _) _⟩
      | false =>
        go_enter Try.func87, Try.ntmps87
        go_wp2_with (fail)
        go_ret
        exact ⟨by simp, (Below.refl _ _).alloc (Nat.le_refl _) _⟩

def visP (k : List UInt8) (q : Int) (x : Mm.Ent) : Bool := decide (x.key = k) && decide (x.seq ≤ q)
theorem find_vis (k : List UInt8) (q : Int) : ∀ (l : List Mm.Ent), Mm.Up l → findE l k q = l.find? (visP k q) := by
  intro l
  induction l with
  | nil => intro _; rfl
  | cons x r ih =>
    intro hu
    obtain ⟨u1, u2⟩ := List.pairwise_cons.1 hu
    unfold findE
    rw [List.dropWhile_cons, List.find?_cons]
    cases ha : Mm.ahead x ⟨k, [], q, false⟩ with
    | true =>
      have hp : visP k q x = false := by
        rcases Mm.ahead_key ha with ⟨h1, h2⟩ | h2
        · unfold visP
          simp only at h2
          rw [decide_eq_false (show ¬ x.seq ≤ q by omega), Bool.and_false]
        · unfold visP
          rw [decide_eq_false (show ¬ x.key = k from fun e => by rw [e] at h2; simp only [Mm.bl_irrefl] at h2; cases h2), Bool.false_and]
      rw [hp, if_pos rfl]
      exact ih u2
    | false =>
      rw [if_neg (by simp)]
      simp only [List.head?_cons]
      by_cases hk : x.key = k
      · have hs : x.seq ≤ q := by
          unfold Mm.ahead at ha
          rw [if_pos hk] at ha
          have := of_decide_eq_false ha
          simp only at this
          omega
        have hp : visP k q x = true := by unfold visP; rw [decide_eq_true hk, decide_eq_true hs]; rfl
        rw [hp, if_pos hk]
      · have hp : visP k q x = false := by unfold visP; rw [decide_eq_false hk, Bool.false_and]
        rw [hp, if_neg hk]
        symm
        rw [List.find?_eq_none]
        intro y hy
        have hlt : Op.bytesLess x.key k = false := by
          unfold Mm.ahead at ha
          rw [if_neg hk] at ha
          exact ha
        have hkx : Op.bytesLess k x.key = true := by
          cases hc : Op.bytesLess k x.key with
          | true => rfl
          | false => exact absurd (Mm.bl_total hlt hc) hk
        have hky : ¬ y.key = k := fun e => by
          rcases Mm.ahead_key (u1 y hy) with ⟨h1, _⟩ | h1
          · exact hk (h1.trans e)
          · have := Mm.bl_trans hkx h1
            rw [e, Mm.bl_irrefl] at this; cases this
        unfold visP
        rw [decide_eq_false hky]
        simp

set_option maxRecDepth 100000 in
set_option maxHeartbeats 8000000 in
theorem rvis_any (w : World) (a : Option Addr) (c n : Nat) (l : List Mm.Ent) (h : EntsAt w (.slice a n c) l) (hn : n = l.length) (hl : n ≤ 1000000) (k : List UInt8) (q : Int) :
    Calls Try.prog 73 #[.slice a n c, str k, .int .i64 q] w fun e w' => e = .returned (foundV (l.find? (visP k q))) ∧ Below w.heap.size w w' := by
  obtain ⟨W, hW⟩ : ∃ W, W = w.alloc (.cells #[.string ⟨#[]⟩, .string ⟨#[]⟩, .int .i64 0, .bool false] 38) := ⟨_, rfl⟩
  have b0 : Below w.heap.size w W := by rw [hW]; exact (Below.refl _ _).alloc (Nat.le_refl _) _
  have y0 : W.heap[w.heap.size]? = some (eO ⟨[], [], 0, false⟩) := by rw [hW]; exact World.alloc_heap_new w _
  have HA := hide (h.later b0)
  have HN : Hid (n = l.length) := hn
  have HW := hide hW
  obtain ⟨p0, p1, p2, p3, f0, f1, f2, f3⟩ := slot4 y0
  have FIN : Hid (∀ (e : Mm.Ent), (((((W.setCell ⟨w.heap.size, 0, none⟩ (str e.key)).setCell ⟨w.heap.size, 1, none⟩ (str e.value)).setCell ⟨w.heap.size, 2, none⟩ (.int .i64 e.seq)).setCell ⟨w.heap.size, 3, none⟩ (.bool e.del)).heap[w.heap.size]? = some (eO e) ∧ Below w.heap.size w ((((W.setCell ⟨w.heap.size, 0, none⟩ (str e.key)).setCell ⟨w.heap.size, 1, none⟩ (str e.value)).setCell ⟨w.heap.size, 2, none⟩ (.int .i64 e.seq)).setCell ⟨w.heap.size, 3, none⟩ (.bool e.del)))) := fun e => by
    have m5 : ∀ (v : World) (i : Nat) (u : Value), Moved (fun j => j = w.heap.size) v (v.setCell ⟨w.heap.size, i, none⟩ u) := fun v i u => Moved.setCell (S := fun j => j = w.heap.size) (Moved.refl _ v) (p := ⟨w.heap.size, i, none⟩) (fun _ => rfl) u
    have m6 := (((m5 W 0 (str e.key)).trans (m5 _ 1 (str e.value)) (fun _ _ h => h)).trans (m5 _ 2 (.int .i64 e.seq)) (fun _ _ h => h)).trans (m5 _ 3 (.bool e.del)) (fun _ _ h => h)
    exact ⟨(Joins.block_setCell (Joins.block_setCell (Joins.block_setCell (Joins.block_setCell y0 _) _) _) _).trans rfl, b0.trans (m6.under b0.size (fun i hi => by omega))⟩
  clear h hn b0 y0 hW
  go_enter Try.func73, Try.ntmps73
  go_wp2_with (fail)
  rw [← HW.out]
  go_loopw [8] (fun i wr => wr = W ∧ ∃ j : Nat, j ≤ n ∧ i = .int .i64 (j : Int) ∧ Hid ((l.take j).find? (visP k q) = none)) (fun i _ => n - (intOf i).toNat)
  case atStart => exact ⟨rfl, 0, Nat.zero_le _, rfl, by show _ = _; simp⟩
  case round =>
    obtain ⟨rfl, j, hj, rfl, HT⟩ := hrel
    by_cases hlt : j < n
    · have jl : j < l.length := by have := HN.out; omega
      obtain ⟨b, off, rfl⟩ := (HA.out).some (by omega)
      obtain ⟨c0, c1, c2, c3⟩ := HA.out.cells j jl
      have FT : Hid (visP k q l[j] = true → l.find? (visP k q) = some l[j]) := fun hp => by
        have e : l = l.take j ++ l[j] :: l.drop (j + 1) := by rw [← List.drop_eq_getElem_cons jl, List.take_append_drop]
        conv => lhs; rw [e]
        rw [List.find?_append, HT.out, List.find?_cons, hp]
        rfl
      have FF : Hid (visP k q l[j] = false → (l.take (j + 1)).find? (visP k q) = none) := fun hp => by
        rw [List.take_succ_eq_append_getElem jl, List.find?_append, HT.out, List.find?_cons, hp]
        rfl
      have j1 : (j : Int) < (n : Int) := by omega
      have j2 : (0 : Int) ≤ (j : Int) := by omega
      generalize l[j] = x at *
      obtain ⟨K, V, Q, D⟩ := x
      simp only at c0 c1 c2 c3
      clear HA HT HN
      by_cases hk : K = k
      · subst hk
        by_cases hs : Q ≤ q
        · have HF : Hid (l.find? (visP K q) = some ⟨K, V, Q, D⟩) := FT.out (by unfold visP; simp [hs])
          clear FT FF
          go_wp2_with (fail)
          obtain ⟨F1, F2⟩ := FIN.out ⟨K, V, Q, D⟩
          obtain ⟨t0, t1, t2, t3, _⟩ := slot4 F1
          refine bodyPost_ret (v := foundV (some ⟨K, V, Q, D⟩)) (by simp [results, Try.results73, go_sem, t0, t1, t2, t3]) rfl ?_
          rw [HF.out]
          exact ⟨rfl, F2⟩
        · have HF := hide (FF.out (by unfold visP; simp [hs]))
          clear FT FF
          go_wp2_with (fail)
          exact ⟨⟨trivial, j + 1, by omega, by go_num, HF⟩, by simp [intOf]; omega⟩
      · have hb : (K == k) = false := by simp [hk]
        have HF := hide (FF.out (by unfold visP; simp [hk]))
        clear FT FF
        go_wp2_with (fail)
        exact ⟨⟨trivial, j + 1, by omega, by go_num, HF⟩, by simp [intOf]; omega⟩
    · have i3 : ¬ (j : Int) < (n : Int) := by omega
      have HF : Hid (l.find? (visP k q) = none) := by
        have := HT.out
        rw [List.take_of_length_le (by have := HN.out; omega)] at this
        exact this
      clear HT HA HN
      go_wp2_with (fail)
      obtain ⟨F1, F2⟩ := FIN.out ⟨[], [], 0, false⟩
      obtain ⟨t0, t1, t2, t3, _⟩ := slot4 F1
      refine bodyPost_ret (v := foundV none) (by simp [results, Try.results73, go_sem, t0, t1, t2, t3]) rfl ?_
      rw [HF.out]
      exact ⟨rfl, F2⟩
end Go.Proofs.Ytbdgdigpnfpnhaa
