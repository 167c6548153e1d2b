/-
  Whether a script is gone through.
-/
import Derived.Test.YtclokpkhkokfhabVActs
namespace Go.Proofs.Ytclokpkhkokfhab
open Go.RowKit

def fits (a : Ac) : Bool := decide (a.l.length ≤ 400) && decide (a.name.size ≤ 400) && decide (a.other.size ≤ 400)
def smallB (l : List Ac) : Bool := l.all fits && decide (l.length ≤ 100)

theorem ActsIn.later {w w' : World} {v : Value} {l : List Ac} (h : ActsIn w v l) (hb : Below w.heap.size w w') : ActsIn w' v l := by
  obtain ⟨⟨a, cap, hv, hf⟩, hok, hlen⟩ := h
  refine ⟨⟨a, cap, hv, fun h0 => ?_⟩, fun x hx => ?_, hlen⟩
  · obtain ⟨b, off, ha, hat⟩ := hf h0
    exact ⟨b, off, ha, fun j hj i u hu => (hb.cell (p := ⟨b, off + j * 6 + i, none⟩) (World.block_lt_of_cell? w _ (hat j hj i u hu))).trans (hat j hj i u hu)⟩
  · have o := hok x hx
    refine ⟨o.kind, o.n, o.t, o.name, o.other, ?_, o.room⟩
    obtain ⟨a', c', e, hl⟩ := o.bytes
    refine ⟨a', c', e, fun h0 => ?_⟩
    obtain ⟨b, off, e2, hat⟩ := hl h0
    exact ⟨b, off, e2, hat.later hb⟩

/-- The cells of one call. -/
theorem ActsIn.cells {w : World} {b off n cap : Nat} {l : List Ac} (h : ActsIn w (.slice (some ⟨b, off, none⟩) n cap) l) (j : Nat) (hj : j < l.length) :
    w.cell? ⟨b, off + j * 6, none⟩ = some (.int .i64 (l[j]).kind) ∧ w.cell? ⟨b, off + j * 6 + 1, none⟩ = some (.string (l[j]).name) ∧ w.cell? ⟨b, off + j * 6 + 2, none⟩ = some (.string (l[j]).other) ∧ w.cell? ⟨b, off + j * 6 + 3, none⟩ = some (.int .i64 (l[j]).n) ∧ w.cell? ⟨b, off + j * 6 + 4, none⟩ = some (.int .i64 (l[j]).t) ∧ w.cell? ⟨b, off + j * 6 + 5, none⟩ = some (l[j]).v := by
  obtain ⟨⟨a, c, e, hf⟩, _⟩ := h
  obtain ⟨b', off', ha, hat⟩ := hf (fun h0 => by rw [h0] at hj; cases hj)
  cases e
  cases ha
  exact ⟨hat j hj 0 _ rfl, hat j hj 1 _ rfl, hat j hj 2 _ rfl, hat j hj 3 _ rfl, hat j hj 4 _ rfl, hat j hj 5 _ rfl⟩

theorem fits_take {l : List Ac} {j : Nat} (h : j < l.length) (ht : (l.take j).all fits = true) : (l.take (j + 1)).all fits = fits l[j] := by
  rw [List.take_succ_eq_append_getElem h, List.all_append, ht]
  simp
theorem fits_no {l : List Ac} {j : Nat} (h : j < l.length) (hf : fits l[j] = false) : smallB l = false := by
  have : l.all fits = false := by
    rw [List.all_eq_false]
    exact ⟨l[j], List.getElem_mem h, by rw [hf]; simp⟩
  unfold smallB
  rw [this]; rfl

set_option maxHeartbeats 1000000 in
theorem small_any (w : World) (a : Option Addr) (n cap : Nat) (l : List Ac) (h : ActsIn w (.slice a n cap) l) (hn : n = l.length) (S : Bool) (HS : Hid (S = smallB l)) :
    Calls Try.prog 7 #[.slice a n cap] w fun e w' => e = .returned (.bool S) ∧ w' = w := by
  have hlen := h.len
  unfold maxLen at hlen
  have H : Hid _ := h
  have HN : Hid (n = l.length) := hn
  have nle : n ≤ 9223372036854775807 := by omega
  clear h hn hlen
  go_enter Try.func7, Try.ntmps7
  go_wp2_with (fail)
  go_loopw [3] (fun i wr => wr = w ∧ ∃ j : Nat, j ≤ n ∧ i = .int .i64 j ∧ Hid ((l.take j).all fits = true)) (fun i _ => n - (intOf i).toNat)
  case atStart => exact ⟨rfl, 0, Nat.zero_le _, rfl, by show _ = _; simp⟩
  case round =>
    obtain ⟨rfl, j, hj, rfl, HT⟩ := hrel
    by_cases hlt : j < n
    · have hl : j < l.length := by have := HN.out; omega
      obtain ⟨b, off, rfl⟩ : ∃ b off, a = some ⟨b, off, none⟩ := by
        obtain ⟨⟨a', c', e, hf⟩, _⟩ := H.out
        obtain ⟨b, off, ha, _⟩ := hf (fun h0 => by rw [h0] at hl; cases hl)
        cases e
        exact ⟨b, off, ha⟩
      obtain ⟨c0, c1, c2, c3, c4, c5⟩ := H.out.cells j hl
      have ok := H.out.ok l[j] (List.getElem_mem hl)
      obtain ⟨x, hx⟩ : ∃ x, x = l[j] := ⟨_, rfl⟩
      rw [← hx] at c0 c1 c2 c3 c4 c5 ok
      obtain ⟨y, d, hy, _⟩ := ok.bytes
      rw [hy] at c5
      have l1 := ok.name
      have l2 := ok.other
      have FT : Hid ((l.take (j + 1)).all fits = fits x) := by show _ = _; rw [hx]; exact fits_take hl HT.out
      have FN : Hid (fits x = false → S = false) := fun hf => by rw [HS.out]; exact fits_no hl (by rw [← hx]; exact hf)
      clear ok hx hy c0 c3 c4 H HS HT HN hl
      unfold maxLen at l1 l2
      obtain ⟨L0, hL0⟩ : ∃ L, L = x.l.length := ⟨_, rfl⟩
      rw [← hL0] at c5
      have FF : Hid (fits x = (decide (L0 ≤ 400) && decide (x.name.size ≤ 400) && decide (x.other.size ≤ 400))) := by show _ = _; rw [hL0]; rfl
      clear hL0
      by_cases g0 : (L0 : Int) > 400
      · have HF : Hid (S = false) := FN.out (by rw [FF.out, decide_eq_false (by omega)]; rfl)
        clear FN FT FF
        go_wp2_with (fail)
        go_ret
        exact ⟨by rw [HF.out]; rfl, rfl⟩
      by_cases g1 : (x.name.size : Int) > 400
      · have HF : Hid (S = false) := FN.out (by rw [FF.out, decide_eq_false (p := x.name.size ≤ 400) (by omega)]; simp)
        clear FN FT FF
        go_wp2_with (fail)
        go_ret
        exact ⟨by rw [HF.out]; rfl, rfl⟩
      by_cases g2 : (x.other.size : Int) > 400
      · have HF : Hid (S = false) := FN.out (by rw [FF.out, decide_eq_false (p := x.other.size ≤ 400) (by omega)]; simp)
        clear FN FT FF
        go_wp2_with (fail)
        go_ret
        exact ⟨by rw [HF.out]; rfl, rfl⟩
      · have HF : Hid ((l.take (j + 1)).all fits = true) := by show _ = _; rw [FT.out, FF.out, decide_eq_true (by omega), decide_eq_true (by omega), decide_eq_true (by omega)]; rfl
        clear FN FT FF
        go_wp2_with (fail)
        exact ⟨⟨trivial, j + 1, by omega, rfl, HF⟩, by simp [intOf]; omega⟩
    · have e : j = n := by omega
      have HE : Hid (S = decide (n ≤ 100)) := by
        show _ = _
        rw [HS.out]
        unfold smallB
        have := HT.out
        rw [e, HN.out, List.take_length] at this
        rw [this, HN.out]
        rfl
      have i3 : ¬ (j : Int) < (n : Int) := by omega
      clear e HS HT H hlt hj
      by_cases hs : (n : Int) ≤ 100
      · have HF : Hid (S = true) := by show _ = _; rw [HE.out]; exact decide_eq_true (by omega)
        clear HE
        go_wp2_with (fail)
        go_ret
        exact ⟨by rw [HF.out]; rfl, rfl⟩
      · have HF : Hid (S = false) := by show _ = _; rw [HE.out]; exact decide_eq_false (by omega)
        clear HE
        go_wp2_with (fail)
        go_ret
        exact ⟨by rw [HF.out]; rfl, rfl⟩
end Go.Proofs.Ytclokpkhkokfhab
