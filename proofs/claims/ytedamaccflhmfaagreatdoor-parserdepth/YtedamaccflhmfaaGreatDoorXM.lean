/-
  A list of values that came in: where its values lie, and that their parts fit their kinds. .. and what follows from it.
-/
import Derived.Test.YtedamaccflhmfaaGreatDoorUBase
import Derived.ProofKit
import Derived.OpenShut
import Derived.SizedLaws
import Derived.Deep.Slices
import Derived.Deep.Strs
import Derived.Test.YtedamaccflhmfaaGreatDoorXUa
import Derived.Deep.AppendLies
namespace Go.Proofs.YtedamaccflhmfaaGreatDoor
open Go.ChangeShapes Go.WideShapes Go.ChangeAt Go.RowKit

theorem cellsV : Tryz.prog.cellsOf 31 = 3 := by kernel_rfl
theorem bytesV : Tryz.prog.bytesOf 31 = 32 := by kernel_rfl
theorem cellsK : Tryz.prog.cellsOf 29 = 1 := by kernel_rfl
theorem cellsI : Tryz.prog.cellsOf 2 = 1 := by kernel_rfl
theorem cellsT : Tryz.prog.cellsOf 9 = 1 := by kernel_rfl

theorem add_plain (b off j : Nat) : (⟨b, off, none⟩ : Addr).add j = ⟨b, off + j, none⟩ := by unfold Addr.add; split <;> simp_all

theorem three_of {α : Type} {l : List α} (h : l.length = 3) : ∃ a b c, l = [a, b, c] := by
  match l, h with
  | [a, b, c], _ => exact ⟨a, b, c, rfl⟩

theorem one_val {H : Type} {enc : TypeId × Value → H} {W : World} {n : Nat} {cs : List Value} {x : DataW H × List MemPlace} (h : DataW.trod enc Tryz.prog W 0 (fun _ => true) true n 31 cs = some x) :
    ∃ v : Val, cs = [.int .u8 v.k, .int .i64 v.n, .string v.t] ∧ v.wf := by
  obtain ⟨y0, y1, y2, m, _, hl, h0, h1, h2⟩ := Deep.trod_struct3 Tryz.underlying31 h
  rw [cellsV] at hl
  obtain ⟨c0, c1, c2, rfl⟩ := three_of hl
  simp only [cellsK, cellsI, cellsT] at h0 h1 h2
  obtain ⟨k, e0, _, w0⟩ := DataW.trod_int Tryz.underlying29 h0
  obtain ⟨i, e1, _, w1⟩ := DataW.trod_int Tryz.underlying2 h1
  obtain ⟨t, e2, _, w2⟩ := DataW.trod_string Tryz.underlying9 h2
  simp at e0 e1 e2
  subst e0 e1 e2
  have b0 := bounds_u8 w0
  have b1 := bounds_i64 w1
  exact ⟨⟨k, i, t⟩, rfl, ⟨by show 0 ≤ k; omega, by show k ≤ 255; omega, by show _ ≤ i; omega, by show i ≤ _; omega, w2⟩⟩

end Go.Proofs.YtedamaccflhmfaaGreatDoor
namespace Go.Proofs.YtedamaccflhmfaaGreatDoor
open Go.RowKit
attribute [local go_sem ↓] Go.wp_at_zero Go.wp_at_succ

theorem Tryz.infoV : (Tryz.prog.info? 31).map (fun i => (i.zero, i.size, i.bytes)) = some (some (.agg #[.int .u8 0, .int .i64 0, .string ByteArray.empty]), 3, 32) := by kernel_rfl

/-- The cells of a list of values. -/
def vc (vs : List Val) : List Value := vs.flatMap fun v => [.int .u8 v.k, .int .i64 v.n, .string v.t]
theorem vc_length (vs : List Val) : (vc vs).length = vs.length * 3 := by
  induction vs with
  | nil => rfl
  | cons v vs ih =>
    have e : vc (v :: vs) = [.int .u8 v.k, .int .i64 v.n, .string v.t] ++ vc vs := by simp [vc]
    rw [e, List.length_append, ih, List.length_cons]; simp; omega
theorem vc_append (a b : List Val) : vc (a ++ b) = vc a ++ vc b := by simp [vc]
theorem vc_get (vs : List Val) (j : Nat) (h : j < vs.length) : (vc vs)[j * 3]? = some (.int .u8 (vs[j]).k) ∧ (vc vs)[j * 3 + 1]? = some (.int .i64 (vs[j]).n) ∧ (vc vs)[j * 3 + 2]? = some (.string (vs[j]).t) := by
  induction vs generalizing j with
  | nil => simp at h
  | cons v vs ih =>
    have e : vc (v :: vs) = [.int .u8 v.k, .int .i64 v.n, .string v.t] ++ vc vs := by simp [vc]
    cases j with
    | zero => rw [e]; exact ⟨rfl, rfl, rfl⟩
    | succ j =>
      have h' : j < vs.length := by simpa using h
      obtain ⟨a, b, c⟩ := ih j h'
      rw [e]
      refine ⟨?_, ?_, ?_⟩
      · rw [List.getElem?_append_right (by simp; omega)]; simpa [show (j + 1) * 3 - 3 = j * 3 from by omega] using a
      · rw [List.getElem?_append_right (by simp; omega)]; simpa [show (j + 1) * 3 + 1 - 3 = j * 3 + 1 from by omega] using b
      · rw [List.getElem?_append_right (by simp; omega)]; simpa [show (j + 1) * 3 + 2 - 3 = j * 3 + 2 from by omega] using c

theorem vals_of_own {w : World} {base : Nat} {v : Value} {vs : List Val} (h : w.ownsRow base 31 3 v vs.length (vc vs)) (hwf : ∀ x ∈ vs, x.wf) (hl : vs.length ≤ 1099511627776000) : ValsIn w v vs := by
  have ho := h
  rcases h.2 with ⟨rfl, h0⟩ | ⟨g, cap, cur, rfl, _⟩
  · exact ⟨⟨none, 0, by rw [h0], fun hne => absurd (List.eq_nil_of_length_eq_zero h0) hne⟩, hwf, hl⟩
  · refine ⟨⟨_, cap, rfl, fun _ => ⟨g, 0, rfl, fun j hj => ?_⟩⟩, hwf, hl⟩
    obtain ⟨a, b, c⟩ := vc_get vs j hj
    rw [Nat.zero_add, ho.cellAt (j * 3) (by omega), ho.cellAt (j * 3 + 1) (by omega), ho.cellAt (j * 3 + 2) (by omega)]
    exact ⟨a, b, c⟩

theorem ValsIn.take {w : World} {a : Option Addr} {cap n : Nat} {vs : List Val} (h : ValsIn w (.slice a vs.length cap) vs) (c : Nat) (hn : n ≤ vs.length) : ValsIn w (.slice a n c) (vs.take n) := by
  obtain ⟨⟨a', cap', e, hf⟩, hwf, hlen⟩ := h
  simp only [Value.slice.injEq, true_and] at e
  obtain ⟨rfl, rfl⟩ := e
  have hl : (vs.take n).length = n := by rw [List.length_take]; omega
  refine ⟨⟨a, c, by rw [hl], fun h0 => ?_⟩, fun v hv => hwf v (List.mem_of_mem_take hv), by omega⟩
  obtain ⟨b, off, ha, hat⟩ := hf (by rintro rfl; simp at h0)
  refine ⟨b, off, ha, fun j hj => ?_⟩
  have hj' : j < vs.length := by omega
  have := hat j hj'
  simpa only [List.getElem_take] using this

theorem vc_one (vs : List Val) : ∀ u ∈ vc vs, u.oneCell' = true := by
  intro u hu
  simp only [vc, List.mem_flatMap] at hu
  obtain ⟨v, _, hv⟩ := hu
  simp at hv
  rcases hv with rfl | rfl | rfl <;> rfl

theorem vc_cells {w : World} {b off : Nat} {vs : List Val} (h : ValsAt w b off vs) : ∀ j u, (vc vs)[j]? = some u → w.cell? ((⟨b, off, none⟩ : Addr).add j) = some u := by
  intro j u hj
  have hlt : j < (vc vs).length := by
    rcases Nat.lt_or_ge j (vc vs).length with h | h
    · exact h
    · rw [List.getElem?_eq_none h] at hj; cases hj
  rw [vc_length] at hlt
  have hq : j / 3 < vs.length := by omega
  obtain ⟨g0, g1, g2⟩ := vc_get vs (j / 3) hq
  obtain ⟨h0, h1, h2⟩ := h (j / 3) hq
  rw [add_plain]
  have hr : j % 3 = 0 ∨ j % 3 = 1 ∨ j % 3 = 2 := by omega
  rcases hr with r | r | r
  · have e : j = j / 3 * 3 := by omega
    rw [← e] at g0 h0; rw [g0] at hj; cases hj; exact h0
  · have e : j = j / 3 * 3 + 1 := by omega
    rw [← e] at g1; rw [g1] at hj; cases hj
    have e' : off + j / 3 * 3 + 1 = off + j := by omega
    rw [e'] at h1; exact h1
  · have e : j = j / 3 * 3 + 2 := by omega
    rw [← e] at g2; rw [g2] at hj; cases hj
    have e' : off + j / 3 * 3 + 2 = off + j := by omega
    rw [e'] at h2; exact h2

def behind : Val := ⟨2, 99, ByteArray.empty⟩
def lentL (vs : List Val) : List Val := vs ++ [behind, behind, behind]

theorem lent_one (w : World) (v : Val) (hv : v.wf) : ValsIn (w.alloc (.cells #[.int .u8 v.k, .int .i64 v.n, .string v.t] 31)) (.slice (some ⟨w.heap.size, 0, none⟩) 1 1) [v] := by
  refine ⟨⟨_, 1, rfl, fun _ => ⟨_, _, rfl, ?_⟩⟩, by simpa using hv, by simp⟩
  intro j hj
  have e : j = 0 := by simp at hj; omega
  subst e
  simp [go_sem]

theorem behind_wf : behind.wf := ⟨by decide, by decide, by decide, by decide, by decide⟩

end Go.Proofs.YtedamaccflhmfaaGreatDoor
