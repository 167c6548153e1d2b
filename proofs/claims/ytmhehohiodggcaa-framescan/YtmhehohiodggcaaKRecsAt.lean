/-
  Lists of lists of bytes, where they can be read: those that came in, and those that the call owns; two of them held against each other by the kit's call.
-/
import Derived.Test.YtmhehohiodggcaaKRecs
import Derived.Test.YtmhehohiodggcaaKSame
namespace Go.Proofs.Ytmhehohiodggcaa
open Go.RowKit

/-- One list of bytes, as a value. -/
def RecAt (w : World) (u : Value) (r : List UInt8) : Prop :=
  ∃ ad c, u = .slice ad r.length c ∧ r.length ≤ c ∧ c ≤ 9223372036854775807 ∧ (ad = none → c = 0) ∧ (r ≠ [] → ∃ b off, ad = some ⟨b, off, none⟩ ∧ BytesAt w b off r)
/-- A list of them. -/
def RecsAt (w : World) (v : Value) (rs : List (List UInt8)) : Prop :=
  ∃ a cap, v = .slice a rs.length cap ∧ rs.length ≤ cap ∧ cap ≤ 9223372036854775807 ∧ (a = none → cap = 0) ∧ (rs ≠ [] → ∃ b off, a = some ⟨b, off, none⟩ ∧ ∀ k (h : k < rs.length), ∃ u, w.cell? ⟨b, off + k, none⟩ = some u ∧ RecAt w u rs[k])

theorem RecAt.later {w w' : World} {u : Value} {r : List UInt8} (h : RecAt w u r) (hb : Below w.heap.size w w') : RecAt w' u r := by
  obtain ⟨ad, c, h1, h2, h3, h4, h5⟩ := h
  exact ⟨ad, c, h1, h2, h3, h4, fun h0 => by obtain ⟨b, off, e, hat⟩ := h5 h0; exact ⟨b, off, e, hat.later hb⟩⟩
theorem RecsAt.later {w w' : World} {v : Value} {rs : List (List UInt8)} (h : RecsAt w v rs) (hb : Below w.heap.size w w') : RecsAt w' v rs := by
  obtain ⟨a, cap, h1, h2, h3, h4, h5⟩ := h
  refine ⟨a, cap, h1, h2, h3, h4, fun h0 => ?_⟩
  obtain ⟨b, off, e, hat⟩ := h5 h0
  refine ⟨b, off, e, fun k hk => ?_⟩
  obtain ⟨u, hc, hu⟩ := hat k hk
  exact ⟨u, keepC hb hc, hu.later hb⟩
theorem RecAt.bytes {w : World} {u : Value} {r : List UInt8} (h : RecAt w u r) (hl : r.length ≤ 140737488355328) : BytesIn w u r := by
  obtain ⟨ad, c, h1, h2, h3, h4, h5⟩ := h
  exact ⟨⟨ad, c, h1, h5⟩, hl⟩
theorem RecsAt.nil (w : World) : RecsAt w (.slice none 0 0) [] := ⟨none, 0, rfl, Nat.le_refl _, by decide, fun _ => rfl, fun h => absurd rfl h⟩
theorem RecsAt.get {w : World} {a : Option Addr} {n cap : Nat} {rs : List (List UInt8)} (h : RecsAt w (.slice a n cap) rs) (k : Nat) (hk : k < rs.length) : ∃ b off ad c, a = some ⟨b, off, none⟩ ∧ w.cell? ⟨b, off + k, none⟩ = some (.slice ad (rs[k]).length c) ∧ RecAt w (.slice ad (rs[k]).length c) rs[k] := by
  obtain ⟨a', cap', h1, _, _, _, h5⟩ := h
  simp only [Value.slice.injEq] at h1
  obtain ⟨rfl, _, rfl⟩ := h1
  obtain ⟨b, off, e, hat⟩ := h5 (by intro e; rw [e] at hk; simp at hk)
  obtain ⟨u, hc, hu⟩ := hat k hk
  have hu' := hu
  obtain ⟨ad, c, rfl, _⟩ := hu
  exact ⟨b, off, ad, c, e, hc, hu'⟩
theorem RecsAt.cut {w : World} {a : Option Addr} {n cap : Nat} {rs : List (List UInt8)} (h : RecsAt w (.slice a n cap) rs) (k : Nat) (hk : k ≤ rs.length) : RecsAt w (.slice a k cap) (rs.take k) := by
  obtain ⟨a', cap', h1, h2, h3, h4, h5⟩ := h
  simp only [Value.slice.injEq] at h1
  obtain ⟨rfl, rfl, rfl⟩ := h1
  have hl : (rs.take k).length = k := by rw [List.length_take]; omega
  refine ⟨a, cap, by rw [hl], by omega, h3, h4, fun h0 => ?_⟩
  obtain ⟨b, off, e, hat⟩ := h5 (by intro e; rw [e] at h0; simp at h0)
  refine ⟨b, off, e, fun j hj => ?_⟩
  obtain ⟨u, hc, hu⟩ := hat j (by rw [hl] at hj; omega)
  refine ⟨u, hc, ?_⟩
  rw [List.getElem_take]
  exact hu

theorem RecAt.of_own {w : World} {base : Nat} {u : Value} {r : List UInt8} (h : w.ownsRow base 5 1 u r.length (bc r)) : RecAt w u r := by
  rcases h.2 with ⟨rfl, h0⟩ | ⟨g, cap, cur, rfl, _, _, hnc, hcm, _⟩
  · exact ⟨none, 0, by rw [h0], by omega, by decide, fun _ => rfl, fun hne => absurd (List.eq_nil_of_length_eq_zero h0) hne⟩
  · refine ⟨_, cap, rfl, hnc, by unfold maxLen at hcm; omega, (fun e => by cases e), fun _ => ⟨g, 0, rfl, fun j hj => ?_⟩⟩
    rw [Nat.zero_add, h.cellAt j (by omega), bc_get r j hj]
theorem Recs.at {base : Nat} {w : World} {v : Value} {rs : List (List UInt8)} {vs : List Value} (h : Recs base w v rs vs) : RecsAt w v rs := by
  have hr := h.row
  rcases h.row.2 with ⟨rfl, h0⟩ | ⟨g, cap, cur, rfl, _, _, hnc, hcm, _⟩
  · have : rs = [] := List.eq_nil_of_length_eq_zero h0
    subst this
    exact RecsAt.nil w
  · refine ⟨_, cap, rfl, hnc, by unfold maxLen at hcm; omega, (fun e => by cases e), fun _ => ⟨g, 0, rfl, fun k hk => ?_⟩⟩
    have hk' : k < vs.length := by rw [h.len]; exact hk
    refine ⟨vs[k], ?_, RecAt.of_own (h.own k hk' hk)⟩
    rw [Nat.zero_add, hr.cellAt k (by omega), List.getElem?_eq_getElem hk']

set_option maxHeartbeats 1600000 in
theorem sameRecs_any (w : World) (v v' : Value) (rs : List (List UInt8)) (h : RecsAt w v rs) (h' : RecsAt w v' rs) (hl : ∀ r ∈ rs, r.length ≤ 140737488355328) :
    Calls Try.prog 21 #[v, v'] w fun e w' => e = .returned (.bool true) ∧ Below w.heap.size w w' := by
  have H1 : Hid (RecsAt w v rs) := h
  have H2 : Hid (RecsAt w v' rs) := h'
  have HL : Hid (∀ r ∈ rs, r.length ≤ 140737488355328) := hl
  obtain ⟨a, cap, rfl, g2, g3, -, -⟩ := h
  obtain ⟨a2, cap2, rfl, -, -, -, -⟩ := h'
  clear hl
  go_enter Try.func21, Try.ntmps21
  go_wp2_with (fail)
  go_loopw [5] (fun i wr => ∃ j : Nat, j ≤ rs.length ∧ i = .int .i64 j ∧ Below w.heap.size w wr) (fun i _ => rs.length - (intOf i).toNat)
  case atStart => exact ⟨0, Nat.zero_le _, rfl, Below.refl _ _⟩
  case round =>
    obtain ⟨j, hj, rfl, hbel⟩ := hrel
    by_cases hlt : j < rs.length
    · have hlti : (j : Int) < (rs.length : Int) := by omega
      obtain ⟨b, off, ad, c, rfl, d0, u0⟩ := (H1.out.later hbel).get j hlt
      obtain ⟨b2, off2, ad2, c2, rfl, d1, u1⟩ := (H2.out.later hbel).get j hlt
      have hz := HL.out _ (List.getElem_mem hlt)
      have SB : Hid (∀ wx : World, Below wr.heap.size wr wx → Calls Try.prog 17 #[.slice ad (rs[j]).length c, .slice ad2 (rs[j]).length c2] wx fun e w' => e = .returned (.bool true) ∧ Below wx.heap.size wx w') := fun wx hw => by
        have := same_any wx _ _ _ _ ((u0.bytes hz).later hw) ((u1.bytes hz).later hw)
        rwa [decide_eq_true rfl] at this
      obtain ⟨m, hm⟩ : ∃ m, m = (rs[j]).length := ⟨_, rfl⟩
      rw [← hm] at SB d0 d1
      clear u0 u1 hz hm H1 H2 HL
      go_wp2_with (fail)
      go_region_held3 (fun w' => w'.cell? ⟨b, off + j, none⟩ = some (.slice ad m c) ∧ w'.cell? ⟨b2, off2 + j, none⟩ = some (.slice ad2 m c2))
        (first | (go_split_ands; refine ⟨?_, ?_⟩ <;> exact keepC hbx (by assumption)) | (go_keep; done))
        (first
          | (go_at_call 17; first | refine (SB.out _ (Below.refl _ _)).mono ?_ | refine (SB.out _ (Below.refl _ _).drew).mono ?_; rintro e x1 ⟨rfl, hbx⟩; have K1 := hbx))
      have L1 : Below wr.heap.size wr x1 := by first | exact K1 | exact (Below.refl _ _).drew.trans K1
      clear K1 hbx SB d0 d1
      go_wp2_with (fail)
      exact ⟨⟨j + 1, by omega, by go_num, hbel.trans (L1.mono hbel.size)⟩, by simp [intOf]; omega⟩
    · have ej : j = rs.length := by omega
      subst ej
      go_wp2_with (fail)
      go_ret
      exact ⟨rfl, hbel⟩
end Go.Proofs.Ytmhehohiodggcaa
