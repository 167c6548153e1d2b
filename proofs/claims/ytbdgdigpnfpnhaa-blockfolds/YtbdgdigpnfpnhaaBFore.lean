/-
  Which list is foremost: what the program's call answers.
-/
import Derived.Test.YtbdgdigpnfpnhaaBLent
import Derived.Test.YtbdgdigpnfpnhaaKD
namespace Go.Proofs.Ytbdgdigpnfpnhaa
open Go.RowKit

/-- Lists of entries, one value each: where they lie. -/
structure LLs (w : World) (vs : List Value) (ls : List (List Mm.Ent)) : Prop where
  len : vs.length = ls.length
  at' : ∀ k (h : k < ls.length) (h' : k < vs.length), ∃ a c, vs[k] = .slice a ls[k].length c ∧ ls[k].length ≤ c ∧ c ≤ 9223372036854775807 ∧ EntsAt w (.slice a ls[k].length c) ls[k]
theorem LLs.later {w w' : World} {vs : List Value} {ls : List (List Mm.Ent)} (h : LLs w vs ls) (hb : Below w.heap.size w w') : LLs w' vs ls :=
  ⟨h.len, fun k h1 h2 => by obtain ⟨a, c, e, h3, h4, h5⟩ := h.at' k h1 h2; exact ⟨a, c, e, h3, h4, h5.later hb⟩⟩

theorem head0 (l : List Mm.Ent) (h : 0 < l.length) (d : Mm.Ent) : l[0] = l.headD d := by
  cases l with
  | nil => simp at h
  | cons y r => rfl
/-- The first entry of a list that has one. -/
theorem LLs.first {w : World} {vs : List Value} {ls : List (List Mm.Ent)} (h : LLs w vs ls) (k : Nat) (h1 : k < ls.length) (hne : ls[k] ≠ []) (h2 : k < vs.length) :
    ∃ b off m c, vs[k] = .slice (some ⟨b, off, none⟩) (m + 1) c ∧ ls[k].length = m + 1 ∧ m + 1 ≤ c ∧ c ≤ 9223372036854775807 ∧ EntsAt w (.slice (some ⟨b, off, none⟩) (m + 1) c) ls[k] ∧
      (w.cell? ⟨b, off, none⟩ = some (str (Bk.hdAt ls k).key) ∧ w.cell? ⟨b, off + 1, none⟩ = some (str (Bk.hdAt ls k).value) ∧ w.cell? ⟨b, off + 2, none⟩ = some (.int .i64 (Bk.hdAt ls k).seq) ∧ w.cell? ⟨b, off + 3, none⟩ = some (.bool (Bk.hdAt ls k).del)) := by
  obtain ⟨a, c, e, h3, h4, h5⟩ := h.at' k h1 h2
  have h0 : 0 < ls[k].length := List.length_pos_iff.2 hne
  obtain ⟨b, off, rfl⟩ := h5.some h0
  obtain ⟨m, hm⟩ : ∃ m, ls[k].length = m + 1 := ⟨ls[k].length - 1, by omega⟩
  have hc := h5.cells 0 h0
  have hd : ls[k][0] = Bk.hdAt ls k := by
    unfold Bk.hdAt
    rw [Bk.getD_at ls k h1]
    exact head0 _ h0 _
  rw [hd, Nat.zero_mul, Nat.add_zero] at hc
  rw [hm] at e h3 h5
  exact ⟨b, off, m, c, e, hm, h3, h4, h5, hc⟩

set_option maxRecDepth 100000 in
set_option maxHeartbeats 4000000 in
theorem foremost_any (w : World) (g n cap : Nat) (vs : List Value) (ls : List (List Mm.Ent)) (hn : n = ls.length) (hc : ∀ k (h : k < vs.length), w.cell? ⟨g, k, none⟩ = some vs[k]) (hL : LLs w vs ls) (hne : ∀ x ∈ ls, x ≠ []) (h0 : 0 < n) (hn2 : n ≤ 1000000) :
    Calls Try.prog 62 #[.slice (some ⟨g, 0, none⟩) n cap] w fun e w' => e = .returned (.int .i64 ((Bk.fore ls : Nat) : Int)) ∧ Below w.heap.size w w' := by
  have HN : Hid (n = ls.length) := hn
  have HC : Hid (∀ k (h : k < vs.length), w.cell? ⟨g, k, none⟩ = some vs[k]) := hc
  have HL := hide hL
  have HNE : Hid (∀ x ∈ ls, x ≠ []) := hne
  clear hn hc hL hne
  go_enter Try.func62, Try.ntmps62
  go_wp2_with (fail)
  go_loopw [3, 8] (fun x i wr => ∃ (j bst : Nat), j ≤ n ∧ bst < n ∧ i = .int .i64 j ∧ x = .int .i64 bst ∧ Hid (bst = Bk.foreN ls j) ∧ Below w.heap.size w wr) (fun _ i _ => n - (intOf i).toNat)
  case atStart => exact ⟨0, 0, Nat.zero_le _, h0, rfl, rfl, rfl, Below.refl _ _⟩
  case round =>
    obtain ⟨j, bst, hj, hb, rfl, rfl, HB, bx⟩ := hrel
    by_cases hlt : j < n
    · have jl : j < ls.length := by have := HN.out; omega
      have jv : j < vs.length := by rw [HL.out.len]; exact jl
      have bl : bst < ls.length := by have := HN.out; omega
      have bv : bst < vs.length := by rw [HL.out.len]; exact bl
      obtain ⟨b1, o1, m1, c1, e1, l1, k1, f1, f2, x0, x1, x2, x3⟩ := (HL.out).first j jl (HNE.out _ (List.getElem_mem jl)) jv
      obtain ⟨b2, o2, m2, c2, e2, l2, k2, f3, f4, y0, y1, y2, y3⟩ := (HL.out).first bst bl (HNE.out _ (List.getElem_mem bl)) bv
      clear f1 f2 f3 f4 l1 l2
      have vj := HC.out j jv
      have vb := HC.out bst bv
      rw [e1] at vj
      rw [e2] at vb
      have AH : Hid (∀ wx, Calls Try.prog 13 #[entV (Bk.hdAt ls j), entV (Bk.hdAt ls bst)] wx fun e w' => e = .returned (.bool (Mm.ahead (Bk.hdAt ls j) (Bk.hdAt ls bst))) ∧ Below wx.heap.size wx w') := fun wx => ahead_any wx _ _
      have HNX : Hid (Bk.foreN ls (j + 1) = if Mm.ahead (Bk.hdAt ls j) (Bk.hdAt ls bst) = true then j else bst) := by show _ = _; rw [Bk.foreN, ← HB.out]
      generalize Bk.hdAt ls j = X at *
      generalize Bk.hdAt ls bst = Y at *
      have KC : Hid (∀ wx, Below w.heap.size w wx → ((wx.cell? ⟨b1, o1, none⟩ = some (str X.key) ∧ wx.cell? ⟨b1, o1 + 1, none⟩ = some (str X.value) ∧ wx.cell? ⟨b1, o1 + 2, none⟩ = some (.int .i64 X.seq) ∧ wx.cell? ⟨b1, o1 + 3, none⟩ = some (.bool X.del)) ∧ wx.cell? ⟨g, bst, none⟩ = some (.slice (some ⟨b2, o2, none⟩) (m2 + 1) c2) ∧ wx.cell? ⟨b2, o2, none⟩ = some (str Y.key) ∧ wx.cell? ⟨b2, o2 + 1, none⟩ = some (str Y.value) ∧ wx.cell? ⟨b2, o2 + 2, none⟩ = some (.int .i64 Y.seq) ∧ wx.cell? ⟨b2, o2 + 3, none⟩ = some (.bool Y.del))) := fun wx hw =>
        ⟨⟨keepC hw x0, keepC hw x1, keepC hw x2, keepC hw x3⟩, keepC hw vb, keepC hw y0, keepC hw y1, keepC hw y2, keepC hw y3⟩
      have P1 := KC.out wr.drew bx.drew
      have cj := keepC bx vj
      have z1 : (0 : Int) < ((m1 + 1 : Nat) : Int) := by omega
      have z2 : (0 : Int) < ((m2 + 1 : Nat) : Int) := by omega
      have z1' : (0 : Int) < (m1 : Int) + 1 := by omega
      have z2' : (0 : Int) < (m2 : Int) + 1 := by omega
      have jn : (j : Int) < (n : Int) := by omega
      have bn : (bst : Int) < (n : Int) := by omega
      obtain ⟨R, hR⟩ : ∃ R, R = Mm.ahead X Y := ⟨_, rfl⟩
      rw [← hR] at AH HNX
      clear x0 x1 x2 x3 y0 y1 y2 y3 vj vb e1 e2 hR jl jv bl bv HB
      cases R
      · have HNX' : Hid (bst = Bk.foreN ls (j + 1)) := by show _ = _; rw [HNX.out]; rfl
        clear HNX
        go_wp2_with (fail)
        go_region_held3 (fun wx => (wx.cell? ⟨b1, o1, none⟩ = some (str X.key) ∧ wx.cell? ⟨b1, o1 + 1, none⟩ = some (str X.value) ∧ wx.cell? ⟨b1, o1 + 2, none⟩ = some (.int .i64 X.seq) ∧ wx.cell? ⟨b1, o1 + 3, none⟩ = some (.bool X.del)) ∧ wx.cell? ⟨g, bst, none⟩ = some (.slice (some ⟨b2, o2, none⟩) (m2 + 1) c2) ∧ wx.cell? ⟨b2, o2, none⟩ = some (str Y.key) ∧ wx.cell? ⟨b2, o2 + 1, none⟩ = some (str Y.value) ∧ wx.cell? ⟨b2, o2 + 2, none⟩ = some (.int .i64 Y.seq) ∧ wx.cell? ⟨b2, o2 + 3, none⟩ = some (.bool Y.del))
          (first | exact P1 | exact P2)
          (first
            | (go_at_call 13; refine (AH.out _).mono ?_; rintro r w8 ⟨rfl, b8⟩; have D8 := bx.drew.trans (b8.mono bx.drew.size); have P2 := KC.out _ D8))
        go_wp2_with (fail)
        exact ⟨⟨j + 1, bst, by omega, hb, by go_num, rfl, HNX', D8⟩, by simp [intOf]; omega⟩
      · have HNX' : Hid (j = Bk.foreN ls (j + 1)) := by show _ = _; rw [HNX.out]; rfl
        clear HNX
        go_wp2_with (fail)
        go_region_held3 (fun wx => (wx.cell? ⟨b1, o1, none⟩ = some (str X.key) ∧ wx.cell? ⟨b1, o1 + 1, none⟩ = some (str X.value) ∧ wx.cell? ⟨b1, o1 + 2, none⟩ = some (.int .i64 X.seq) ∧ wx.cell? ⟨b1, o1 + 3, none⟩ = some (.bool X.del)) ∧ wx.cell? ⟨g, bst, none⟩ = some (.slice (some ⟨b2, o2, none⟩) (m2 + 1) c2) ∧ wx.cell? ⟨b2, o2, none⟩ = some (str Y.key) ∧ wx.cell? ⟨b2, o2 + 1, none⟩ = some (str Y.value) ∧ wx.cell? ⟨b2, o2 + 2, none⟩ = some (.int .i64 Y.seq) ∧ wx.cell? ⟨b2, o2 + 3, none⟩ = some (.bool Y.del))
          (first | exact P1 | exact P2)
          (first
            | (go_at_call 13; refine (AH.out _).mono ?_; rintro r w8 ⟨rfl, b8⟩; have D8 := bx.drew.trans (b8.mono bx.drew.size); have P2 := KC.out _ D8))
        go_wp2_with (fail)
        exact ⟨⟨j + 1, j, by omega, hlt, by go_num, rfl, HNX', D8⟩, by simp [intOf]; omega⟩
    · have HE : Hid (bst = Bk.fore ls) := by
        show _ = _
        have e : j = ls.length := by have := HN.out; omega
        rw [HB.out, e]
        rfl
      have jn : ¬ (j : Int) < (n : Int) := by omega
      go_wp2_with (fail)
      go_ret
      rw [HE.out]
      exact ⟨rfl, bx⟩
end Go.Proofs.Ytbdgdigpnfpnhaa
