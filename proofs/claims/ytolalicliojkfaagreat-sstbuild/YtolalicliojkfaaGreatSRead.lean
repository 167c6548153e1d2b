/-
  Reading a block of a table: what the call answers, and what it leaves.
-/
import Derived.Test.YtolalicliojkfaaGreatSSearch
namespace Go.Proofs.YtolalicliojkfaaGreat
open Go.RowKit

/-- Nothing of what was there has turned but the table's count of blocks that were read: that is m. -/
def Turned (B m : Nat) (w w' : World) : Prop := w.grownBy w' (some B) ∧ ∀ v0 v1 v2 v3 v4 v5, w.heap[B]? = some (.cells #[v0, v1, v2, v3, v4, v5] 80 (0, 0)) → w'.heap[B]? = some (.cells #[v0, v1, v2, v3, v4, .int .i64 (m : Int)] 80 (0, 0))
theorem Turned.tab {w w' : World} {base B n m : Nat} {t : Ss.Tab} (h : TabAt w base B t n) (u : Turned B m w w') : TabAt w' base B t m := by
  obtain ⟨⟨bv, fv, pv, h1, ⟨h2, h3, h4⟩, h5, h6, h7⟩, h8⟩ := h
  exact ⟨⟨bv, fv, pv, u.2 _ _ _ _ _ _ h1, ⟨own_other h2 u.1 h5, own_other h3 u.1 h6, own_other h4 u.1 h7⟩, h5, h6, h7⟩, h8⟩
theorem Turned.below {w w' w2 : World} {B m : Nat} (u : Turned B m w w') (hb : Below w'.heap.size w' w2) : Turned B m w w2 := ⟨grownBy_trans u.1 (grown_any hb) (.inl rfl), fun _ _ _ _ _ _ h => keepB hb (u.2 _ _ _ _ _ _ h)⟩
theorem Turned.trans {w w' w2 : World} {B m k : Nat} (u : Turned B m w w') (v : Turned B k w' w2) : Turned B k w w2 := ⟨grownBy_trans u.1 v.1 (.inl rfl), fun _ _ _ _ _ _ h => v.2 _ _ _ _ _ _ (u.2 _ _ _ _ _ _ h)⟩
theorem Turned.new {w w' w2 : World} {B m R : Nat} (u : Turned B m w w') (hg : w'.grownBy w2 (some R)) (hR : w.heap.size ≤ R) (hB : B < w.heap.size) : Turned B m w w2 :=
  ⟨grownBy_trans u.1 hg (.inr ⟨R, rfl, hR⟩), fun _ _ _ _ _ _ h => (hg.block B (Nat.lt_of_lt_of_le hB u.1.size) (fun e => by have := Option.some.inj e; omega)).trans (u.2 _ _ _ _ _ _ h)⟩
theorem TabAt.turned {w : World} {base B n : Nat} {t : Ss.Tab} (h : TabAt w base B t n) : Turned B n w w := by
  obtain ⟨⟨bv, fv, pv, h1, _⟩, _⟩ := h
  refine ⟨World.grownBy.refl _ _, fun _ _ _ _ _ _ e => ?_⟩
  rw [h1] at e
  cases e
  exact h1
theorem turned_set {w : World} {B m : Nat} : Turned B m w (w.setCell ⟨B, 5, none⟩ (.int .i64 (m : Int))) := ⟨grown_set _ _ _ _, fun _ _ _ _ _ _ e => (Joins.block_setCell e _).trans rfl⟩
def ReadAns (w : World) (B : Nat) (t : Ss.Tab) (n : Nat) (p : Ss.Prt) (e : Ending) (w' : World) : Prop :=
  ∃ v E, e = .returned (.tuple #[v, .int .i64 E]) ∧ Hid ((Ss.readOk t p = true ∧ E = 0 ∧ w'.ownsRow w.heap.size 42 4 v (Ss.readL t p).length (ecs (Ss.readL t p))) ∨ (Ss.readOk t p = false ∧ E = 6 ∧ v = .slice none 0 0)) ∧ Turned B (n + 1) w w'

theorem grown_below {a b c : World} {r : Option Nat} (h : a.grownBy b r) (hb : Below b.heap.size b c) : a.grownBy c r := grownBy_trans h (grown_any hb) (.inl rfl)
theorem lastEnt_snoc (l : List Mm.Ent) (x : Mm.Ent) : Ss.lastEnt (l ++ [x]) = x := by
  induction l with
  | nil => rfl
  | cons y r ih =>
    cases r with
    | nil => rfl
    | cons z r => exact ih

set_option maxRecDepth 100000 in
set_option maxHeartbeats 8000000 in
theorem sread_any (w : World) (base B n : Nat) (t : Ss.Tab) (h : TabAt w base B t n) (p : Ss.Prt) (hp1 : 1 ≤ p.size) (hp2 : p.size ≤ p.fin) (hp3 : p.fin ≤ t.blocks.length) (hbl : t.blocks.length ≤ 1000000000) (hn : n ≤ 1000000000) :
    Calls Tryz.prog 50 #[.pointer (some ⟨B, 0, none⟩), prtV p] w fun e w' => ReadAns w B t n p e w' := by
  have hlt := h.lt
  obtain ⟨W1, hW1⟩ : ∃ W1, W1 = (w.setCell ⟨B, 5, none⟩ (.int .i64 ((n + 1 : Nat) : Int))).alloc (prtO (p.size : Int) (p.fin : Int) (str p.key) (str []) (p.seq : Int) false) := ⟨_, rfl⟩
  have T1 : TabAt W1 base B t (n + 1) := by rw [hW1]; exact h.read.later ((Below.refl _ _).alloc (Nat.le_refl _) _)
  have G1 : Turned B (n + 1) w W1 := by rw [hW1]; exact turned_set.below ((Below.refl _ _).alloc (Nat.le_refl _) _)
  have P1 : W1.heap[w.heap.size]? = some (prtO (p.size : Int) (p.fin : Int) (str p.key) (str []) (p.seq : Int) false) := by
    rw [hW1]
    have := World.alloc_heap_new (w.setCell ⟨B, 5, none⟩ (.int .i64 ((n + 1 : Nat) : Int))) (prtO (p.size : Int) (p.fin : Int) (str p.key) (str []) (p.seq : Int) false)
    simpa using this
  obtain ⟨ba, bc', fa, fc, pa, pc, ⟨c0, c1, c2, c3, c4, c5⟩, f5, _⟩ := h.cells
  have wn : IntKind.i64.wrap ((n : Int) + 1) = (n : Int) + 1 := by rw [IntKind.wrap_i64]; omega
  obtain ⟨PS, PF, PK, PQ⟩ := p
  simp only at hp1 hp2 hp3 hW1 P1
  unfold prtV
  have hne : ¬ w.heap.size = B := by omega
  clear h c0 c1 c2 c3 c4
  go_enter Tryz.func50, Tryz.ntmps50
  go_wp2_with (fail)
  rw [show ((n + 1 : Nat) : Int) = (n : Int) + 1 by omega] at hW1
  rw [← hW1]
  clear hW1 c5 f5 wn
  obtain ⟨G, hG⟩ : ∃ G, G = w.heap.size := ⟨_, rfl⟩
  have HGW := hide hG
  rw [← hG] at P1 ⊢
  obtain ⟨ba, bc', fa, fc, pa, pc, ⟨c0, c1, c2, c3, c4, c5⟩, f5, o1, _⟩ := T1.cells
  obtain ⟨hba, hbc⟩ := row_form o1
  have hne2 : t.blocks ≠ [] := by intro e; rw [e] at hp3; simp at hp3; omega
  obtain ⟨g, rfl⟩ : ∃ g, ba = some ⟨g, 0, none⟩ := by
    obtain ⟨g, cap, e⟩ := own_some o1 hne2
    simp only [Value.slice.injEq] at e
    exact ⟨g, e.1⟩
  have bi := bytes_of_own o1 (by omega)
  obtain ⟨lo, hlo⟩ : ∃ lo, lo = PF - PS := ⟨_, rfl⟩
  have HB : Hid (Ss.blk t ⟨PS, PF, PK, PQ⟩ = (t.blocks.drop lo).take PS) := by show _ = _; unfold Ss.blk; rw [hlo]
  have HD1 : Hid ((t.blocks.drop lo).length = t.blocks.length - lo) := List.length_drop
  have HD2 : Hid (((t.blocks.drop lo).take PS).length = PS) := by show _ = _; rw [List.length_take, HD1.out]; omega
  have WH : Hid (∀ wx, Below W1.heap.size W1 wx → Calls Tryz.prog 70 #[.slice (some ⟨g, lo, none⟩) PS (bc' - lo)] wx fun e w' => ∃ v, e = .returned (.tuple #[v, .bool (Ss.wholeOk (Ss.blk t ⟨PS, PF, PK, PQ⟩))]) ∧ Ext wx.heap.size wx (.slice none 0 0) w' v (Ss.whole (Ss.blk t ⟨PS, PF, PK, PQ⟩))) := fun wx hx => by
    rw [HB.out]
    refine whole_any wx _ _ PS _ HD2.out.symm ?_ (by omega)
    have h1 := bytes_from (bi.later hx) lo (n := (t.blocks.drop lo).length) (by omega) HD1.out (bc' - lo)
    rw [Nat.zero_add] at h1
    exact bytes_to h1 PS PS (by rw [HD1.out]; omega) rfl _
  have RO : Hid (Ss.readOk t ⟨PS, PF, PK, PQ⟩ = (Ss.wholeOk (Ss.blk t ⟨PS, PF, PK, PQ⟩) && (Bk.dGood (rdR (Ss.blk t ⟨PS, PF, PK, PQ⟩)) && (decide ((Ss.lastEnt (Bk.dEnts (rdR (Ss.blk t ⟨PS, PF, PK, PQ⟩)))).key = PK) && decide ((Ss.lastEnt (Bk.dEnts (rdR (Ss.blk t ⟨PS, PF, PK, PQ⟩)))).seq = PQ))))) := rfl
  have RL : Hid (Ss.readL t ⟨PS, PF, PK, PQ⟩ = Bk.dEnts (rdR (Ss.blk t ⟨PS, PF, PK, PQ⟩))) := rfl
  have HWH : Hid (Ss.wholeOk (Ss.blk t ⟨PS, PF, PK, PQ⟩) = true → Ss.whole (Ss.blk t ⟨PS, PF, PK, PQ⟩) = rdR (Ss.blk t ⟨PS, PF, PK, PQ⟩) ∧ (rdR (Ss.blk t ⟨PS, PF, PK, PQ⟩)).length ≤ 1048576) := fun e => by
    refine ⟨if_pos e, ?_⟩
    unfold Ss.wholeOk at e
    rw [Bool.and_eq_true, decide_eq_true_eq, decide_eq_true_eq] at e
    rw [rdR_length e.1]
    exact (rdE_good e.1).2
  obtain ⟨bb, hbb⟩ : ∃ bb, bb = Ss.blk t ⟨PS, PF, PK, PQ⟩ := ⟨_, rfl⟩
  rw [← hbb] at WH RO RL HWH
  obtain ⟨L, hL⟩ : ∃ L, L = t.blocks.length := ⟨_, rfl⟩
  rw [← hL] at c1 hbc hp3 hbl
  obtain ⟨d0, d1, d2, d3, d4, d5, _⟩ := slot6 P1
  have k1 : (PF : Int) - (PS : Int) = (lo : Int) := by omega
  have wk : IntKind.i64.wrap (lo : Int) = (lo : Int) := by rw [IntKind.wrap_i64]; omega
  have k2 : (lo : Int) ≤ (PF : Int) := by omega
  have k3 : (PF : Int) ≤ (bc' : Int) := by omega
  have k4 : (lo : Int) ≤ (bc' : Int) := by omega
  have k5 : ¬ bc' = lo := by omega
  have k6 : PF - lo = PS := by omega
  have k7 : (0 : Int) ≤ (lo : Int) := by omega
  have k8 : (PF : Int) ≤ (L : Int) := by omega
  have QQ : Hid (∀ wx, Below W1.heap.size W1 wx → wx.cell? ⟨G, 0, none⟩ = some (.int .i64 (PS : Int)) ∧ wx.cell? ⟨G, 1, none⟩ = some (.int .i64 (PF : Int)) ∧ wx.cell? ⟨B, 1, none⟩ = some (.slice (some ⟨g, 0, none⟩) L bc')) := fun wx hw => ⟨keepC hw d0, keepC hw d1, keepC hw c1⟩
  have Q1 := QQ.out W1.drew (Below.refl _ _).drew
  have T1' := hide T1
  have P1' := hide P1
  have G1' := hide G1
  clear T1 P1 G1 o1 bi hba hne2 hlo hbb HB HD1 HD2 hL c0 c1 c2 c3 c4 c5 f5 d0 d1 d2 d3 d4 d5 hG hp1 hp2 hp3
  go_region_held3 (fun wx => wx.cell? ⟨G, 0, none⟩ = some (.int .i64 (PS : Int)) ∧ wx.cell? ⟨G, 1, none⟩ = some (.int .i64 (PF : Int)) ∧ wx.cell? ⟨B, 1, none⟩ = some (.slice (some ⟨g, 0, none⟩) L bc'))
    (first | exact Q1 | exact Q2)
    (first
      | (go_at_call 70; refine (WH.out _ (Below.refl _ _).drew).mono ?_; rintro e w2 ⟨v2, rfl, x2⟩; have b2 := (Below.refl W1.heap.size W1).drew.trans (x2.below (Nat.le_refl _) (by simp [Value.ownBlock])); have Q2 := QQ.out _ b2))
  clear WH QQ Q1 Q2
  have P2 := keepB b2 P1'.out
  have G2 := hide (G1'.out.below b2)
  have X2 := hide x2.own
  cases hok : Ss.wholeOk bb with
  | false =>
    have HO : Hid (Ss.readOk t ⟨PS, PF, PK, PQ⟩ = false) := by show _ = _; rw [RO.out, hok, Bool.false_and]
    go_wp2_with (fail)
    go_ret2
    exact ⟨_, _, rfl, .inr ⟨HO.out, rfl, rfl⟩, G2.out⟩
  | true =>
    obtain ⟨e1, e2⟩ := HWH.out hok
    rw [hok, Bool.true_and] at RO
    rw [e1] at X2
    generalize rdR bb = rr at *
    obtain ⟨ra, rc, rfl⟩ := row_shape X2.out
    obtain ⟨hra, hrc⟩ := row_form X2.out
    have DC := bdecode_any w2 ra rc rr (bytes_of_own X2.out (by omega)) hrc (by rintro rfl; rcases hra with ⟨_, h⟩ | ⟨g, o, h⟩ <;> first | exact h | cases h) (by omega)
    go_wp2_with (fail)
    refine DC.mono ?_
    rintro e w3 ⟨v3, E3, rfl, HD, b3⟩
    clear DC hok HWH
    have P3 := keepB b3 P2
    have G3 := hide (G2.out.below b3)
    have zz : G ≤ w2.heap.size := by have := (Array.getElem?_eq_some_iff.1 P2).1; omega
    rcases HD.out with ⟨hg, rfl, o3⟩ | ⟨hg, rfl, rfl⟩
    · obtain ⟨n1, n2, _, _⟩ := Bk.checkE_ok (Bk.enc_back rr hg).1
      rw [hg, Bool.true_and] at RO
      generalize Bk.dEnts rr = l at *
      have RO3 := hide (own_lift o3 (show w.heap.size ≤ w2.heap.size by have := HGW.out; omega))
      rcases List.eq_nil_or_concat l with ho | ⟨l', x, ho⟩
      · rw [ho] at n1; simp at n1
      rw [List.concat_eq_append] at ho
      have hlen : l.length = l'.length + 1 := by rw [ho]; simp
      have hx : l[l'.length]'(by omega) = x := by simp [ho]
      have hle : Ss.lastEnt l = x := by rw [ho, lastEnt_snoc]
      rw [hle] at RO
      have EA := EntsAt.own o3
      obtain ⟨va, vc, rfl⟩ := row_shape o3
      obtain ⟨eb, eoff, rfl⟩ := EA.some (by omega)
      obtain ⟨d0, d1, d2, d3⟩ := EA.cells l'.length (by omega)
      rw [hx] at d0 d1 d2 d3
      have HLN := hide hlen
      rw [hlen] at n2
      obtain ⟨XK, XV, XQ, XD⟩ := x
      simp only at RO d0 d1 d2 d3
      obtain ⟨p0, p1, p2, p3, p4, p5, pz⟩ := slot6 P3
      have RLh := RL
      clear hx hle EA o3 ho n1 HD hg RL HLN
      generalize l'.length = k at *
      have q1 : ((k + 1 : Nat) : Int) > 0 := by omega
      have q2 : (k : Int) < ((k + 1 : Nat) : Int) := by omega
      have q3 : (0 : Int) ≤ (k : Int) := by omega
      have q4 : (k : Int) < (k : Int) + 1 := by omega
      have wm : IntKind.i64.wrap (k : Int) = (k : Int) := by rw [IntKind.wrap_i64]; omega
      have wm1 : IntKind.i64.wrap ((k : Int) + 1) = (k : Int) + 1 := by rw [IntKind.wrap_i64]; omega
      have hnG : ¬ w3.heap.size = G := by omega
      have aM : Below w3.heap.size w3 (w3.alloc (.cells #[str XK, str XV, .int .i64 XQ, .bool XD] 42)) := (Below.refl _ _).alloc (Nat.le_refl _) _
      by_cases hK : XK = PK
      · subst hK
        by_cases hQ : XQ = (PQ : Int)
        · have HO : Hid (Ss.readOk t ⟨PS, PF, XK, PQ⟩ = true) := by show _ = _; rw [RO.out, decide_eq_true rfl, decide_eq_true hQ]; rfl
          have HRL : Hid (Ss.readL t ⟨PS, PF, XK, PQ⟩ = l) := RLh.out
          subst hQ
          clear RO RLh
          go_wp2_with (fail)
          go_ret2
          refine ⟨_, _, rfl, .inl ⟨HO.out, rfl, ?_⟩, G3.out.below aM⟩
          have oo := own_after RO3.out aM
          rw [hlen] at oo
          rw [HRL.out, hlen]
          exact oo
        · have HO : Hid (Ss.readOk t ⟨PS, PF, XK, PQ⟩ = false) := by show _ = _; rw [RO.out, decide_eq_false hQ, Bool.and_false]
          have hq : (XQ != (PQ : Int)) = true := by simpa using hQ
          clear RO RLh
          go_wp2_with (fail)
          go_ret2
          exact ⟨_, _, rfl, .inr ⟨HO.out, rfl, rfl⟩, G3.out.below aM⟩
      · have HO : Hid (Ss.readOk t ⟨PS, PF, PK, PQ⟩ = false) := by show _ = _; rw [RO.out, decide_eq_false hK, Bool.false_and]
        have hq : (XK == PK) = false := by simpa using hK
        clear RO RLh hK
        go_wp2_with (fail)
        go_ret2
        exact ⟨_, _, rfl, .inr ⟨HO.out, rfl, rfl⟩, G3.out.below aM⟩
    · have HO : Hid (Ss.readOk t ⟨PS, PF, PK, PQ⟩ = false) := by show _ = _; rw [RO.out, hg, Bool.false_and]
      clear RO RL HD
      go_wp2_with (fail)
      go_ret2
      exact ⟨_, _, rfl, .inr ⟨HO.out, rfl, rfl⟩, G3.out⟩
end Go.Proofs.YtolalicliojkfaaGreat
