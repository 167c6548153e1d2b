/-
  Decode: what bytes tell of a block.
-/
import Derived.Test.YtbdgdigpnfpnhaaBEnt
namespace Go.Proofs.Ytbdgdigpnfpnhaa
open Go.RowKit

theorem infoE : (Try.prog.info? 38).map (fun i => (i.zero, i.size, i.bytes)) = some (some (.agg #[.string ⟨#[]⟩, .string ⟨#[]⟩, .int .i64 0, .bool false]), 4, 48) := by kernel_rfl
theorem ec_new (W : World) (x : Mm.Ent) (B : Nat) (hB : B = W.heap.size) : ∀ j u, (ecs [x])[j]? = some u → (W.alloc (.cells #[str x.key, str x.value, .int .i64 x.seq, .bool x.del] 38)).cell? ((⟨B, 0, none⟩ : Addr).add j) = some u := by
  subst hB
  intro j u hu
  have hadd : (⟨W.heap.size, 0, none⟩ : Addr).add j = ⟨W.heap.size, j, none⟩ := by unfold Addr.add; split <;> simp_all
  rw [hadd]
  refine (Joins.cell_of_block (World.alloc_heap_new W _) j).trans ?_
  have : (ecs [x]) = [str x.key, str x.value, .int .i64 x.seq, .bool x.del] := rfl
  rw [this] at hu
  rw [← hu]
  rcases j with _ | _ | _ | _ | j <;> rfl
theorem own_moved {w w' : World} {base e size n : Nat} {v : Value} {xs : List Value} {S : Nat → Prop} (h : w.ownsRow base e size v n xs) (m : Moved S w w') (hS : ∀ i, S i → i < base) : w'.ownsRow base e size v n xs := by
  refine ⟨h.1, ?_⟩
  rcases h.2 with h0 | ⟨g, cap, cur, rfl, hb, hg, hr⟩
  · exact .inl h0
  · exact .inr ⟨g, cap, cur, rfl, hb, (m.block g (Array.getElem?_eq_some_iff.1 hg).1 (fun hs => by have := hS g hs; omega)).trans hg, hr⟩
theorem own_lift {w : World} {base base' e size n : Nat} {v : Value} {xs : List Value} (h : w.ownsRow base e size v n xs) (hb : base' ≤ base) : w.ownsRow base' e size v n xs := by
  refine ⟨h.1, ?_⟩
  rcases h.2 with h' | ⟨g, cap, cur, e, h1, h2⟩
  · exact .inl h'
  · exact .inr ⟨g, cap, cur, e, Nat.le_trans hb h1, h2⟩
theorem grown_moved {w w' : World} {r : Option Nat} (h : w.grownBy w' r) : Moved (fun i => r = some i) w w' := ⟨h.os, h.tape, h.output, h.size, fun i hi hs => h.block i hi (fun e => hs e.symm)⟩

/-- What the loop of Decode has behind j entries. -/
structure DecB (w wr : World) (b : List UInt8) (G j : Nat) (v : Value) : Prop where
  rd : RdS wr w.heap.size b (Bk.rents (Bk.dFrom b) j 0 [])
  own : wr.ownsRow (G + 1) 38 4 v j (ecs (Bk.rentsX (Bk.dFrom b) j 0 []))
  res : wr.heap[G]? = some (rO w.heap.size)
  bel : Below w.heap.size w wr
  top : w.heap.size + 5 < G
theorem key_small (b : List UInt8) (j : Nat) (hj : j ≤ 64) : (Bk.lastK [] (Bk.rentsX (Bk.dFrom b) j 0 [])).length ≤ 900000 := by
  refine Bk.lastK_le _ 900000 [] (by simp) (fun x hx => ?_)
  have := (Bk.rentsX_len j (Bk.dFrom b) 0 [] 0 (by simp) x hx).1
  omega

set_option maxRecDepth 100000 in
set_option maxHeartbeats 8000000 in
theorem bdecode_any (w : World) (a : Option Addr) (c : Nat) (b : List UInt8) (h : BytesIn w (.slice a b.length c) b) (hcap : b.length ≤ c) (hno : a = none → c = 0) (hlen : b.length ≤ 1000000000) :
    Calls Try.prog 59 #[.slice a b.length c] w fun e w' => ∃ v E, e = .returned (.tuple #[v, .int .i64 E]) ∧ Hid ((Bk.dGood b = true ∧ E = 0 ∧ w'.ownsRow w.heap.size 38 4 v (Bk.dEnts b).length (ecs (Bk.dEnts b))) ∨ (Bk.dGood b = false ∧ E = 5 ∧ v = .slice none 0 0)) ∧ Below w.heap.size w w' := by
  obtain ⟨i0, hi, hz0, hz1, hz2⟩ := info_parts infoE
  have RO := readerOf_any w a c b h hcap hno hlen
  have hm64 : Bk.dMany b ≤ 64 := Bk.rnumX_le _ _
  have NM : Hid (∀ wx, RdC wx w.heap.size a c b 0 false → Calls Try.prog 90 #[.int .i64 64, pt w.heap.size, pt (w.heap.size + 2), pt (w.heap.size + 4), pt (w.heap.size + 3)] wx fun e w' => e = .returned (.int .i64 (Bk.dMany b : Nat)) ∧ RdS w' w.heap.size b (Bk.dFrom b) ∧ Moved (rdT w.heap.size) wx w' ∧ w'.heap.size = wx.heap.size) := fun wx hx => num_s (s := ⟨b, false⟩) 64 ⟨a, c, 0, hx, rfl⟩ (by decide)
  clear h hcap hno hlen
  go_enter Try.func59, Try.ntmps59
  go_wp2_with (first
    | (go_at_call 82; refine RO.mono ?_; rintro e w1 ⟨rfl, r1, b1⟩; have W1 : Hid _ := World.alloc_heap_new w1 (rO w.heap.size); clear RO)
    | (go_at_call 90; refine (NM.out _ (r1.later ((Below.refl _ _).alloc (Nat.le_refl _) _))).mono ?_; rintro e w2 ⟨rfl, r2, m2, z2⟩; clear NM))
  have ht := r1.lt
  have D2 : DecB w w2 b w1.heap.size 0 (.slice none 0 0) := by
    refine ⟨r2, World.ownsRow_nil _ _ _ _, (m2.block _ (by simp) (by simp only [rdT]; omega)).trans W1.out, (b1.alloc b1.size _).trans (m2.under (by have := b1.size; simp; omega) (fun i hi => by simp only [rdT] at hi; omega)), ht⟩
  obtain ⟨G, hG⟩ : ∃ G, G = w1.heap.size := ⟨_, rfl⟩
  rw [← hG] at D2 ⊢
  have GL : w.heap.size + 5 < G := by omega
  clear r1 r2 m2 z2 b1 W1 ht hG
  generalize hm : Bk.dMany b = m at hm64
  have HM : Hid (Bk.dMany b = m) := hm
  clear hm
  go_loopw [5, 6, 15] (fun v t i wr => ∃ j : Nat, j ≤ m ∧ i = .int .i64 j ∧ t = str (Bk.lastK [] (Bk.rentsX (Bk.dFrom b) j 0 [])) ∧ DecB w wr b G j v) (fun _ _ i _ => m - (intOf i).toNat)
  case atStart => exact ⟨0, Nat.zero_le _, rfl, rfl, D2⟩
  case round =>
    obtain ⟨j, hj, rfl, rfl, D⟩ := hrel
    clear D2
    by_cases hlt : j < m
    · have EN := entry_s wr w.heap.size b _ j (Bk.lastK [] (Bk.rentsX (Bk.dFrom b) j 0 [])) D.rd (by omega) (key_small b j (by omega))
      obtain ⟨q1, q2⟩ := Bk.rents_more j (Bk.dFrom b) 0 []
      rw [Nat.zero_add] at q1 q2
      have HX : Hid (ecs (Bk.rentsX (Bk.dFrom b) (j + 1) 0 []) = ecs (Bk.rentsX (Bk.dFrom b) j 0 []) ++ ecs [Bk.rentX j (Bk.lastK [] (Bk.rentsX (Bk.dFrom b) j 0 [])) (Bk.rents (Bk.dFrom b) j 0 [])]) := by show _ = _; rw [q1, ecs_append]
      have HK : Hid (Bk.lastK [] (Bk.rentsX (Bk.dFrom b) (j + 1) 0 []) = (Bk.rentX j (Bk.lastK [] (Bk.rentsX (Bk.dFrom b) j 0 [])) (Bk.rents (Bk.dFrom b) j 0 [])).key) := by show _ = _; rw [q1, Bk.lastK_snoc]
      have HR : Hid _ := q2
      rw [← q2] at EN
      generalize Bk.rentX j (Bk.lastK [] (Bk.rentsX (Bk.dFrom b) j 0 [])) (Bk.rents (Bk.dFrom b) j 0 []) = x at *
      have CN : Hid (∀ W : World, ∀ B, B = W.heap.size → ∀ i u, (ecs [x])[i]? = some u → (W.alloc (.cells #[str x.key, str x.value, .int .i64 x.seq, .bool x.del] 38)).cell? ((⟨B, 0, none⟩ : Addr).add i) = some u) := fun W B hB => ec_new W x B hB
      obtain ⟨d1, d2, d3, d4, d5⟩ := D
      have gs : G < wr.heap.size := (Array.getElem?_eq_some_iff.1 d3).1
      obtain ⟨c0, c1, c2, c3⟩ : wr.cell? ⟨G, 0, none⟩ = some (mustV w.heap.size) ∧ wr.cell? ⟨G, 1, none⟩ = some (numV w.heap.size) ∧ wr.cell? ⟨G, 2, none⟩ = some (textV w.heap.size) ∧ wr.cell? ⟨G, 3, none⟩ = some (endV w.heap.size) := ⟨Joins.cell_of_block d3 0, Joins.cell_of_block d3 1, Joins.cell_of_block d3 2, Joins.cell_of_block d3 3⟩
      have HD2 := hide d2
      have HD3 : Hid (wr.heap[G]? = some (rO w.heap.size)) := d3
      have HL : Hid ((ecs [x]).length = 1 * 4) := rfl
      have HO : Hid (∀ u ∈ ecs [x], u.oneCell' = true) := ecs_one [x]
      have Z1 : Hid (j + 1 ≤ maxLen) := by show _ ≤ _; unfold maxLen; omega
      have Z2 : Hid ((j + 1) * 48 ≤ 140737488355328) := by show _ ≤ _; omega
      obtain ⟨K, V, Q, Dl⟩ := x
      simp only at EN CN HK
      clear d1 d2 d3 HM q1 q2
      go_wp2_with (first
        | (go_at_call 83; refine EN.mono ?_; rintro e w3 ⟨rfl, r3, m3⟩; have s3 := m3.size; have o3 := hide (own_moved HD2.out m3 (fun i hi => by simp only [rdT] at hi; omega)); clear EN)
        | (at_builtin; refine wpList_append_lies _ rfl _ _ 23 rfl (G + 1) 38 i0 _ 4 48 Try.underlying23 hi hz0 hz1 hz2 rfl (by decide) _ j _ rfl ((o3.out.alloc _).alloc _) ⟨w3.heap.size + 1, 0, none⟩ 1 1 (ecs [⟨K, V, Q, Dl⟩]) rfl HL.out (CN.out _ _ (by simp)) HO.out (by decide) Z1.out Z2.out (by simp; omega) _ rfl ?_; intro g4 cap4 w4 o4 h4 l4 lt4; have kx : w4.cell? ⟨w3.heap.size, 0, none⟩ = some (str K) := h4.cell (keepC ((Below.refl _ _).alloc (Nat.le_refl _) _) (Joins.cell_of_block (World.alloc_heap_new w3 _) 0)) (fun e => absurd (o3.out.lt _ e.symm).2 (Nat.lt_irrefl _))))
      have a2 : Below w3.heap.size w3 ((w3.alloc (.cells #[str K, str V, .int .i64 Q, .bool Dl] 38)).alloc (.cells #[str K, str V, .int .i64 Q, .bool Dl] 38)) := ((Below.refl _ _).alloc (Nat.le_refl _) _).alloc (by simp) _
      have m4 := grown_moved h4
      have hq : ∀ i, _ = some i → G < i := fun i hi => by have := (o3.out.lt i hi).1; omega
      have R4 : RdS w4 w.heap.size b (Bk.rents (Bk.dFrom b) (j + 1) 0 []) := (r3.later a2).same m4 (fun i hi => by have := hq i hi; omega)
      have P4 : w4.heap[G]? = some (rO w.heap.size) := by
        have p3 : w3.heap[G]? = some (rO w.heap.size) := (m3.block G gs (by simp only [rdT]; omega)).trans HD3.out
        refine (m4.block G (Nat.lt_of_lt_of_le (show G < w3.heap.size by omega) a2.size) (fun e => by have := hq G e; omega)).trans (keepB a2 p3)
      have B4 : Below w.heap.size w w4 := (d4.trans ((m3.under d4.size (fun i hi => by simp only [rdT] at hi; omega)).trans (a2.mono (Nat.le_trans d4.size s3)))).trans (m4.under (Nat.le_trans (Nat.le_trans d4.size s3) a2.size) (fun i hi => by have := hq i hi; omega))
      rw [← HX.out] at o4
      exact ⟨⟨j + 1, by omega, by go_num, by rw [HK.out], ⟨R4, o4, P4, B4, d5⟩⟩, by simp [intOf]; omega⟩
    · have e : j = m := by omega
      subst e
      have i3 : ¬ (j : Int) < (j : Int) := by omega
      have hw : Bk.dEnts b = Bk.rentsX (Bk.dFrom b) j 0 [] := by unfold Bk.dEnts; rw [HM.out]
      have hl : Bk.dLast b = Bk.rents (Bk.dFrom b) j 0 [] := by unfold Bk.dLast; rw [HM.out]
      have hwl : (Bk.dEnts b).length = j := by rw [hw, Bk.rentsX_length]
      obtain ⟨d1, d2, d3, d4, d5⟩ := D
      rw [← hw] at d2
      rw [← hl] at d1
      have hsm : ∀ x ∈ Bk.dEnts b, x.key.length ≤ 1000000 ∧ x.value.length ≤ 1000000 := by
        rw [hw]
        intro x hx
        have := Bk.rentsX_len j (Bk.dFrom b) 0 [] 0 (by simp) x hx
        omega
      have d2' := d2
      rw [← hwl] at d2'
      have EA := EntsAt.own d2'
      have sh := row_shape d2
      obtain ⟨va, vc, rfl⟩ := sh
      clear d2'
      have CK : Hid (∀ wx, Below wr.heap.size wr wx → Calls Try.prog 78 #[.slice va j vc] wx fun e w' => e = .returned (.int .i64 (Bk.checkE (Bk.dEnts b))) ∧ Below wx.heap.size wx w') := fun wx hx => bcheck_any wx va vc j (Bk.dEnts b) (EA.later hx) hwl.symm (by omega) hsm _ rfl
      have gs : G < wr.heap.size := (Array.getElem?_eq_some_iff.1 d3).1
      have DG : Hid (Bk.dGood b = !(Bk.dEnd b).bad) := rfl
      have DE : Hid (Bk.dEnd b = Bk.mst (Bk.mst (Bk.dLast b) (Bk.checkE (Bk.dEnts b) == 0)) (decide ((Bk.mst (Bk.dLast b) (Bk.checkE (Bk.dEnts b) == 0)).rest = []))) := by
        show _ = _
        unfold Bk.dEnd
        congr 2
      have MU : Hid (∀ wx, RdS wx w.heap.size b (Bk.dLast b) → Calls Try.prog 89 #[.bool (Bk.checkE (Bk.dEnts b) == 0), pt (w.heap.size + 3)] wx fun e w' => e = .returned (.tuple #[]) ∧ RdS w' w.heap.size b (Bk.mst (Bk.dLast b) (Bk.checkE (Bk.dEnts b) == 0)) ∧ Moved (rdT w.heap.size) wx w' ∧ w'.heap.size = wx.heap.size) := fun wx hx => must_s _ hx
      have EN : Hid (∀ wx, RdS wx w.heap.size b (Bk.mst (Bk.dLast b) (Bk.checkE (Bk.dEnts b) == 0)) → Calls Try.prog 93 #[pt (w.heap.size + 4), pt (w.heap.size + 2), pt w.heap.size, pt (w.heap.size + 3)] wx fun e w' => e = .returned (errV (Bk.dEnd b).bad) ∧ Moved (rdT w.heap.size) wx w' ∧ w'.heap.size = wx.heap.size) := fun wx hx => by
        rw [DE.out]
        exact end_s hx
      have HD2 := hide d2
      have HD3 : Hid (wr.heap[G]? = some (rO w.heap.size)) := d3
      have HD1 := hide d1
      have c0 : wr.cell? ⟨G, 0, none⟩ = some (mustV w.heap.size) := Joins.cell_of_block d3 0
      have HWL := hide hwl
      clear hw hl hwl d1 d2 d3 hsm EA HM hlt hj DE
      generalize Bk.checkE (Bk.dEnts b) = E at CK MU EN
      generalize Bk.mst (Bk.dLast b) (E == 0) = S1 at MU EN
      generalize (Bk.dEnd b).bad = B at DG EN
      go_wp2_with (fail)
      go_region_held3 (fun w' => w'.cell? ⟨G, 0, none⟩ = some (mustV w.heap.size))
        (first | exact c0 | exact k0 | exact k1 | (go_keep; done))
        (first
          | (go_at_call 78; refine (CK.out _ (Below.refl _ _).drew).mono ?_; rintro e w5 ⟨rfl, b5⟩; have B5 : Below wr.heap.size wr w5 := (Below.refl _ _).drew.trans b5; have p5 := keepB B5 HD3.out; have k0 : w5.cell? ⟨G, 0, none⟩ = some (mustV w.heap.size) := Joins.cell_of_block p5 0)
          | (go_at_call 89; refine (MU.out _ (HD1.out.later B5)).mono ?_; rintro e w6 ⟨rfl, r6, m6, z6⟩; have p6 : w6.heap[G]? = some (rO w.heap.size) := (m6.block G (Nat.lt_of_lt_of_le gs B5.size) (by simp only [rdT]; omega)).trans p5; have k1 : w6.cell? ⟨G, 0, none⟩ = some (mustV w.heap.size) := Joins.cell_of_block p6 0))
      have k3 : w6.cell? ⟨G, 3, none⟩ = some (endV w.heap.size) := Joins.cell_of_block p6 3
      have o6 := own_moved (own_after HD2.out B5) m6 (fun i hi => by simp only [rdT] at hi; omega)
      have B6 : Below w.heap.size w w6 := (d4.trans (B5.mono d4.size)).trans (m6.under (Nat.le_trans d4.size B5.size) (fun i hi => by simp only [rdT] at hi; omega))
      have O6 := hide o6
      clear CK MU HD1 HD2 HD3 c0 k0 k1 p5 p6 b5 B5 o6 m6
      cases B with
      | true =>
        go_wp2_with (first
          | (go_at_call 93; refine (EN.out _ r6).mono ?_; rintro e w7 ⟨rfl, m7, z7⟩; clear EN))
        go_ret2
        exact ⟨_, _, rfl, .inr ⟨DG.out, rfl, rfl⟩, B6.trans (m7.under B6.size (fun i hi => by simp only [rdT] at hi; omega))⟩
      | false =>
        go_wp2_with (first
          | (go_at_call 93; refine (EN.out _ r6).mono ?_; rintro e w7 ⟨rfl, m7, z7⟩; clear EN))
        go_ret2
        refine ⟨_, _, rfl, .inl ⟨DG.out, rfl, ?_⟩, B6.trans (m7.under B6.size (fun i hi => by simp only [rdT] at hi; omega))⟩
        rw [HWL.out]
        exact own_lift (own_moved O6.out m7 (fun i hi => by simp only [rdT] at hi; omega)) (by omega)
end Go.Proofs.Ytbdgdigpnfpnhaa
