/-
  A block is read as it was written, and nothing else is a block: the statement's own walk.
-/
import Derived.Test.YtmkchjgckmdmcaaBLives
import Derived.Test.YtmkchjgckmdmcaaBSmall
namespace Go.Proofs.Ytmkchjgckmdmcaa.blockBack
open Go.RowKit

set_option maxRecDepth 100000 in
set_option maxHeartbeats 8000000 in
theorem walk (w : World) (a0 : Option Addr) (c0 n : Nat) (l : List Mm.Ent) (hat : EntsAt w (.slice a0 n c0) l) (hn : n = l.length) (hlen : n ≤ maxLen) (hok : ∀ x ∈ l, x.key.length ≤ maxLen ∧ x.value.length ≤ maxLen)
    (a1 : Option Addr) (c1 m : Nat) (b : List UInt8) (hb : BytesIn w (.slice a1 m c1) b) (hm : m = b.length) (hcap : b.length ≤ c1) (hno : a1 = none → c1 = 0) (hml : m ≤ 140737488355328) :
    Calls Try.prog 7 #[.slice a0 n c0, .slice a1 m c1] w fun e w' => e = .returned (.bool true) ∧ Below w.heap.size w w' := by
  have LV := hide (blives_any w)
  have SM : Hid (∀ wx, Below w.heap.size w wx → Calls Try.prog 15 #[.slice a0 n c0] wx fun e w' => e = .returned (.bool (smallB l)) ∧ Below wx.heap.size wx w') := fun wx hx => small_any wx a0 c0 n l (hat.later hx) hn hlen hok _ rfl
  by_cases hs0 : smallB l = false
  · rw [hs0] at SM
    clear hs0 hat hok hb hcap hno hn hm
    go_enter Try.func7, Try.ntmps7
    go_wp2_with (first
      | (go_at_call 14; refine LV.out.mono ?_; rintro r w1 ⟨rfl, b1⟩; clear LV)
      | (go_at_call 15; refine (SM.out _ b1).mono ?_; rintro r w2 ⟨rfl, b2⟩; clear SM))
    go_ret
    exact ⟨rfl, b1.trans (b2.mono b1.size)⟩
  have hs : smallB l = true := by simpa using hs0
  clear hs0
  rw [hs] at SM
  by_cases h8 : (m : Int) > 8000
  · clear hs hat hok hb hcap hno hn hm
    go_enter Try.func7, Try.ntmps7
    go_wp2_with (first
      | (go_at_call 14; refine LV.out.mono ?_; rintro r w1 ⟨rfl, b1⟩; clear LV)
      | (go_at_call 15; refine (SM.out _ b1).mono ?_; rintro r w2 ⟨rfl, b2⟩; clear SM))
    go_ret
    exact ⟨rfl, b1.trans (b2.mono b1.size)⟩
  have hsm : n ≤ 70 ∧ ∀ x ∈ l, x.key.length ≤ 600 ∧ x.value.length ≤ 600 := by
    unfold smallB at hs
    rw [Bool.and_eq_true, decide_eq_true_eq, List.all_eq_true] at hs
    refine ⟨by omega, fun x hx => ?_⟩
    have := hs.1 x hx
    unfold shortE at this
    simpa using this
  have hk : ∀ x ∈ l, x.key.length ≤ 1000000 ∧ x.value.length ≤ 1000000 := fun x hx => by have := hsm.2 x hx; omega
  have CK : Hid (∀ wx, Below w.heap.size w wx → Calls Try.prog 13 #[.slice a0 n c0] wx fun e w' => e = .returned (.int .i64 (Bk.checkE l)) ∧ Below wx.heap.size wx w') := fun wx hx => bcheck_any wx a0 c0 n l (hat.later hx) hn (by omega) hk _ rfl
  have SE : Hid (∀ wx v, Below w.heap.size w wx → EntsAt wx v l → Calls Try.prog 11 #[.slice a0 n c0, v] wx fun e w' => e = .returned (.bool true) ∧ Below wx.heap.size wx w') := fun wx v hx h2 => samee_any wx _ v l (hat.later hx) h2 (by omega)
  have D2 : Hid (∀ wx, Below w.heap.size w wx → Calls Try.prog 20 #[.slice a1 m c1] wx fun e w' => ∃ v E, e = .returned (.tuple #[v, .int .i64 E]) ∧ Hid ((Bk.dGood b = true ∧ E = 0 ∧ w'.ownsRow wx.heap.size 27 4 v (Bk.dEnts b).length (ecs (Bk.dEnts b))) ∨ (Bk.dGood b = false ∧ E = 5 ∧ v = .slice none 0 0)) ∧ Below wx.heap.size wx w') := fun wx hx => by
    have := hb.later hx
    rw [hm] at this ⊢
    exact bdecode_any wx a1 c1 b this hcap hno (by omega)
  have E2 : Hid (Bk.dGood b = true → ∀ wx v, EntsAt wx v (Bk.dEnts b) → Calls Try.prog 18 #[v] wx fun e w' => ∃ v', e = .returned (.tuple #[v', .int .i64 0]) ∧ BytesIn w' v' b ∧ Below wx.heap.size wx w') := fun hg wx v h2 => by
    obtain ⟨q1, q2⟩ := Bk.enc_back b hg
    have h3 := h2
    obtain ⟨⟨a, c, rfl, _⟩⟩ := h3
    refine (bencode_ok wx a c (Bk.dEnts b).length (Bk.dEnts b) h2 q1).mono ?_
    rintro r w' ⟨g, cap, rfl, o, bb⟩
    rw [q2] at o ⊢
    exact ⟨_, rfl, own_bytes o (by omega), bb⟩
  have SB : Hid (∀ wx v, Below w.heap.size w wx → BytesIn wx v b → Calls Try.prog 23 #[v, .slice a1 m c1] wx fun r w' => r = .returned (.bool true) ∧ Below wx.heap.size wx w') := fun wx v hx h => by
    have := same_any wx v (.slice a1 m c1) b b h (hb.later hx)
    rw [decide_eq_true rfl] at this
    exact this
  have EB : Hid (Bk.checkE l ≠ 0 → ∀ wx, Below w.heap.size w wx → Calls Try.prog 18 #[.slice a0 n c0] wx fun e w' => e = .returned (.tuple #[.slice none 0 0, .int .i64 (Bk.checkE l)]) ∧ Below wx.heap.size wx w') := fun hc wx hx => bencode_bad wx a0 c0 n l (hat.later hx) (by omega) hk hc
  have EK : Hid (Bk.checkE l = 0 → ∀ wx, Below w.heap.size w wx → Calls Try.prog 18 #[.slice a0 n c0] wx fun e w' => ∃ g cap L, e = .returned (.tuple #[.slice (some ⟨g, 0, none⟩) L cap, .int .i64 0]) ∧ Hid (BytesIn w' (.slice (some ⟨g, 0, none⟩) L cap) (Bk.blockB l) ∧ (Bk.blockB l).length ≤ cap ∧ L = (Bk.blockB l).length) ∧ Below wx.heap.size wx w') := fun hc wx hx => by
    refine (bencode_ok wx a0 c0 n l (hat.later hx) hc).mono ?_
    rintro r w' ⟨g, cap, rfl, o, bb⟩
    have hp := Bk.preB_len l hc l.length
    rw [Bk.preB_all] at hp
    exact ⟨g, cap, _, rfl, ⟨own_bytes o (by omega), (own_cap o).1, rfl⟩, bb⟩
  have DK : Hid (Bk.checkE l = 0 → ∀ wx g L cap, (BytesIn wx (.slice (some ⟨g, 0, none⟩) L cap) (Bk.blockB l) ∧ (Bk.blockB l).length ≤ cap ∧ L = (Bk.blockB l).length) → Calls Try.prog 20 #[.slice (some ⟨g, 0, none⟩) L cap] wx fun e w' => ∃ v, e = .returned (.tuple #[v, .int .i64 0]) ∧ EntsAt w' v l ∧ Below wx.heap.size wx w') := fun hc wx g L cap ⟨h1, h2, h3⟩ => by
    subst h3
    have hp := Bk.preB_len l hc l.length
    rw [Bk.preB_all] at hp
    obtain ⟨q1, q2⟩ := Bk.dec_back l hc
    refine (bdecode_any wx _ cap (Bk.blockB l) h1 h2 (fun e => by cases e) (by omega)).mono ?_
    rintro r w' ⟨v, E, rfl, H, bb⟩
    rcases H with ⟨_, rfl, o⟩ | ⟨h1, _, _⟩
    · rw [q1] at o
      exact ⟨v, rfl, EntsAt.own o, bb⟩
    · rw [q2] at h1; cases h1
  clear hat hok hb hcap hno hsm hk hs hlen hml hn hm
  have G1t : Bk.dGood b = true → Hid (∀ wx, Below w.heap.size w wx → Calls Try.prog 20 #[.slice a1 m c1] wx fun e w' => ∃ v, e = .returned (.tuple #[v, .int .i64 0]) ∧ EntsAt w' v (Bk.dEnts b) ∧ Below wx.heap.size wx w') := fun hg wx hx => by
    refine (D2.out wx hx).mono ?_
    rintro r w' ⟨v, E, rfl, H, bb⟩
    rcases H with ⟨_, rfl, o⟩ | ⟨h1, _, _⟩
    · exact ⟨v, rfl, EntsAt.own o, bb⟩
    · rw [hg] at h1; cases h1
  have G1f : Bk.dGood b = false → Hid (∀ wx, Below w.heap.size w wx → Calls Try.prog 20 #[.slice a1 m c1] wx fun e w' => e = .returned (.tuple #[.slice none 0 0, .int .i64 5]) ∧ Below wx.heap.size wx w') := fun hg wx hx => by
    refine (D2.out wx hx).mono ?_
    rintro r w' ⟨v, E, rfl, H, bb⟩
    rcases H with ⟨h1, _, _⟩ | ⟨_, rfl, rfl⟩
    · rw [hg] at h1; cases h1
    · exact ⟨rfl, bb⟩
  clear D2
  by_cases hc : Bk.checkE l = 0
  · have K1 := hide (EK.out hc)
    have K2 := hide (DK.out hc)
    rw [hc] at CK
    clear EK DK EB hc
    cases hg : Bk.dGood b with
    | true =>
      have G1 := G1t hg
      have G2 := hide (E2.out hg)
      clear G1t G1f E2 hg
      go_enter Try.func7, Try.ntmps7
      go_wp2_with (first
        | (go_at_call 14; refine LV.out.mono ?_; rintro r w1 ⟨rfl, b1⟩; clear LV)
        | (go_at_call 15; refine (SM.out _ b1).mono ?_; rintro r w2 ⟨rfl, b2⟩; have B2 := b1.trans (b2.mono b1.size); clear SM)
        | (go_at_call 18; have tok := K1; refine (K1.out _ B2).mono ?_; rintro r w3 ⟨g3, cap3, L3, rfl, H3, b3⟩; have B3 := B2.trans (b3.mono B2.size); clear K1 tok)
        | (go_at_call 20; have tok := K2; refine (K2.out _ g3 L3 cap3 H3.out).mono ?_; rintro r w4 ⟨v4, rfl, e4, b4⟩; have B4 := B3.trans (b4.mono B3.size); clear K2 tok H3)
        | (go_at_call 11; refine (SE.out _ _ B4 e4).mono ?_; rintro r w5 ⟨rfl, b5⟩; have B5 := B4.trans (b5.mono B4.size); clear SE e4)
        | (go_at_call 13; refine (CK.out _ B5).mono ?_; rintro r w6 ⟨rfl, b6⟩; have B6 := B5.trans (b6.mono B5.size); clear CK)
        | (go_at_call 20; refine (G1.out _ B6).mono ?_; rintro r w7 ⟨v7, rfl, e7, b7⟩; have B7 := B6.trans (b7.mono B6.size); clear G1)
        | (go_at_call 18; refine (G2.out _ _ e7).mono ?_; rintro r w8 ⟨v8, rfl, y8, b8⟩; have B8 := B7.trans (b8.mono B7.size); clear G2 e7)
        | (go_at_call 23; refine (SB.out _ _ B8 y8).mono ?_; rintro r w9 ⟨rfl, b9⟩; clear SB))
      go_ret
      exact ⟨rfl, B8.trans (b9.mono B8.size)⟩
    | false =>
      have G1 := G1f hg
      clear G1t G1f E2 hg SB
      go_enter Try.func7, Try.ntmps7
      go_wp2_with (first
        | (go_at_call 14; refine LV.out.mono ?_; rintro r w1 ⟨rfl, b1⟩; clear LV)
        | (go_at_call 15; refine (SM.out _ b1).mono ?_; rintro r w2 ⟨rfl, b2⟩; have B2 := b1.trans (b2.mono b1.size); clear SM)
        | (go_at_call 18; have tok := K1; refine (K1.out _ B2).mono ?_; rintro r w3 ⟨g3, cap3, L3, rfl, H3, b3⟩; have B3 := B2.trans (b3.mono B2.size); clear K1 tok)
        | (go_at_call 20; have tok := K2; refine (K2.out _ g3 L3 cap3 H3.out).mono ?_; rintro r w4 ⟨v4, rfl, e4, b4⟩; have B4 := B3.trans (b4.mono B3.size); clear K2 tok H3)
        | (go_at_call 11; refine (SE.out _ _ B4 e4).mono ?_; rintro r w5 ⟨rfl, b5⟩; have B5 := B4.trans (b5.mono B4.size); clear SE e4)
        | (go_at_call 13; refine (CK.out _ B5).mono ?_; rintro r w6 ⟨rfl, b6⟩; have B6 := B5.trans (b6.mono B5.size); clear CK)
        | (go_at_call 20; refine (G1.out _ B6).mono ?_; rintro r w7 ⟨rfl, b7⟩; have B7 := B6.trans (b7.mono B6.size); clear G1))
      go_ret
      exact ⟨rfl, B7⟩
  · have K1 := hide (EB.out hc)
    have hcn : (Bk.checkE l == 0) = false := by simpa using hc
    clear EK DK EB hc CK SE
    generalize Bk.checkE l = E at *
    cases hg : Bk.dGood b with
    | true =>
      have G1 := G1t hg
      have G2 := hide (E2.out hg)
      clear G1t G1f E2 hg
      go_enter Try.func7, Try.ntmps7
      go_wp2_with (first
        | (go_at_call 14; refine LV.out.mono ?_; rintro r w1 ⟨rfl, b1⟩; clear LV)
        | (go_at_call 15; refine (SM.out _ b1).mono ?_; rintro r w2 ⟨rfl, b2⟩; have B2 := b1.trans (b2.mono b1.size); clear SM)
        | (go_at_call 18; have tok := K1; refine (K1.out _ B2).mono ?_; rintro r w6 ⟨rfl, b6⟩; have B6 := B2.trans (b6.mono B2.size); clear K1 tok)
        | (go_at_call 20; refine (G1.out _ B6).mono ?_; rintro r w7 ⟨v7, rfl, e7, b7⟩; have B7 := B6.trans (b7.mono B6.size); clear G1)
        | (go_at_call 18; refine (G2.out _ _ e7).mono ?_; rintro r w8 ⟨v8, rfl, y8, b8⟩; have B8 := B7.trans (b8.mono B7.size); clear G2 e7)
        | (go_at_call 23; refine (SB.out _ _ B8 y8).mono ?_; rintro r w9 ⟨rfl, b9⟩; clear SB))
      go_ret
      exact ⟨rfl, B8.trans (b9.mono B8.size)⟩
    | false =>
      have G1 := G1f hg
      clear G1t G1f E2 hg SB
      go_enter Try.func7, Try.ntmps7
      go_wp2_with (first
        | (go_at_call 14; refine LV.out.mono ?_; rintro r w1 ⟨rfl, b1⟩; clear LV)
        | (go_at_call 15; refine (SM.out _ b1).mono ?_; rintro r w2 ⟨rfl, b2⟩; have B2 := b1.trans (b2.mono b1.size); clear SM)
        | (go_at_call 18; have tok := K1; refine (K1.out _ B2).mono ?_; rintro r w6 ⟨rfl, b6⟩; have B6 := B2.trans (b6.mono B2.size); clear K1 tok)
        | (go_at_call 20; refine (G1.out _ B6).mono ?_; rintro r w7 ⟨rfl, b7⟩; have B7 := B6.trans (b7.mono B6.size); clear G1))
      go_ret
      exact ⟨rfl, B7⟩
end Go.Proofs.Ytmkchjgckmdmcaa.blockBack
