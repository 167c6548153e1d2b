/-
  The document's own Decode: just what the program's answers.
-/
import Derived.Test.YtanhmebjfockjaaBRefD4
import Derived.Test.YtanhmebjfockjaaBDec2
namespace Go.Proofs.Ytanhmebjfockjaa
open Go.RowKit

theorem rentry_any (w : World) (ao : Option Addr) (c n : Nat) (b a : List UInt8) (lo : Nat) (h : BytesIn w (.slice ao n c) b) (hn : n = b.length) (hcap : n ≤ c) (hlo : lo ≤ n) (hlen : n ≤ 1000000000) (ha : a.length ≤ 1000000) :
    Calls Try.prog 79 #[.slice ao n c, .int .i64 (lo : Int), str a] w fun e w' => ∃ x r, e = .returned (.tuple #[entV x, .int .i64 r]) ∧ Hid (entR a b lo x r) ∧ Below w.heap.size w w' := by
  by_cases h1 : Enc.smE (b.drop lo) a.length = 0
  · by_cases h2 : Enc.smE (Bk.q1 a (b.drop lo)) 512 = 0
    · by_cases h3 : Bk.qm a (b.drop lo) ≤ (Bk.q2 a (b.drop lo)).length
      · exact rentry_more w ao c n b a lo h hn hcap hlen ha h1 h2 h3
      · exact rentry_three w ao c n b a lo h hn hcap hlen ha h1 h2 h3
    · exact rentry_two w ao c n b a lo h hn hcap hlen ha h1 h2
  · exact rentry_none w ao c n b a lo h hn hcap hlo hlen ha h1
theorem pe_key {a s r : List UInt8} {x : Mm.Ent} (h : Bk.pe a s = some (x, r)) : x.key.length ≤ a.length + 512 := by
  have hk : (Bk.qk a s).length ≤ a.length + 512 := by
    unfold Bk.qk
    obtain ⟨X, N, eX, _, hX, _⟩ := sm_nat (Bk.q1 a s) 512
    have hm : Bk.qm a s ≤ 512 := by
      unfold Bk.qm
      have e : Enc.smX (Bk.q1 a s) 512 = (X : Int) := eX
      rw [e, Int.toNat_natCast]
      exact hX
    rw [List.length_append, List.length_take, List.length_take]
    omega
  have hq : ∀ d, (Bk.qx a s d).key = Bk.qk a s := fun _ => rfl
  unfold Bk.pe at h
  split at h
  · split at h
    · have := (Prod.mk.inj (Option.some.inj h)).1
      rw [← this, hq]
      exact hk
    · split at h
      · have := (Prod.mk.inj (Option.some.inj h)).1
        rw [← this, hq]
        exact hk
      · cases h
  · cases h

structure Rd7 (w wr : World) (b : List UInt8) (s : List UInt8) (j at' : Nat) (v : Value) (l : List Mm.Ent) : Prop where
  ents : Bk.pents j [] s = some (l, b.drop at')
  le : at' ≤ b.length
  own : wr.ownsRow w.heap.size 38 4 v j (ecs l)
  bel : Below w.heap.size w wr
  key : (Bk.lastK [] l).length ≤ 512 * j

set_option maxRecDepth 100000 in
set_option maxHeartbeats 8000000 in
theorem rdecode_any (w : World) (a : Option Addr) (c n : Nat) (b : List UInt8) (h : BytesIn w (.slice a n c) b) (hn : n = b.length) (hcap : n ≤ c) (hlen : n ≤ 1000000000) :
    Calls Try.prog 32 #[.slice a n c] w fun e w' => ∃ v E, e = .returned (.tuple #[v, .int .i64 E]) ∧ Hid ((Bk.dGood b = true ∧ E = 0 ∧ w'.ownsRow w.heap.size 38 4 v (Bk.dEnts b).length (ecs (Bk.dEnts b))) ∨ (Bk.dGood b = false ∧ E = 5 ∧ v = .slice none 0 0)) ∧ Below w.heap.size w w' := by
  obtain ⟨i0, hi, hz0, hz1, hz2⟩ := info_parts infoE
  obtain ⟨m, N, eM, eN, hm64, hN⟩ := sm_nat b 64
  have eM' : Enc.smX b 64 = (m : Int) := eM
  have eN' : Enc.smN b 64 = (N : Int) := eN
  have HB := hide h
  have HN := hide hn
  by_cases hE : Enc.smE b 64 = 0
  case neg =>
    have hE5 := ((sm_err b 64).resolve_left hE).1
    have SM : Hid (Calls Try.prog 78 #[.slice a n c, .int .i64 64] w fun e w' => e = .returned (.tuple #[.int .i64 (m : Int), .int .i64 (N : Int), .int .i64 5]) ∧ Below w.heap.size w w') := rsm_any w _ b 64 (by omega) h m N 5 eM eN hE5
    have hF : Hid (Bk.dGood b = false) := by
      show _ = _
      cases hg : Bk.dGood b
      · rfl
      · exact absurd (Bk.pdec_good b hg).1 hE
    clear h hn hE hE5 eM eN eM' eN'
    go_enter Try.func32, Try.ntmps32
    go_wp2_with (go_at_call 78; refine SM.out.mono ?_; rintro e w1 ⟨rfl, b1⟩; clear SM)
    go_ret2
    exact ⟨_, _, rfl, .inr ⟨hF.out, rfl, rfl⟩, b1⟩
  have SM : Hid (Calls Try.prog 78 #[.slice a n c, .int .i64 64] w fun e w' => e = .returned (.tuple #[.int .i64 (m : Int), .int .i64 (N : Int), .int .i64 0]) ∧ Below w.heap.size w w') := rsm_any w _ b 64 (by omega) h m N 0 eM eN hE
  obtain ⟨s, hs⟩ : ∃ s, s = b.drop N := ⟨_, rfl⟩
  -- a block's entries are what is read
  have GD : Hid (Bk.dGood b = true → m = (Bk.dEnts b).length ∧ Bk.pents m [] s = some (Bk.dEnts b, [])) := fun hg => by
    obtain ⟨_, x1, x2⟩ := Bk.pdec_good b hg
    rw [eM'] at x1
    have e1 : m = (Bk.dEnts b).length := by omega
    refine ⟨e1, ?_⟩
    rw [eN', Int.toNat_natCast, ← hs, ← e1] at x2
    exact x2
  have NOK : Hid (∀ j, j < m → Bk.pents (j + 1) [] s = none → Bk.dGood b = false) := fun j hj hp => by
    cases hg : Bk.dGood b
    · rfl
    · have h1 := (GD.out hg).2
      have h2 := Bk.pents_less (j + 1) (m - (j + 1)) [] s hp
      rw [show j + 1 + (m - (j + 1)) = m by omega, h1] at h2
      cases h2
  have S0 : Hid (s = b.drop N) := hs
  clear h hn hE eM eN eM' eN' hs
  have EN : Hid (∀ wx (lo : Nat) k, Below w.heap.size w wx → lo ≤ n → k.length ≤ 1000000 → Calls Try.prog 79 #[.slice a n c, .int .i64 (lo : Int), str k] wx fun e w' => ∃ x r, e = .returned (.tuple #[entV x, .int .i64 r]) ∧ Hid (entR k b lo x r) ∧ Below wx.heap.size wx w') := fun wx lo k hb hl hk => rentry_any wx a c n b k lo (HB.out.later hb) HN.out hcap hl hlen hk
  go_enter Try.func32, Try.ntmps32
  go_wp2_with (go_at_call 78; refine SM.out.mono ?_; rintro e w1 ⟨rfl, b1⟩; clear SM)
  go_loopw [5, 7, 8, 9] (fun t v k i wr => ∃ (j at' : Nat) (l : List Mm.Ent), j ≤ m ∧ i = .int .i64 j ∧ t = .int .i64 at' ∧ k = str (Bk.lastK [] l) ∧ Rd7 w wr b s j at' v l) (fun _ _ _ i _ => m - (intOf i).toNat)
  case atStart => exact ⟨0, N, [], Nat.zero_le _, rfl, rfl, rfl, ⟨by rw [S0.out]; rfl, by have := HN.out; omega, World.ownsRow_nil _ _ _ _, b1, by simp [Bk.lastK]⟩⟩
  case round =>
    obtain ⟨j, at', l, hj, rfl, rfl, rfl, D⟩ := hrel
    by_cases hlt : j < m
    · have q1 : (j : Int) < (m : Int) := by omega
      have EJ := hide (EN.out wr at' (Bk.lastK [] l) D.bel (by have := D.le; have := HN.out; omega) (by have := D.key; omega))
      have HD := hide D
      obtain ⟨kk, hkk⟩ : ∃ kk, kk = Bk.lastK [] l := ⟨_, rfl⟩
      rw [← hkk] at EJ ⊢
      have HKK := hide hkk
      clear D EN b1 hkk
      go_wp2_with (fail)
      refine EJ.out.mono ?_
      rintro e w3 ⟨x, r, rfl, HR, b3⟩
      have D3 := HD.out.bel.trans (b3.mono HD.out.bel.size)
      have PM := Bk.pents_more j [] s l _ HD.out.ents
      rw [← HKK.out] at PM
      obtain ⟨K, V, Q, Dl⟩ := x
      clear EJ
      rcases HR.out with ⟨hp, hr⟩ | ⟨hi', hp, hle, hr⟩
      · subst hr
        rw [hp] at PM
        have HF := hide (NOK.out j hlt PM)
        clear PM hp HR
        go_wp2_with (fail)
        go_ret2
        exact ⟨_, _, rfl, .inr ⟨HF.out, rfl, rfl⟩, D3.alloc D3.size _⟩
      · subst hr
        rw [hp] at PM
        have HPM : Hid (Bk.pents (j + 1) [] s = some (l ++ [⟨K, V, Q, Dl⟩], b.drop hi')) := PM
        have hpk := pe_key hp
        have HPK : Hid (K.length ≤ 512 * (j + 1)) := by show _ ≤ _; have h1 := HD.out.key; rw [← HKK.out] at h1; have h2 : K.length ≤ kk.length + 512 := hpk; omega
        have q2 : ¬ (hi' : Int) < 0 := by omega
        have CN : Hid (∀ W : World, ∀ B, B = W.heap.size → ∀ i u, (ecs [⟨K, V, Q, Dl⟩])[i]? = some u → (W.alloc (.cells #[str K, str V, .int .i64 Q, .bool Dl] 38)).cell? ((⟨B, 0, none⟩ : Addr).add i) = some u) := fun W B hB => ec_new W ⟨K, V, Q, Dl⟩ B hB
        have HL : Hid ((ecs [⟨K, V, Q, Dl⟩]).length = 1 * 4) := rfl
        have HO : Hid (∀ u ∈ ecs [⟨K, V, Q, Dl⟩], u.oneCell' = true) := ecs_one [⟨K, V, Q, Dl⟩]
        have Z1 : Hid (j + 1 ≤ maxLen) := by show _ ≤ _; unfold maxLen; omega
        have Z2 : Hid ((j + 1) * 48 ≤ 140737488355328) := by show _ ≤ _; omega
        have o3 := hide (own_after HD.out.own b3)
        have z3 : w.heap.size ≤ w3.heap.size := D3.size
        have HLE := hide hle
        clear PM hp HR hpk hle
        go_wp2_with (at_builtin; refine wpList_append_lies _ rfl _ _ 23 rfl w.heap.size 38 i0 _ 4 48 Try.underlying23 hi hz0 hz1 hz2 rfl (by decide) _ j _ rfl ((o3.out.alloc _).alloc _) ⟨w3.heap.size + 1, 0, none⟩ 1 1 (ecs [⟨K, V, Q, Dl⟩]) rfl HL.out (CN.out _ _ (by simp)) HO.out (by decide) Z1.out Z2.out (by simp; omega) _ rfl ?_; intro g4 cap4 w4 o4 h4 l4 lt4; have kx : w4.cell? ⟨w3.heap.size, 0, none⟩ = some (str K) := h4.cell (keepC ((Below.refl _ _).alloc (Nat.le_refl _) _) (Joins.cell_of_block (World.alloc_heap_new w3 _) 0)) (fun e => absurd (o3.out.lt _ e.symm).2 (Nat.lt_irrefl _)))
        have a2 : Below w3.heap.size w3 ((w3.alloc (.cells #[str K, str V, .int .i64 Q, .bool Dl] 38)).alloc (.cells #[str K, str V, .int .i64 Q, .bool Dl] 38)) := ((Below.refl _ _).alloc (Nat.le_refl _) _).alloc (by simp) _
        have B4 : Below w.heap.size w w4 := (D3.trans (a2.mono z3)).grown h4 (Nat.le_trans z3 a2.size) (fun i hi => (o3.out.lt i hi).1)
        rw [← ecs_append] at o4
        exact ⟨⟨j + 1, hi', l ++ [⟨K, V, Q, Dl⟩], hlt, by go_num, rfl, by rw [Bk.lastK_snoc], ⟨HPM.out, HLE.out, o4, B4, by rw [Bk.lastK_snoc]; exact HPK.out⟩⟩, by simp [intOf]; omega⟩
    · have e : j = m := by omega
      subst e
      have q1 : ¬ (j : Int) < (j : Int) := by omega
      have hl := Bk.pents_len j [] s l _ D.ents
      have hown := D.own
      rw [← hl] at hown
      have EA := EntsAt.own hown
      obtain ⟨va, vc, hv⟩ := row_shape D.own
      subst hv
      -- good bytes tell just these entries
      have GL : Hid (Bk.dGood b = true → l = Bk.dEnts b) := fun hg => by
        have h1 := (GD.out hg).2
        rw [D.ents] at h1
        exact (Prod.mk.inj (Option.some.inj h1)).1
      have BD := D.bel
      have HO := hide D.own
      have HJ := hide hl
      by_cases hck : Bk.checkE l = 0
      · have EC := hide (rencode_ok wr va vc j l (by rw [← hl] at EA ⊢; exact EA) hck)
        have h330 : (Bk.blockB l).length ≤ 330000 := by rw [← Bk.preB_all]; exact Bk.preB_len l hck _
        have HLc := hide (GL.out)
        have DB := Bk.dec_back l hck
        have BC : Hid (∀ wx, Below w.heap.size w wx → (convert 53 9 (.slice a n c)).run Try.prog wx = .ok (str b) wx) := fun wx hb => bytes_str (HB.out.later hb)
        obtain ⟨o, ho⟩ : ∃ o, o = Bk.blockB l := ⟨_, rfl⟩
        rw [← ho] at EC h330 DB
        by_cases hob : o = b
        · have YES : Hid (Bk.dGood b = true ∧ Bk.dEnts b = l) := by rw [← hob]; exact ⟨DB.2, DB.1⟩
          have HOB : Hid (o = b) := hob
          clear D EN EA hown hck GL DB ho hob HLc
          go_wp2_with (go_at_call 30; refine EC.out.mono ?_; rintro e w3 ⟨g3, c3, rfl, o3, b3⟩; have C3 : (convert 53 9 (.slice (some ⟨g3, 0, none⟩) o.length c3)).run Try.prog w3 = .ok (str b) w3 := (by have := bytes_str (bytes_of_own o3 (by omega)); rw [HOB.out] at this ⊢; exact this); have C4 := BC.out w3 (BD.trans (b3.mono BD.size)); clear EC)
          go_ret2
          refine ⟨_, _, rfl, .inl ⟨YES.out.1, rfl, ?_⟩, BD.trans (b3.mono BD.size)⟩
          rw [YES.out.2, HJ.out]
          exact own_after HO.out b3
        · have HF : Hid (Bk.dGood b = false) := by
            show _ = _
            cases hg : Bk.dGood b
            · rfl
            · exact absurd (by rw [ho, HLc.out hg]; exact (Bk.enc_back b hg).2) hob
          have hne : (o == b) = false := beq_eq_false_iff_ne.2 hob
          clear D EN EA hown hck GL DB ho hob HLc
          go_wp2_with (go_at_call 30; refine EC.out.mono ?_; rintro e w3 ⟨g3, c3, rfl, o3, b3⟩; have C3 : (convert 53 9 (.slice (some ⟨g3, 0, none⟩) o.length c3)).run Try.prog w3 = .ok (str o) w3 := bytes_str (bytes_of_own o3 (by omega)); have C4 := BC.out w3 (BD.trans (b3.mono BD.size)); clear EC)
          go_ret2
          exact ⟨_, _, rfl, .inr ⟨HF.out, rfl, rfl⟩, BD.trans (b3.mono BD.size)⟩
      · have EC := hide (rencode_bad wr va vc j l (by rw [← hl] at EA ⊢; exact EA) (by omega) hck)
        have HF : Hid (Bk.dGood b = false) := by
          show _ = _
          cases hg : Bk.dGood b
          · rfl
          · exact absurd (by rw [GL.out hg]; exact (Bk.enc_back b hg).1) hck
        have hq : ((Bk.checkE l : Int) != 0) = true := by simpa using hck
        generalize Bk.checkE l = E at *
        clear D EN EA hown hck GL
        go_wp2_with (go_at_call 30; refine EC.out.mono ?_; rintro e w3 ⟨rfl, b3⟩; clear EC)
        go_ret2
        exact ⟨_, _, rfl, .inr ⟨HF.out, rfl, rfl⟩, BD.trans (b3.mono BD.size)⟩
end Go.Proofs.Ytanhmebjfockjaa
