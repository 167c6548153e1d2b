/-
  The bytes of a block: what Encode answers.
-/
import Derived.Test.YtbdgdigpnfpnhaaJNum
import Derived.Test.YtbdgdigpnfpnhaaBChk
import Derived.Test.YtbdgdigpnfpnhaaBShr
namespace Go.Proofs.Ytbdgdigpnfpnhaa
open Go.RowKit

abbrev eO (e : Mm.Ent) : Obj := .cells #[str e.key, str e.value, .int .i64 e.seq, .bool e.del] 38 (0, 0)
theorem own_ne {w : World} {base n B : Nat} {v : Value} {xs : List Value} {e : Mm.Ent} (h : w.ownsRow base 5 1 v n xs) (hb : w.heap[B]? = some (eO e)) : v.ownBlock ≠ some B := by
  rcases h.2 with ⟨rfl, _⟩ | ⟨g, cap, cur, rfl, _, hg, _⟩
  · intro e; cases e
  · intro e1
    have : g = B := Option.some.inj e1
    subst this
    rw [hg] at hb
    have := (Obj.cells.inj (Option.some.inj hb)).2.1
    revert this
    decide
/-- Bytes that a call owns, beside the block of an entry. -/
structure En (base B : Nat) (e : Mm.Ent) (w0 wx : World) (v : Value) (q : List UInt8) : Prop where
  own : wx.ownsRow base 5 1 v q.length (bc q)
  blk : wx.heap[B]? = some (eO e)
  bel : Below base w0 wx
  low : base ≤ w0.heap.size
theorem En.size {base B : Nat} {e : Mm.Ent} {w0 wx : World} {v : Value} {q : List UInt8} (h : En base B e w0 wx v q) : base ≤ wx.heap.size := Nat.le_trans h.low h.bel.size
theorem En.later {base B : Nat} {e : Mm.Ent} {w0 wx w' : World} {v : Value} {q : List UInt8} (h : En base B e w0 wx v q) (b : Below wx.heap.size wx w') : En base B e w0 w' v q :=
  ⟨own_after h.own b, keepB b h.blk, h.bel.trans (b.mono h.size), h.low⟩
theorem En.cells {base B : Nat} {e : Mm.Ent} {w0 wx : World} {v : Value} {q : List UInt8} (h : En base B e w0 wx v q) :
    wx.cell? ⟨B, 0, none⟩ = some (str e.key) ∧ wx.cell? ⟨B, 1, none⟩ = some (str e.value) ∧ wx.cell? ⟨B, 2, none⟩ = some (.int .i64 e.seq) ∧ wx.cell? ⟨B, 3, none⟩ = some (.bool e.del) := by
  refine ⟨?_, ?_, ?_, ?_⟩ <;> exact Joins.cell_of_block h.blk _
theorem En.grown {base B : Nat} {e : Mm.Ent} {w0 wx w' : World} {v v' : Value} {q q' : List UInt8} (h : En base B e w0 wx v q) (o : w'.ownsRow base 5 1 v' q'.length (bc q')) (hg : wx.grownBy w' v.ownBlock) : En base B e w0 w' v' q' :=
  have hB : B < wx.heap.size := (Array.getElem?_eq_some_iff.1 h.blk).1
  ⟨o, (hg.block B hB (fun e => own_ne h.own h.blk e.symm)).trans h.blk, h.bel.trans (own_below h.own h.size hg), h.low⟩
theorem en_num {base B : Nat} {e : Mm.Ent} {w0 wx : World} {v : Value} {q : List UInt8} (x : Nat) (h : En base B e w0 wx v q) (hx : x ≤ 9223372036854775807) (hq : q.length ≤ 1000000) :
    Calls Try.prog 79 #[v, .int .i64 (x : Int)] wx fun r w' => ∃ g cap L, r = .returned (.slice (some ⟨g, 0, none⟩) L cap) ∧ Hid (L = (q ++ Enc.leb x).length) ∧ Hid (En base B e w0 w' (.slice (some ⟨g, 0, none⟩) L cap) (q ++ Enc.leb x)) := by
  refine (appNum_any wx base v q x hx h.own h.size (by omega)).mono ?_
  rintro r w' ⟨v', rfl, x1⟩
  obtain ⟨g, cap, rfl⟩ := x1.some (by
    intro e
    have h1 := congrArg List.length e
    have h2 := Enc.leb_pos x
    rw [List.length_append, List.length_nil] at h1
    omega)
  exact ⟨g, cap, _, rfl, rfl, h.grown x1.own x1.grown⟩
theorem en_text {base B : Nat} {e : Mm.Ent} {w0 wx : World} {v : Value} {q : List UInt8} (s : List UInt8) (h : En base B e w0 wx v q) (hs : s.length ≤ 1000000) (hq : q.length ≤ 1000000) :
    Calls Try.prog 81 #[v, str s] wx fun r w' => ∃ g cap L, r = .returned (.slice (some ⟨g, 0, none⟩) L cap) ∧ Hid (L = (q ++ Bk.text s).length) ∧ Hid (En base B e w0 w' (.slice (some ⟨g, 0, none⟩) L cap) (q ++ Bk.text s)) := by
  refine (appText_any wx base v q s hs h.own h.size (by omega)).mono ?_
  rintro r w' ⟨v', rfl, o1, g1⟩
  obtain ⟨g, cap, rfl⟩ := own_some o1 (by
    intro e
    have h1 := congrArg List.length e
    have h2 := Enc.leb_pos s.length
    unfold Bk.text at h1
    rw [List.length_append, List.length_append, List.length_nil] at h1
    omega)
  exact ⟨g, cap, _, rfl, rfl, h.grown o1 g1⟩
theorem EntsAt.len {w : World} {a : Option Addr} {n cap : Nat} {l : List Mm.Ent} (h : EntsAt w (.slice a n cap) l) : n = l.length := by
  obtain ⟨⟨a', c', e, _⟩⟩ := h
  cases e; rfl

theorem ext_drop (K : List UInt8) (n : Nat) : (⟨K.toArray⟩ : ByteArray).extract n K.length = ⟨(K.drop n).toArray⟩ := by
  apply ByteArray.ext
  rw [ByteArray.data_extract]
  simp [List.take_of_length_le]
theorem en_own {base B : Nat} {e : Mm.Ent} {w0 wx : World} {g cap L : Nat} {q : List UInt8} (hL : L = q.length) (h : En base B e w0 wx (.slice (some ⟨g, 0, none⟩) L cap) q) : wx.ownsRow base 5 1 (.slice (some ⟨g, 0, none⟩) L cap) L (bc q) := by
  have := h.own
  rw [← hL] at this
  exact this

set_option maxRecDepth 100000 in
set_option maxHeartbeats 2000000 in
theorem bencode_bad (w : World) (a : Option Addr) (c n : Nat) (l : List Mm.Ent) (h : EntsAt w (.slice a n c) l) (hl : n ≤ 1000000) (hk : ∀ x ∈ l, x.key.length ≤ 1000000 ∧ x.value.length ≤ 1000000) (hc : Bk.checkE l ≠ 0) :
    Calls Try.prog 58 #[.slice a n c] w fun e w' => e = .returned (.tuple #[.slice none 0 0, .int .i64 (Bk.checkE l)]) ∧ Below w.heap.size w w' := by
  have CK := bcheck_any w a c n l h h.len hl hk _ rfl
  have hq : (Bk.checkE l != 0) = true := by simpa using hc
  generalize Bk.checkE l = E at *
  clear h hk hc
  go_enter Try.func58, Try.ntmps58
  go_wp2_with (first
    | (go_at_call 78; refine CK.mono ?_; rintro r w8 ⟨rfl, b8⟩))
  go_ret2
  exact ⟨rfl, b8⟩

set_option maxRecDepth 100000 in
set_option maxHeartbeats 8000000 in
theorem bencode_ok (w : World) (a : Option Addr) (c n : Nat) (l : List Mm.Ent) (h : EntsAt w (.slice a n c) l) (hc : Bk.checkE l = 0) :
    Calls Try.prog 58 #[.slice a n c] w fun e w' => ∃ g cap, e = .returned (.tuple #[.slice (some ⟨g, 0, none⟩) (Bk.blockB l).length cap, .int .i64 0]) ∧ w'.ownsRow w.heap.size 5 1 (.slice (some ⟨g, 0, none⟩) (Bk.blockB l).length cap) (Bk.blockB l).length (bc (Bk.blockB l)) ∧ Below w.heap.size w w' := by
  obtain ⟨k1, k2, k3, k4⟩ := Bk.checkE_ok hc
  have HN : Hid (n = l.length) := h.len
  have HM : Hid (∀ x ∈ l, Bk.may x = true) := by show ∀ x ∈ l, _; exact List.all_eq_true.1 k3
  have hk : ∀ x ∈ l, x.key.length ≤ 1000000 ∧ x.value.length ≤ 1000000 := fun x hx => by
    obtain ⟨_, _, _, h4, h5, _⟩ := Bk.may_parts (HM.out x hx)
    omega
  have CK := bcheck_any w a c n l h HN.out (by have := HN.out; omega) hk 0 hc.symm
  have HW : Hid _ := h
  have PL : Hid (∀ j, (Bk.preB l j).length ≤ 330000) := Bk.preB_len l hc
  have N1 : Hid (∀ wx, Below w.heap.size w wx → Calls Try.prog 79 #[.slice none 0 0, .int .i64 (n : Int)] wx fun r w' => ∃ g cap, r = .returned (.slice (some ⟨g, 0, none⟩) (Bk.preB l 0).length cap) ∧ w'.ownsRow w.heap.size 5 1 (.slice (some ⟨g, 0, none⟩) (Bk.preB l 0).length cap) (Bk.preB l 0).length (bc (Bk.preB l 0)) ∧ Below w.heap.size wx w') := fun wx hb => by
    have o0 : wx.ownsRow w.heap.size 5 1 (.slice none 0 0) ([] : List UInt8).length (bc []) := World.ownsRow_nil _ _ _ _
    refine (appNum_any wx w.heap.size (.slice none 0 0) [] n (by have := HN.out; omega) o0 hb.size (by simp)).mono ?_
    rintro e w' ⟨v', rfl, x⟩
    have o := x.own
    rw [List.nil_append, HN.out, ← Bk.preB_zero] at o
    have b := own_below o0 hb.size x.grown
    obtain ⟨g, cap, rfl⟩ := own_some o (Bk.preB_ne l 0)
    exact ⟨g, cap, rfl, o, b⟩
  have n64 : n ≤ 64 := by have := HN.out; omega
  clear h hc hk k1 k2 k3 k4
  go_enter Try.func58, Try.ntmps58
  go_wp2_with (first
    | (go_at_call 78; refine CK.mono ?_; rintro r w1 ⟨rfl, b1⟩)
    | (go_at_call 79; refine (N1.out _ b1).mono ?_; rintro r w2 ⟨g2, cap2, rfl, o2, b2⟩; have B2 := b1.trans b2))
  clear CK N1 b1 b2
  go_loopw [5, 6, 20] (fun v t i wr => ∃ (j g cap : Nat), j ≤ n ∧ i = .int .i64 j ∧ t = str (Bk.keyAt l j) ∧ v = .slice (some ⟨g, 0, none⟩) (Bk.preB l j).length cap ∧ wr.ownsRow w.heap.size 5 1 (.slice (some ⟨g, 0, none⟩) (Bk.preB l j).length cap) (Bk.preB l j).length (bc (Bk.preB l j)) ∧ Below w.heap.size w wr) (fun _ _ i _ => n - (intOf i).toNat)
  case atStart => exact ⟨0, g2, cap2, Nat.zero_le _, rfl, rfl, rfl, o2, B2⟩
  case round =>
    obtain ⟨j, g, cap, hj, rfl, rfl, rfl, o, bx⟩ := hrel
    clear o2 B2
    by_cases hlt : j < n
    · have hl : j < l.length := by have := HN.out; omega
      obtain ⟨B, off, rfl⟩ := HW.out.some (by omega)
      obtain ⟨c0, c1, c2, c3⟩ := (HW.out.later bx).cells j hl
      have hx := HM.out l[j] (List.getElem_mem hl)
      have hpn := Bk.preB_next l j hl
      have hkn := Bk.keyAt_next l j hl
      have p0 := PL.out j
      have hka : (Bk.keyAt l j).length ≤ 1000000 := by
        refine Bk.lastK_le _ 1000000 [] (by simp) (fun x hx => ?_)
        obtain ⟨_, _, _, h4, _⟩ := Bk.may_parts (HM.out x (List.mem_of_mem_take hx))
        omega
      obtain ⟨x, hxe⟩ : ∃ x, x = l[j] := ⟨_, rfl⟩
      rw [← hxe] at c0 c1 c2 c3 hx hpn hkn
      obtain ⟨h1, h2, h3, h4, h5, h6⟩ := Bk.may_parts hx
      obtain ⟨s1, s2, _⟩ := Bk.shr_le j (Bk.keyAt l j) x.key
      have SH : Hid (∀ wx, Calls Try.prog 80 #[.int .i64 (j : Int), str (Bk.keyAt l j), str x.key] wx fun e w' => e = .returned (.int .i64 (Bk.shr j (Bk.keyAt l j) x.key : Nat)) ∧ Below wx.heap.size wx w') := fun wx => shared_any wx j _ _ (by omega) hka (by omega)
      have HP : Hid (Bk.preB l (j + 1) = Bk.preB l j ++ Bk.entB j (Bk.keyAt l j) x) := hpn
      have HK : Hid (Bk.keyAt l (j + 1) = x.key) := hkn
      unfold Bk.entB at HP
      generalize Bk.shr j (Bk.keyAt l j) x.key = sh at SH HP s1 s2
      generalize Bk.keyAt l j = ka at *
      obtain ⟨P, hP⟩ : ∃ P, P = Bk.preB l j := ⟨_, rfl⟩
      rw [← hP] at o p0 ⊢
      rw [← hP] at HP
      have E1 : Hid (En w.heap.size wr.heap.size x w (wr.alloc (.cells #[str x.key, str x.value, .int .i64 x.seq, .bool x.del] 38)) (.slice (some ⟨g, 0, none⟩) P.length cap) P) :=
        ⟨o.alloc _, World.alloc_heap_new wr _, bx.alloc bx.size _, Nat.le_refl _⟩
      have hD : (x.key.drop sh).length ≤ 1000000 := by rw [List.length_drop]; omega
      have hq1 : (P ++ Enc.leb sh).length ≤ 1000000 := by have := Enc.leb_len64 sh (by omega); rw [List.length_append]; omega
      have hq2 : (P ++ Enc.leb sh ++ Bk.text (x.key.drop sh)).length ≤ 1000000 := by have := Bk.text_len (x.key.drop sh) (by rw [List.length_drop]; omega); rw [List.length_drop] at this; rw [List.length_append]; have := Enc.leb_len64 sh (by omega); rw [List.length_append]; omega
      have hq3 : (P ++ Enc.leb sh ++ Bk.text (x.key.drop sh) ++ Enc.leb x.seq.toNat).length ≤ 1000000 := by have := Enc.leb_len64 x.seq.toNat (by omega); rw [List.length_append]; have := Bk.text_len (x.key.drop sh) (by rw [List.length_drop]; omega); rw [List.length_drop] at this; rw [List.length_append]; have := Enc.leb_len64 sh (by omega); rw [List.length_append]; omega
      have hsq : (x.seq.toNat : Int) = x.seq := by omega
      clear hxe hP PL HM HW hl o hx hpn hkn hka
      obtain ⟨K, V, Q, D⟩ := x
      simp only at c0 c1 c2 c3 h1 h2 h3 h4 h5 h6 s2 hD hq1 hq2 hq3 hsq
      clear h3 h6
      have SL : (sh : Int) ≤ (K.length : Int) := by omega
      have TX : Hid (∀ wx v, En w.heap.size wr.heap.size ⟨K, V, Q, D⟩ w wx v (P ++ Enc.leb sh) → Calls Try.prog 81 #[v, .string ((⟨K.toArray⟩ : ByteArray).extract sh K.length)] wx fun r w' => ∃ g cap L, r = .returned (.slice (some ⟨g, 0, none⟩) L cap) ∧ Hid (L = (P ++ Enc.leb sh ++ Bk.text (K.drop sh)).length) ∧ Hid (En w.heap.size wr.heap.size ⟨K, V, Q, D⟩ w w' (.slice (some ⟨g, 0, none⟩) L cap) (P ++ Enc.leb sh ++ Bk.text (K.drop sh)))) := fun wx v hE => by
        rw [ext_drop]
        exact en_text (K.drop sh) hE hD hq1
      have NQ : Hid (∀ wx v, En w.heap.size wr.heap.size ⟨K, V, Q, D⟩ w wx v (P ++ Enc.leb sh ++ Bk.text (K.drop sh)) → Calls Try.prog 79 #[v, .int .i64 Q] wx fun r w' => ∃ g cap L, r = .returned (.slice (some ⟨g, 0, none⟩) L cap) ∧ Hid (L = (P ++ Enc.leb sh ++ Bk.text (K.drop sh) ++ Enc.leb Q.toNat).length) ∧ Hid (En w.heap.size wr.heap.size ⟨K, V, Q, D⟩ w w' (.slice (some ⟨g, 0, none⟩) L cap) (P ++ Enc.leb sh ++ Bk.text (K.drop sh) ++ Enc.leb Q.toNat))) := fun wx v hE => by
        have := en_num Q.toNat hE (by omega) hq2
        rw [hsq] at this
        exact this
      have H3 : Hid (∀ q : List UInt8, q = P ++ Enc.leb sh ++ Bk.text (K.drop sh) ++ Enc.leb Q.toNat → ∀ b : UInt8, q.length + [b].length ≤ 140737488355328) := fun q hq b => by rw [hq, List.length_singleton]; omega
      have H4 : Hid ((P ++ Enc.leb sh ++ Bk.text (K.drop sh) ++ Enc.leb Q.toNat ++ [0]).length ≤ 1000000) := by
        show _ ≤ _
        have := Enc.leb_len64 Q.toNat (by omega); rw [List.length_append, List.length_append]; have := Bk.text_len (K.drop sh) (by rw [List.length_drop]; omega); rw [List.length_drop] at this; rw [List.length_append]; have := Enc.leb_len64 sh (by omega); rw [List.length_append, List.length_singleton]; omega
      clear hsq hq2 hq3 hD hq1
      cases D with
      | true =>
        have EQ : Hid (Bk.preB l (j + 1) = P ++ Enc.leb sh ++ Bk.text (K.drop sh) ++ Enc.leb Q.toNat ++ [1]) := by
          show _ = _
          rw [HP.out]
          simp
        go_wp2_with (first
          | (go_at_call 80; refine (SH.out _).mono ?_; rintro r w2 ⟨rfl, b2⟩; have E2 : Hid _ := E1.out.later b2; obtain ⟨d0, d1, d2, d3⟩ := E2.out.cells; clear SH E1)
          | (go_at_call 79; have tok := E2; refine (en_num sh E2.out (by omega) (by omega)).mono ?_; rintro r w3 ⟨g3, cap3, L3, rfl, HL3, E3⟩; obtain ⟨f0, f1, f2, f3⟩ := E3.out.cells; clear E2 tok d0 d1 d2 d3)
          | (go_at_call 81; refine (TX.out _ _ E3.out).mono ?_; rintro r w4 ⟨g4, cap4, L4, rfl, HL4, E4⟩; obtain ⟨f0, f1, f2, f3⟩ := E4.out.cells; clear E3 TX)
          | (go_at_call 79; refine (NQ.out _ _ E4.out).mono ?_; rintro r w5 ⟨g5, cap5, L5, rfl, HL5, E5⟩; obtain ⟨f0, f1, f2, f3⟩ := E5.out.cells; clear E4 NQ)
          | (at_builtin; refine wpList_app_bytes _ rfl _ _ rfl w.heap.size g5 cap5 _ [1] L5 1 1 HL5.out rfl rfl ((en_own HL5.out E5.out).alloc _) _ rfl (lit_bytes _ _ rfl _ _ rfl) (fun e => by cases e) (H3.out _ rfl _) (by have := E5.out.size; simp; omega) ?_; intro g6 cap6 L6 w6 HL6 x6; have E6 : Hid _ := (E5.out.later ((Below.refl _ _).alloc (Nat.le_refl _) _)).grown x6.own x6.grown; obtain ⟨f0, f1, f2, f3⟩ := E6.out.cells; clear E5 x6))
        have hL := HL6.out
        rw [← EQ.out] at hL
        subst hL
        have o6 := E6.out.own
        rw [← EQ.out] at o6
        exact ⟨⟨j + 1, g6, cap6, by omega, by go_num, by rw [HK.out], rfl, o6, E6.out.bel⟩, by simp [intOf]; omega⟩
      | false =>
        have EQ : Hid (Bk.preB l (j + 1) = P ++ Enc.leb sh ++ Bk.text (K.drop sh) ++ Enc.leb Q.toNat ++ [0] ++ Bk.text V) := by
          show _ = _
          rw [HP.out]
          simp
        go_wp2_with (first
          | (go_at_call 80; refine (SH.out _).mono ?_; rintro r w2 ⟨rfl, b2⟩; have E2 : Hid _ := E1.out.later b2; obtain ⟨d0, d1, d2, d3⟩ := E2.out.cells; clear SH E1)
          | (go_at_call 79; have tok := E2; refine (en_num sh E2.out (by omega) (by omega)).mono ?_; rintro r w3 ⟨g3, cap3, L3, rfl, HL3, E3⟩; obtain ⟨f0, f1, f2, f3⟩ := E3.out.cells; clear E2 tok d0 d1 d2 d3)
          | (go_at_call 81; refine (TX.out _ _ E3.out).mono ?_; rintro r w4 ⟨g4, cap4, L4, rfl, HL4, E4⟩; obtain ⟨f0, f1, f2, f3⟩ := E4.out.cells; clear E3 TX)
          | (go_at_call 79; refine (NQ.out _ _ E4.out).mono ?_; rintro r w5 ⟨g5, cap5, L5, rfl, HL5, E5⟩; obtain ⟨f0, f1, f2, f3⟩ := E5.out.cells; clear E4 NQ))
        go_region_held3 (fun w' => w'.cell? ⟨wr.heap.size, 1, none⟩ = some (str V))
          (first | exact f1 | exact kx | (go_keep; done))
          (first
            | (refine step_app_bytes _ (by rfl) _ _ (by rfl) w.heap.size g5 cap5 _ [0] L5 1 1 HL5.out rfl (by rfl) (own_after (en_own HL5.out E5.out) (by first | exact (Below.refl _ _).alloc (Nat.le_refl _) _ | exact ((Below.refl _ _).alloc (Nat.le_refl _) _).drew | exact (Below.refl _ _).drew.alloc (Nat.le_refl _) _)) _ (by rfl) (by first | exact lit_bytes _ _ (by simp) _ _ rfl | exact (lit_bytes _ _ (by simp) _ _ rfl).later (Below.refl _ _).drew) (fun e => by cases e) (H3.out _ rfl _) (by have := E5.out.size; simp; omega) ?_; intro g6 cap6 L6 w6 HL6 x6; have E6 : Hid _ := (E5.out.later (by first | exact (Below.refl _ _).alloc (Nat.le_refl _) _ | exact ((Below.refl _ _).alloc (Nat.le_refl _) _).drew | exact (Below.refl _ _).drew.alloc (Nat.le_refl _) _)).grown x6.own x6.grown; obtain ⟨k0, kx, k2, k3⟩ := E6.out.cells; clear x6)
            | (go_at_call 81; refine (en_text V (by first | exact E6.out | exact E6.out.later (Below.refl _ _).drew) (by omega) H4.out).mono ?_; rintro r w7 ⟨g7, cap7, L7, rfl, HL7, E7⟩; obtain ⟨k0, kx, k2, k3⟩ := E7.out.cells))
        clear E5 E6
        go_wp2_with (fail)
        have hL := HL7.out
        rw [← EQ.out] at hL
        subst hL
        have o7 := E7.out.own
        rw [← EQ.out] at o7
        exact ⟨⟨j + 1, g7, cap7, by omega, by go_num, by rw [HK.out], rfl, o7, E7.out.bel⟩, by simp [intOf]; omega⟩
    · have e : j = n := by omega
      have i3 : ¬ (j : Int) < (n : Int) := by omega
      have HE : Hid (Bk.preB l j = Bk.blockB l) := by show _ = _; rw [e, HN.out]; exact Bk.preB_all l
      rw [HE.out] at o ⊢
      clear HE e PL HM HW hlt hj
      go_wp2_with (fail)
      go_ret2
      exact ⟨g, cap, rfl, o, bx⟩
end Go.Proofs.Ytbdgdigpnfpnhaa
