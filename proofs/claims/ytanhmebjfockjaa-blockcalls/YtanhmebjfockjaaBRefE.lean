/-
  The document's own bytes of a block: what its Encode answers.
-/
import Derived.Test.YtanhmebjfockjaaJRef1
import Derived.Test.YtanhmebjfockjaaBRefC
import Derived.Test.YtanhmebjfockjaaBEnc
namespace Go.Proofs.Ytanhmebjfockjaa
open Go.RowKit

/-- Bytes that a call owns, in a world behind the call's first. -/
structure Rb (base : Nat) (w0 wx : World) (v : Value) (q : List UInt8) : Prop where
  own : wx.ownsRow base 5 1 v q.length (bc q)
  bel : Below base w0 wx
  low : base ≤ w0.heap.size
theorem Rb.size {base : Nat} {w0 wx : World} {v : Value} {q : List UInt8} (h : Rb base w0 wx v q) : base ≤ wx.heap.size := Nat.le_trans h.low h.bel.size
theorem Rb.later {base : Nat} {w0 wx w' : World} {v : Value} {q : List UInt8} (h : Rb base w0 wx v q) (b : Below wx.heap.size wx w') : Rb base w0 w' v q :=
  ⟨own_after h.own b, h.bel.trans (b.mono h.size), h.low⟩
theorem Rb.drew {base : Nat} {w0 wx : World} {v : Value} {q : List UInt8} (h : Rb base w0 wx v q) : Rb base w0 wx.drew v q := h.later (Below.refl _ _).drew
theorem Rb.grown {base : Nat} {w0 wx w' : World} {v v' : Value} {q q' : List UInt8} (h : Rb base w0 wx v q) (o : w'.ownsRow base 5 1 v' q'.length (bc q')) (hg : wx.grownBy w' v.ownBlock) : Rb base w0 w' v' q' :=
  ⟨o, h.bel.trans (own_below h.own h.size hg), h.low⟩
theorem rb_own {base : Nat} {w0 wx : World} {g cap L : Nat} {q : List UInt8} (hL : L = q.length) (h : Rb base w0 wx (.slice (some ⟨g, 0, none⟩) L cap) q) : wx.ownsRow base 5 1 (.slice (some ⟨g, 0, none⟩) L cap) L (bc q) := by
  have := h.own
  rw [← hL] at this
  exact this
theorem rb_app {base : Nat} {w0 wx : World} {v : Value} {q : List UInt8} (x : Nat) (h : Rb base w0 wx v q) (hx : x < 18446744073709551616) (hq : q.length ≤ 1000000) (h0 : q ≠ []) :
    Calls Try.prog 75 #[v, .int .u64 (x : Int)] wx fun r w' => ∃ g cap L, r = .returned (.slice (some ⟨g, 0, none⟩) L cap) ∧ Hid (L = (q ++ Enc.leb x).length) ∧ Hid (Rb base w0 w' (.slice (some ⟨g, 0, none⟩) L cap) (q ++ Enc.leb x)) := by
  obtain ⟨g0, c0, rfl⟩ := own_some h.own h0
  refine (Enc.refAppend_any wx (some ⟨g0, 0, none⟩) c0 q x (bytes_of_own h.own (by omega)) (fun e => by cases e) hx (by omega)).mono ?_
  rintro r w' ⟨v', rfl, x1⟩
  obtain ⟨g, cap, rfl⟩ := x1.some (by
    intro e
    have h1 := congrArg List.length e
    have h2 := Enc.leb_pos x
    rw [List.length_append, List.length_nil] at h1
    omega)
  exact ⟨g, cap, _, rfl, rfl, own_base x1.own h.size, h.bel.trans ((below_of x1.grown).mono h.size), h.low⟩

theorem step_app_str (w : World) {ops : Array Oper} {o : Oper} {a : Act} {K : Act → World → Prop} {Q : Exit → Act → World → Prop} {E : Prop} (hgd : o.guard = none) (s x : Operand)
    (hop : o.op = .call { callee := .builtin .append, args := #[s, x], argTypes := #[53, 9] })
    (base g cap : Nat) (l m : List UInt8) (n : Nat) (hn : n = l.length) (hs : a.eval s = .slice (some ⟨g, 0, none⟩) n cap) (hown : w.ownsRow base 5 1 (.slice (some ⟨g, 0, none⟩) n cap) n (bc l))
    (sb : ByteArray) (hx : a.eval x = .string sb) (hsb : sb = ⟨m.toArray⟩) (hroom : l.length + m.length ≤ 140737488355328) (hbase : base ≤ w.heap.size)
    (h : ∀ g' cap' L w', Hid (L = (l ++ m).length) → w'.ownsRow base 5 1 (.slice (some ⟨g', 0, none⟩) L cap') (l ++ m).length (bc (l ++ m)) → w.grownBy w' (some g) → K (a.put o.dst (.slice (some ⟨g', 0, none⟩) L cap')) w') :
    if Region.wanted o (yielded ops a.tmps) = true then Oper.wp Try.prog o a w K Q else E := by
  have hw : Region.wanted o (yielded ops a.tmps) = true := by simp [Region.wanted, hgd]
  rw [if_pos hw]
  subst hn hsb
  obtain ⟨i0, hi, hz0, hz1, hz2⟩ := info_parts Try.info5
  have hsz : (⟨m.toArray⟩ : ByteArray).size = m.length := by show m.toArray.size = _; simp
  obtain ⟨v', w', hr, h2, h3, h4⟩ := Lib.run_append_own_string (P := Try.prog) w base 53 9 o.type 5 i0 Try.underlying53 Try.underlying9 hi hz0 hz1 hz2 _ l.length (bc l) hown ⟨m.toArray⟩ (by rw [hsz]; unfold maxLen; omega) (by rw [hsz]; exact hroom) hbase
  rw [strCells_bc, ← bc_append, hsz, ← List.length_append] at h2
  unfold Oper.wp execOp
  simp only [hop, resolve, invoke, builtin, Sem.run_bind, Sem.run_pure, Result.andThen_ok, List.map_toArray, List.map_cons, List.map_nil, hs, hx, hr]
  rcases h2.2 with ⟨rfl, _⟩ | ⟨g', cap', cur, rfl, _⟩
  · have := (h4.1 rfl).1
    cases this
  · exact h g' cap' _ w' rfl h2 h3

set_option maxRecDepth 100000 in
set_option maxHeartbeats 2000000 in
theorem rencode_bad (w : World) (a : Option Addr) (c n : Nat) (l : List Mm.Ent) (h : EntsAt w (.slice a n c) l) (hl : n ≤ 1000000) (hc : Bk.checkE l ≠ 0) :
    Calls Try.prog 30 #[.slice a n c] w fun e w' => e = .returned (.tuple #[.slice none 0 0, .int .i64 (Bk.checkE l)]) ∧ Below w.heap.size w w' := by
  have CK := rbcheck_any w a c n l h h.len hl _ rfl
  have hq : (Bk.checkE l != 0) = true := by simpa using hc
  generalize Bk.checkE l = E at *
  clear h hc
  go_enter Try.func30, Try.ntmps30
  go_wp2_with (first
    | (go_at_call 34; refine CK.mono ?_; rintro r w8 ⟨rfl, b8⟩))
  go_ret2
  exact ⟨rfl, b8⟩

set_option maxRecDepth 100000 in
set_option maxHeartbeats 16000000 in
theorem rencode_ok (w : World) (a : Option Addr) (c n : Nat) (l : List Mm.Ent) (h : EntsAt w (.slice a n c) l) (hc : Bk.checkE l = 0) :
    Calls Try.prog 30 #[.slice a n c] w fun e w' => ∃ g cap, e = .returned (.tuple #[.slice (some ⟨g, 0, none⟩) (Bk.blockB l).length cap, .int .i64 0]) ∧ w'.ownsRow w.heap.size 5 1 (.slice (some ⟨g, 0, none⟩) (Bk.blockB l).length cap) (Bk.blockB l).length (bc (Bk.blockB l)) ∧ Below w.heap.size w w' := by
  obtain ⟨k1, k2, k3, k4⟩ := Bk.checkE_ok hc
  have HN : Hid (n = l.length) := h.len
  have HM : Hid (∀ x ∈ l, Bk.may x = true) := by show ∀ x ∈ l, _; exact List.all_eq_true.1 k3
  have CK := rbcheck_any w a c n l h HN.out (by have := HN.out; omega) 0 hc.symm
  have HW : Hid _ := h
  have PL : Hid (∀ j, (Bk.preB l j).length ≤ 330000) := Bk.preB_len l hc
  have N1 : Hid (∀ wx, Below w.heap.size w wx → Calls Try.prog 73 #[.int .u64 (n : Int)] wx fun r w' => ∃ g cap, r = .returned (.slice (some ⟨g, 0, none⟩) (Bk.preB l 0).length cap) ∧ w'.ownsRow w.heap.size 5 1 (.slice (some ⟨g, 0, none⟩) (Bk.preB l 0).length cap) (Bk.preB l 0).length (bc (Bk.preB l 0)) ∧ Below w.heap.size w w') := fun wx hb => by
    refine (Enc.refBytes_any n n wx (Nat.le_refl _) (by have := HN.out; omega)).mono ?_
    rintro e w' ⟨v', rfl, x⟩
    have o := own_base x.own hb.size
    rw [HN.out, ← Bk.preB_zero] at o
    have b := hb.trans ((below_of x.grown).mono hb.size)
    obtain ⟨g, cap, rfl⟩ := own_some o (Bk.preB_ne l 0)
    exact ⟨g, cap, rfl, o, b⟩
  have n64 : n ≤ 64 := by have := HN.out; omega
  have wn : IntKind.u64.wrap (n : Int) = (n : Int) := by rw [IntKind.wrap_u64]; omega
  clear h hc k1 k2 k3 k4
  go_enter Try.func30, Try.ntmps30
  go_wp2_with (first
    | (go_at_call 34; refine CK.mono ?_; rintro r w1 ⟨rfl, b1⟩)
    | (go_at_call 73; refine (N1.out _ b1).mono ?_; rintro r w2 ⟨g2, cap2, rfl, o2, B2⟩))
  clear CK N1 b1
  go_loopw [5, 6] (fun v i wr => ∃ (j g cap : Nat), j ≤ n ∧ i = .int .i64 j ∧ v = .slice (some ⟨g, 0, none⟩) (Bk.preB l j).length cap ∧ wr.ownsRow w.heap.size 5 1 (.slice (some ⟨g, 0, none⟩) (Bk.preB l j).length cap) (Bk.preB l j).length (bc (Bk.preB l j)) ∧ Below w.heap.size w wr) (fun _ i _ => n - (intOf i).toNat)
  case atStart => exact ⟨0, g2, cap2, Nat.zero_le _, rfl, rfl, o2, B2⟩
  case round =>
    obtain ⟨j, g, cap, hj, rfl, rfl, o, bx⟩ := hrel
    clear o2 B2
    by_cases hlt : j < n
    · have hl : j < l.length := by have := HN.out; omega
      obtain ⟨B, off, rfl⟩ := HW.out.some (by omega)
      have hx := HM.out l[j] (List.getElem_mem hl)
      have hpn := Bk.preB_next l j hl
      have p0 := PL.out j
      have KA : Hid (∀ wx, Below w.heap.size w wx → (wx.cell? ⟨B, off + j * 4, none⟩ = some (str l[j].key) ∧ wx.cell? ⟨B, off + j * 4 + 1, none⟩ = some (str l[j].value) ∧ wx.cell? ⟨B, off + j * 4 + 2, none⟩ = some (.int .i64 l[j].seq) ∧ wx.cell? ⟨B, off + j * 4 + 3, none⟩ = some (.bool l[j].del))) := fun wx hb => (HW.out.later hb).cells j hl
      have KQ : Hid (¬ j % 8 = 0 → ∀ wx, Below w.heap.size w wx → wx.cell? ⟨B, off + (j - 1) * 4, none⟩ = some (str (Bk.keyAt l j)) ∧ wx.cell? ⟨B, off + j * 4, none⟩ = some (str l[j].key)) := fun h8 wx hb => by
        have hk := Bk.keyAt_next l (j - 1) (by omega)
        rw [show j - 1 + 1 = j by omega] at hk
        rw [hk]
        exact ⟨((HW.out.later hb).cells (j - 1) (by omega)).1, ((HW.out.later hb).cells j hl).1⟩
      have hka : (Bk.keyAt l j).length ≤ 1000000 := by
        refine Bk.lastK_le _ 1000000 [] (by simp) (fun x hx => ?_)
        obtain ⟨_, _, _, h4, _⟩ := Bk.may_parts (HM.out x (List.mem_of_mem_take hx))
        omega
      obtain ⟨x, hxe⟩ : ∃ x, x = l[j] := ⟨_, rfl⟩
      rw [← hxe] at hx hpn KA KQ
      obtain ⟨h1, h2, h3, h4, h5, h6⟩ := Bk.may_parts hx
      obtain ⟨s1, s2, _⟩ := Bk.shr_le j (Bk.keyAt l j) x.key
      have S0 : Hid (j % 8 = 0 → Bk.shr j (Bk.keyAt l j) x.key = 0) := fun h8 => if_pos h8
      have SQ : Hid (¬ j % 8 = 0 → ∀ wx, Calls Try.prog 74 #[str (Bk.keyAt l j), str x.key] wx fun e w' => e = .returned (.int .i64 (Bk.shr j (Bk.keyAt l j) x.key : Nat)) ∧ Below wx.heap.size wx w') := fun h8 wx => by
        have := rshared_any wx (Bk.keyAt l j) x.key hka (by omega)
        rw [show Bk.shr j (Bk.keyAt l j) x.key = Bk.cp (Bk.keyAt l j) x.key from if_neg h8]
        exact this
      have HP : Hid (Bk.preB l (j + 1) = Bk.preB l j ++ Bk.entB j (Bk.keyAt l j) x) := hpn
      have N0 : Hid (Bk.preB l j ≠ []) := Bk.preB_ne l j
      unfold Bk.entB at HP
      generalize Bk.shr j (Bk.keyAt l j) x.key = sh at S0 SQ HP s1 s2
      generalize Bk.keyAt l j = ka at *
      obtain ⟨P, hP⟩ : ∃ P, P = Bk.preB l j := ⟨_, rfl⟩
      rw [← hP] at o p0 ⊢
      rw [← hP] at HP N0
      have E1 : Hid (Rb w.heap.size w wr (.slice (some ⟨g, 0, none⟩) P.length cap) P) := ⟨o, bx, Nat.le_refl _⟩
      clear hxe hP PL HM HW hl o hx hpn hka
      obtain ⟨K, V, Q, D⟩ := x
      simp only at h1 h2 h3 h4 h5 h6 s2
      have ne : ∀ (x : Nat) (q r : List UInt8), q ++ Enc.leb x ++ r ≠ [] := fun x q r e => by
        have h1 := congrArg List.length e
        have h2 := Enc.leb_pos x
        rw [List.length_append, List.length_append, List.length_nil] at h1
        omega
      have a1 := Enc.leb_len64 sh (by omega)
      have a2 := Enc.leb_len64 (K.length - sh) (by omega)
      have a3 := Enc.leb_len64 Q.toNat (by omega)
      have a4 := Enc.leb_len64 V.length (by omega)
      have hT : Bk.text (K.drop sh) = Enc.leb (K.length - sh) ++ K.drop sh := by unfold Bk.text; rw [List.length_drop]
      have hV : Bk.text V = Enc.leb V.length ++ V := rfl
      have hD : (K.drop sh).length ≤ 512 := by rw [List.length_drop]; omega
      have A2 : Hid (∀ wx v, Rb w.heap.size w wx v (P ++ Enc.leb sh) → Calls Try.prog 75 #[v, .int .u64 ((K.length : Int) - (sh : Int))] wx fun r w' => ∃ g cap L, r = .returned (.slice (some ⟨g, 0, none⟩) L cap) ∧ Hid (L = (P ++ Enc.leb sh ++ Enc.leb (K.length - sh)).length) ∧ Hid (Rb w.heap.size w w' (.slice (some ⟨g, 0, none⟩) L cap) (P ++ Enc.leb sh ++ Enc.leb (K.length - sh)))) := fun wx v hE => by
        have := rb_app (K.length - sh) hE (by omega) (by rw [List.length_append]; omega) (by have := ne sh P []; rwa [List.append_nil] at this)
        rw [show ((K.length - sh : Nat) : Int) = (K.length : Int) - (sh : Int) by omega] at this
        exact this
      have A3 : Hid (∀ wx v, Rb w.heap.size w wx v (P ++ Enc.leb sh ++ Enc.leb (K.length - sh) ++ K.drop sh) → Calls Try.prog 75 #[v, .int .u64 Q] wx fun r w' => ∃ g cap L, r = .returned (.slice (some ⟨g, 0, none⟩) L cap) ∧ Hid (L = (P ++ Enc.leb sh ++ Enc.leb (K.length - sh) ++ K.drop sh ++ Enc.leb Q.toNat).length) ∧ Hid (Rb w.heap.size w w' (.slice (some ⟨g, 0, none⟩) L cap) (P ++ Enc.leb sh ++ Enc.leb (K.length - sh) ++ K.drop sh ++ Enc.leb Q.toNat))) := fun wx v hE => by
        have := rb_app Q.toNat hE (by omega) (by rw [List.length_append, List.length_append, List.length_append]; omega) (ne _ _ _)
        rw [show ((Q.toNat : Nat) : Int) = Q by omega] at this
        exact this
      have A4 : Hid (∀ wx v, Rb w.heap.size w wx v (P ++ Enc.leb sh ++ Enc.leb (K.length - sh) ++ K.drop sh ++ Enc.leb Q.toNat ++ [0]) → Calls Try.prog 75 #[v, .int .u64 (V.length : Int)] wx fun r w' => ∃ g cap L, r = .returned (.slice (some ⟨g, 0, none⟩) L cap) ∧ Hid (L = (P ++ Enc.leb sh ++ Enc.leb (K.length - sh) ++ K.drop sh ++ Enc.leb Q.toNat ++ [0] ++ Enc.leb V.length).length) ∧ Hid (Rb w.heap.size w w' (.slice (some ⟨g, 0, none⟩) L cap) (P ++ Enc.leb sh ++ Enc.leb (K.length - sh) ++ K.drop sh ++ Enc.leb Q.toNat ++ [0] ++ Enc.leb V.length))) := fun wx v hE =>
        rb_app V.length hE (by omega) (by rw [List.length_append, List.length_append, List.length_append, List.length_append, List.length_append, List.length_singleton]; omega) (ne _ _ _)
      have R4 : Hid ((P ++ Enc.leb sh ++ Enc.leb (K.length - sh)).length + (K.drop sh).length ≤ 140737488355328) := by show _ ≤ _; rw [List.length_append, List.length_append]; omega
      have R6 : Hid (∀ b : UInt8, (P ++ Enc.leb sh ++ Enc.leb (K.length - sh) ++ K.drop sh ++ Enc.leb Q.toNat).length + [b].length ≤ 140737488355328) := fun b => by rw [List.length_append, List.length_append, List.length_append, List.length_append, List.length_singleton]; omega
      have R8 : Hid ((P ++ Enc.leb sh ++ Enc.leb (K.length - sh) ++ K.drop sh ++ Enc.leb Q.toNat ++ [0] ++ Enc.leb V.length).length + V.length ≤ 140737488355328) := by show _ ≤ _; rw [List.length_append, List.length_append, List.length_append, List.length_append, List.length_append, List.length_append, List.length_singleton]; omega
      have EQT : Hid (D = true → Bk.preB l (j + 1) = P ++ Enc.leb sh ++ Enc.leb (K.length - sh) ++ K.drop sh ++ Enc.leb Q.toNat ++ [1]) := fun hd => by rw [HP.out]; simp [hd, hT]
      have EQF : Hid (D = false → Bk.preB l (j + 1) = P ++ Enc.leb sh ++ Enc.leb (K.length - sh) ++ K.drop sh ++ Enc.leb Q.toNat ++ [0] ++ Enc.leb V.length ++ V) := fun hd => by rw [HP.out]; simp [hd, hT, hV]
      have KC := KA
      have KD : Hid (∀ wx, Below w.heap.size w wx → wx.cell? ⟨B, off + j * 4, none⟩ = some (str K) ∧ wx.cell? ⟨B, off + j * 4 + 2, none⟩ = some (.int .i64 Q)) := fun wx hb => ⟨(KA.out wx hb).1, (KA.out wx hb).2.2.1⟩
      have KV : Hid (∀ wx, Below w.heap.size w wx → wx.cell? ⟨B, off + j * 4 + 1, none⟩ = some (str V)) := fun wx hb => (KA.out wx hb).2.1
      have SL : (sh : Int) ≤ (K.length : Int) := by omega
      have jn : (j : Int) < (n : Int) := by omega
      have j0 : (0 : Int) ≤ (j : Int) := by omega
      have ws : IntKind.u64.wrap (sh : Int) = (sh : Int) := by rw [IntKind.wrap_u64]; omega
      have wk : IntKind.u64.wrap ((K.length : Int) - (sh : Int)) = (K.length : Int) - (sh : Int) := by rw [IntKind.wrap_u64]; omega
      have wq : IntKind.u64.wrap Q = Q := by rw [IntKind.wrap_u64]; omega
      have wv : IntKind.u64.wrap (V.length : Int) = (V.length : Int) := by rw [IntKind.wrap_u64]; omega
      have wi : IntKind.i64.wrap ((K.length : Int) - (sh : Int)) = (K.length : Int) - (sh : Int) := by rw [IntKind.wrap_i64]; omega
      clear h3 h6 KA HP hT hV ne a1 a2 a3 a4 hD
      by_cases h8 : j % 8 = 0
      · have e8 : (j : Int).tmod 8 = 0 := by rw [Int.tmod_eq_emod_of_nonneg (by omega)]; omega
        have hz := S0.out h8
        subst hz
        have A2z : Hid (∀ wx v, Rb w.heap.size w wx v (P ++ Enc.leb 0) → Calls Try.prog 75 #[v, .int .u64 (K.length : Int)] wx fun r w' => ∃ g cap L, r = .returned (.slice (some ⟨g, 0, none⟩) L cap) ∧ Hid (L = (P ++ Enc.leb 0 ++ Enc.leb (K.length - 0)).length) ∧ Hid (Rb w.heap.size w w' (.slice (some ⟨g, 0, none⟩) L cap) (P ++ Enc.leb 0 ++ Enc.leb (K.length - 0)))) := fun wx v hE => by
          have := A2.out wx v hE
          rw [show (K.length : Int) - ((0 : Nat) : Int) = (K.length : Int) by omega] at this
          exact this
        have A1z : Hid (∀ wx v, Rb w.heap.size w wx v P → Calls Try.prog 75 #[v, .int .u64 0] wx fun r w' => ∃ g cap L, r = .returned (.slice (some ⟨g, 0, none⟩) L cap) ∧ Hid (L = (P ++ Enc.leb 0).length) ∧ Hid (Rb w.heap.size w w' (.slice (some ⟨g, 0, none⟩) L cap) (P ++ Enc.leb 0))) := fun wx v hE => rb_app 0 hE (by omega) (by omega) N0.out
        have wkz : IntKind.u64.wrap (K.length : Int) = (K.length : Int) := by rw [IntKind.wrap_u64]; omega
        have wkz2 : IntKind.i64.wrap (K.length : Int) = (K.length : Int) := by rw [IntKind.wrap_i64]; omega
        clear S0 SQ KQ A2 N0 ws wk wi SL s1 s2
        cases D
        · have EQ := hide (EQF.out rfl)
          clear EQF EQT
          have E2 := E1
          go_wp2_with (fail)
          go_region_held3 (fun wx => wx.cell? ⟨B, off + j * 4, none⟩ = some (str K))
            (first | exact (KC.out _ E4.out.bel).1 | exact (KC.out _ E3.out.bel).1 | exact (KC.out _ E2.out.drew.bel).1)
            (first
              | (go_at_call 75; refine (A2z.out _ _ E3.out).mono ?_; rintro r w4 ⟨g4, cap4, L4, rfl, HL4, E4⟩)
              | (go_at_call 75; refine (A1z.out _ _ E2.out.drew).mono ?_; rintro r w3 ⟨g3, cap3, L3, rfl, HL3, E3⟩))
          clear A2z A1z E3
          go_wp2_with (fail)
          go_region_held3 (fun wx => wx.cell? ⟨B, off + j * 4, none⟩ = some (str K) ∧ wx.cell? ⟨B, off + j * 4 + 2, none⟩ = some (.int .i64 Q))
            (first | exact (KD.out _ E6.out.bel) | exact (KD.out _ E5.out.bel) | exact (KD.out _ E4.out.drew.bel))
            (first
              | (go_at_call 75; refine (A3.out _ _ E5.out).mono ?_; rintro r w6 ⟨g6, cap6, L6, rfl, HL6, E6⟩)
              | (refine step_app_str _ (by rfl) _ _ (by rfl) w.heap.size g4 cap4 _ (K.drop 0) L4 HL4.out rfl (rb_own HL4.out E4.out.drew) _ (by rfl) (ext_drop K 0) R4.out E4.out.drew.size ?_; intro g5 cap5 L5 w5 HL5 o5 x5; have E5 : Hid _ := E4.out.drew.grown o5 x5))
          clear A3 E5 E4
          have F6 := KC.out _ E6.out.bel
          go_wp2_with (fail)
          have F6v := F6.2.1
          go_region_held3 (fun wx => wx.cell? ⟨B, off + j * 4 + 1, none⟩ = some (str V))
            (first | exact F6v | exact kx | (go_keep; done))
            (first
              | (refine step_app_str _ (by rfl) _ _ (by rfl) w.heap.size g8 cap8 _ V L8 HL8.out rfl (rb_own HL8.out (by first | exact E8.out | exact E8.out.drew)) _ (by rfl) rfl R8.out (by first | exact E8.out.size | exact E8.out.drew.size) ?_; intro g9 cap9 L9 w9 HL9 o9 x9; have E9 : Hid _ := (E8.out.later (by first | exact Below.refl _ _ | exact (Below.refl _ _).drew)).grown o9 x9; have kx := KV.out _ E9.out.bel)
              | (go_at_call 75; refine (A4.out _ _ (by first | exact E7.out | exact E7.out.drew)).mono ?_; rintro r w8 ⟨g8, cap8, L8, rfl, HL8, E8⟩; have kx := KV.out _ E8.out.bel)
              | (refine step_app_bytes _ (by rfl) _ _ (by rfl) w.heap.size g6 cap6 _ [0] L6 1 1 HL6.out rfl (by rfl) (own_after (rb_own HL6.out E6.out) (by first | exact (Below.refl _ _).alloc (Nat.le_refl _) _ | exact ((Below.refl _ _).alloc (Nat.le_refl _) _).drew | exact (Below.refl _ _).drew.alloc (Nat.le_refl _) _)) _ (by rfl) (by first | exact lit_bytes _ _ (by simp) _ _ rfl | exact (lit_bytes _ _ (by simp) _ _ rfl).later (Below.refl _ _).drew) (fun e => by cases e) (R6.out _) (by have := E6.out.size; simp; omega) ?_; intro g7 cap7 L7 w7 HL7 x7; have E7 : Hid _ := (E6.out.later (by first | exact (Below.refl _ _).alloc (Nat.le_refl _) _ | exact ((Below.refl _ _).alloc (Nat.le_refl _) _).drew | exact (Below.refl _ _).drew.alloc (Nat.le_refl _) _)).grown x7.own x7.grown; have kx := KV.out _ E7.out.bel; clear x7))
          clear E6 E7 E8
          go_wp2_with (fail)
          have hL := HL9.out
          rw [← EQ.out] at hL
          subst hL
          have o9 := E9.out.own
          rw [← EQ.out] at o9
          exact ⟨⟨j + 1, g9, cap9, by omega, by go_num, rfl, o9, E9.out.bel⟩, by simp [intOf]; omega⟩
        · have EQ := hide (EQT.out rfl)
          clear EQF EQT A4 R8 KV
          have E2 := E1
          go_wp2_with (fail)
          go_region_held3 (fun wx => wx.cell? ⟨B, off + j * 4, none⟩ = some (str K))
            (first | exact (KC.out _ E4.out.bel).1 | exact (KC.out _ E3.out.bel).1 | exact (KC.out _ E2.out.drew.bel).1)
            (first
              | (go_at_call 75; refine (A2z.out _ _ E3.out).mono ?_; rintro r w4 ⟨g4, cap4, L4, rfl, HL4, E4⟩)
              | (go_at_call 75; refine (A1z.out _ _ E2.out.drew).mono ?_; rintro r w3 ⟨g3, cap3, L3, rfl, HL3, E3⟩))
          clear A2z A1z E3
          go_wp2_with (fail)
          go_region_held3 (fun wx => wx.cell? ⟨B, off + j * 4, none⟩ = some (str K) ∧ wx.cell? ⟨B, off + j * 4 + 2, none⟩ = some (.int .i64 Q))
            (first | exact (KD.out _ E6.out.bel) | exact (KD.out _ E5.out.bel) | exact (KD.out _ E4.out.drew.bel))
            (first
              | (go_at_call 75; refine (A3.out _ _ E5.out).mono ?_; rintro r w6 ⟨g6, cap6, L6, rfl, HL6, E6⟩)
              | (refine step_app_str _ (by rfl) _ _ (by rfl) w.heap.size g4 cap4 _ (K.drop 0) L4 HL4.out rfl (rb_own HL4.out E4.out.drew) _ (by rfl) (ext_drop K 0) R4.out E4.out.drew.size ?_; intro g5 cap5 L5 w5 HL5 o5 x5; have E5 : Hid _ := E4.out.drew.grown o5 x5))
          clear A3 E5 E4
          have F6 := KC.out _ E6.out.bel
          go_wp2_with ((at_builtin; refine wpList_app_bytes _ rfl _ _ rfl w.heap.size g6 cap6 _ [1] L6 1 1 HL6.out rfl rfl ((rb_own HL6.out E6.out).alloc _) _ rfl (lit_bytes _ _ rfl _ _ rfl) (fun e => by cases e) (R6.out _) (by have := E6.out.size; simp; omega) ?_; intro g7 cap7 L7 w7 HL7 x7; have E7 : Hid _ := (E6.out.later ((Below.refl _ _).alloc (Nat.le_refl _) _)).grown x7.own x7.grown; clear E6 x7))
          have hL := HL7.out
          rw [← EQ.out] at hL
          subst hL
          have o7 := E7.out.own
          rw [← EQ.out] at o7
          exact ⟨⟨j + 1, g7, cap7, by omega, by go_num, rfl, o7, E7.out.bel⟩, by simp [intOf]; omega⟩
      · have e8 : ((j : Int).tmod 8 == 0) = false := by rw [Int.tmod_eq_emod_of_nonneg (by omega)]; simp; omega
        have SH := hide (SQ.out h8)
        have KP := hide (KQ.out h8)
        obtain ⟨m, rfl⟩ : ∃ m, j = m + 1 := ⟨j - 1, by omega⟩
        rw [Nat.add_sub_cancel] at KP
        have P1 := KP.out _ E1.out.drew.bel
        have mk : (m : Int) < (n : Int) := by omega
        have m0 : (0 : Int) ≤ (m : Int) + 1 := by omega
        have m3 : (0 : Int) ≤ (m : Int) := by omega
        have wm : IntKind.i64.wrap (m : Int) = (m : Int) := by rw [IntKind.wrap_i64]; omega
        have wm1 : IntKind.i64.wrap ((m : Int) + 1) = (m : Int) + 1 := by rw [IntKind.wrap_i64]; omega
        rw [show ((m + 1 : Nat) : Int) = (m : Int) + 1 by omega] at e8 jn ⊢
        clear S0 SQ KQ
        cases D
        · have EQ := hide (EQF.out rfl)
          clear EQF EQT
          go_wp2_with (fail)
          go_region_held3 (fun wx => wx.cell? ⟨B, off + m * 4, none⟩ = some (str ka) ∧ wx.cell? ⟨B, off + (m + 1) * 4, none⟩ = some (str K))
            (first | exact P1 | exact P2)
            (first
              | (go_at_call 74; refine (SH.out _).mono ?_; rintro r w2 ⟨rfl, b2⟩; have E2 : Hid _ := E1.out.drew.later b2; have P2 := KP.out _ E2.out.bel))
          go_wp2_with (fail)
          go_region_held3 (fun wx => wx.cell? ⟨B, off + (m + 1) * 4, none⟩ = some (str K))
            (first | exact (KC.out _ E4.out.bel).1 | exact (KC.out _ E3.out.bel).1 | exact (KC.out _ E2.out.drew.bel).1)
            (first
              | (go_at_call 75; refine (A2.out _ _ E3.out).mono ?_; rintro r w4 ⟨g4, cap4, L4, rfl, HL4, E4⟩)
              | (go_at_call 75; refine (rb_app sh E2.out.drew (by omega) (by omega) N0.out).mono ?_; rintro r w3 ⟨g3, cap3, L3, rfl, HL3, E3⟩))
          clear A2 E3
          go_wp2_with (fail)
          go_region_held3 (fun wx => wx.cell? ⟨B, off + (m + 1) * 4, none⟩ = some (str K) ∧ wx.cell? ⟨B, off + (m + 1) * 4 + 2, none⟩ = some (.int .i64 Q))
            (first | exact (KD.out _ E6.out.bel) | exact (KD.out _ E5.out.bel) | exact (KD.out _ E4.out.drew.bel))
            (first
              | (go_at_call 75; refine (A3.out _ _ E5.out).mono ?_; rintro r w6 ⟨g6, cap6, L6, rfl, HL6, E6⟩)
              | (refine step_app_str _ (by rfl) _ _ (by rfl) w.heap.size g4 cap4 _ (K.drop sh) L4 HL4.out rfl (rb_own HL4.out E4.out.drew) _ (by rfl) (ext_drop K sh) R4.out E4.out.drew.size ?_; intro g5 cap5 L5 w5 HL5 o5 x5; have E5 : Hid _ := E4.out.drew.grown o5 x5))
          clear A3 E5 E4
          have F6 := KC.out _ E6.out.bel
          go_wp2_with (fail)
          have F6v := F6.2.1
          go_region_held3 (fun wx => wx.cell? ⟨B, off + (m + 1) * 4 + 1, none⟩ = some (str V))
            (first | exact F6v | exact kx | (go_keep; done))
            (first
              | (refine step_app_str _ (by rfl) _ _ (by rfl) w.heap.size g8 cap8 _ V L8 HL8.out rfl (rb_own HL8.out (by first | exact E8.out | exact E8.out.drew)) _ (by rfl) rfl R8.out (by first | exact E8.out.size | exact E8.out.drew.size) ?_; intro g9 cap9 L9 w9 HL9 o9 x9; have E9 : Hid _ := (E8.out.later (by first | exact Below.refl _ _ | exact (Below.refl _ _).drew)).grown o9 x9; have kx := KV.out _ E9.out.bel)
              | (go_at_call 75; refine (A4.out _ _ (by first | exact E7.out | exact E7.out.drew)).mono ?_; rintro r w8 ⟨g8, cap8, L8, rfl, HL8, E8⟩; have kx := KV.out _ E8.out.bel)
              | (refine step_app_bytes _ (by rfl) _ _ (by rfl) w.heap.size g6 cap6 _ [0] L6 1 1 HL6.out rfl (by rfl) (own_after (rb_own HL6.out E6.out) (by first | exact (Below.refl _ _).alloc (Nat.le_refl _) _ | exact ((Below.refl _ _).alloc (Nat.le_refl _) _).drew | exact (Below.refl _ _).drew.alloc (Nat.le_refl _) _)) _ (by rfl) (by first | exact lit_bytes _ _ (by simp) _ _ rfl | exact (lit_bytes _ _ (by simp) _ _ rfl).later (Below.refl _ _).drew) (fun e => by cases e) (R6.out _) (by have := E6.out.size; simp; omega) ?_; intro g7 cap7 L7 w7 HL7 x7; have E7 : Hid _ := (E6.out.later (by first | exact (Below.refl _ _).alloc (Nat.le_refl _) _ | exact ((Below.refl _ _).alloc (Nat.le_refl _) _).drew | exact (Below.refl _ _).drew.alloc (Nat.le_refl _) _)).grown x7.own x7.grown; have kx := KV.out _ E7.out.bel; clear x7))
          clear E6 E7 E8
          go_wp2_with (fail)
          have hL := HL9.out
          rw [← EQ.out] at hL
          subst hL
          have o9 := E9.out.own
          rw [← EQ.out] at o9
          exact ⟨⟨m + 1 + 1, g9, cap9, by omega, by go_num, rfl, o9, E9.out.bel⟩, by simp [intOf]; omega⟩
        · have EQ := hide (EQT.out rfl)
          clear EQF EQT A4 R8 KV
          go_wp2_with (fail)
          go_region_held3 (fun wx => wx.cell? ⟨B, off + m * 4, none⟩ = some (str ka) ∧ wx.cell? ⟨B, off + (m + 1) * 4, none⟩ = some (str K))
            (first | exact P1 | exact P2)
            (first
              | (go_at_call 74; refine (SH.out _).mono ?_; rintro r w2 ⟨rfl, b2⟩; have E2 : Hid _ := E1.out.drew.later b2; have P2 := KP.out _ E2.out.bel))
          go_wp2_with (fail)
          go_region_held3 (fun wx => wx.cell? ⟨B, off + (m + 1) * 4, none⟩ = some (str K))
            (first | exact (KC.out _ E4.out.bel).1 | exact (KC.out _ E3.out.bel).1 | exact (KC.out _ E2.out.drew.bel).1)
            (first
              | (go_at_call 75; refine (A2.out _ _ E3.out).mono ?_; rintro r w4 ⟨g4, cap4, L4, rfl, HL4, E4⟩)
              | (go_at_call 75; refine (rb_app sh E2.out.drew (by omega) (by omega) N0.out).mono ?_; rintro r w3 ⟨g3, cap3, L3, rfl, HL3, E3⟩))
          clear A2 E3
          go_wp2_with (fail)
          go_region_held3 (fun wx => wx.cell? ⟨B, off + (m + 1) * 4, none⟩ = some (str K) ∧ wx.cell? ⟨B, off + (m + 1) * 4 + 2, none⟩ = some (.int .i64 Q))
            (first | exact (KD.out _ E6.out.bel) | exact (KD.out _ E5.out.bel) | exact (KD.out _ E4.out.drew.bel))
            (first
              | (go_at_call 75; refine (A3.out _ _ E5.out).mono ?_; rintro r w6 ⟨g6, cap6, L6, rfl, HL6, E6⟩)
              | (refine step_app_str _ (by rfl) _ _ (by rfl) w.heap.size g4 cap4 _ (K.drop sh) L4 HL4.out rfl (rb_own HL4.out E4.out.drew) _ (by rfl) (ext_drop K sh) R4.out E4.out.drew.size ?_; intro g5 cap5 L5 w5 HL5 o5 x5; have E5 : Hid _ := E4.out.drew.grown o5 x5))
          clear A3 E5 E4
          have F6 := KC.out _ E6.out.bel
          go_wp2_with ((at_builtin; refine wpList_app_bytes _ rfl _ _ rfl w.heap.size g6 cap6 _ [1] L6 1 1 HL6.out rfl rfl ((rb_own HL6.out E6.out).alloc _) _ rfl (lit_bytes _ _ rfl _ _ rfl) (fun e => by cases e) (R6.out _) (by have := E6.out.size; simp; omega) ?_; intro g7 cap7 L7 w7 HL7 x7; have E7 : Hid _ := (E6.out.later ((Below.refl _ _).alloc (Nat.le_refl _) _)).grown x7.own x7.grown; clear E6 x7))
          have hL := HL7.out
          rw [← EQ.out] at hL
          subst hL
          have o7 := E7.out.own
          rw [← EQ.out] at o7
          exact ⟨⟨m + 1 + 1, g7, cap7, by omega, by go_num, rfl, o7, E7.out.bel⟩, by simp [intOf]; omega⟩
    · have e : j = n := by omega
      have i3 : ¬ (j : Int) < (n : Int) := by omega
      have HE : Hid (Bk.preB l j = Bk.blockB l) := by show _ = _; rw [e, HN.out]; exact Bk.preB_all l
      rw [HE.out] at o ⊢
      clear HE e PL HM HW hlt hj
      go_wp2_with (fail)
      go_ret2
      exact ⟨g, cap, rfl, o, bx⟩
end Go.Proofs.Ytanhmebjfockjaa
