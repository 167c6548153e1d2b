/-
  Package lexer: Text of any tokens.
-/
import Derived.Test.YtjddhakaebkkeaaDoorLxL
namespace Go.Proofs.YtjddhakaebkkeaaDoor
open Go.RowKit
attribute [local go_sem ↓] Go.wp_at_zero Go.wp_at_succ

/-- Where tokens lie. -/
def TksAt (w : World) (b off : Nat) (l : List Lx.Tk) : Prop := ∀ j (h : j < l.length),
  w.cell? ⟨b, off + j * 4, none⟩ = some (.int .u8 (l[j]).k) ∧ w.cell? ⟨b, off + j * 4 + 1, none⟩ = some (.string ⟨(l[j]).t.toArray⟩) ∧ w.cell? ⟨b, off + j * 4 + 2, none⟩ = some (.int .u64 (l[j]).n) ∧ w.cell? ⟨b, off + j * 4 + 3, none⟩ = some (.int .i64 (l[j]).at')
theorem TksAt.later {w w' : World} {b off : Nat} {l : List Lx.Tk} (h : TksAt w b off l) (hb : Below w.heap.size w w') : TksAt w' b off l := fun j hj =>
  ⟨(hb.cell (World.block_lt_of_cell? w _ (h j hj).1)).trans (h j hj).1, (hb.cell (World.block_lt_of_cell? w _ (h j hj).2.1)).trans (h j hj).2.1, (hb.cell (World.block_lt_of_cell? w _ (h j hj).2.2.1)).trans (h j hj).2.2.1, (hb.cell (World.block_lt_of_cell? w _ (h j hj).2.2.2)).trans (h j hj).2.2.2⟩
/-- A slice whose tokens are l. -/
structure TksIn (w : World) (v : Value) (l : List Lx.Tk) : Prop where
  form : ∃ a cap, v = .slice a l.length cap ∧ (a = none → cap = 0) ∧ (l ≠ [] → ∃ b off, a = some ⟨b, off, none⟩ ∧ TksAt w b off l)
  wf : ∀ x ∈ l, Twf x
theorem TksIn.later {w w' : World} {v : Value} {l : List Lx.Tk} (h : TksIn w v l) (hb : Below w.heap.size w w') : TksIn w' v l := by
  obtain ⟨⟨a, cap, e, ho, hf⟩, hw⟩ := h
  exact ⟨⟨a, cap, e, ho, fun hn => by obtain ⟨b, off, e2, ht⟩ := hf hn; exact ⟨b, off, e2, ht.later hb⟩⟩, hw⟩

theorem builderAt_later {T e : TypeId} {B b : Nat} {q : Value} {bs : List Value} {W W' : World} (h : Lib.BuilderAtF T e B b q bs W) (hb : Below W.heap.size W W') : Lib.BuilderAtF T e B b q bs W' := by
  have hl := h.lt
  obtain ⟨hB, v, hv, own, hne⟩ := h
  exact ⟨hB, v, (hb.block b hl).trans hv, own.kept (row := none) ⟨hb.os, hb.tape, hb.output, hb.size, fun k hk _ => hb.block k hk⟩ (Classical.em _), hne⟩
theorem builder_later {T e : TypeId} {B b : Nat} {bs : List Value} {W W' : World} (h : Lib.IsBuilderF T e B b bs W) (hb : Below W.heap.size W W') : Lib.IsBuilderF T e B b bs W' :=
  h.elim (fun x => .inl (builderAt_later x hb)) (fun x => .inr (builderAt_later x hb))

/-! ### Plain -/
def textP : Bool → List Lx.Tk → List UInt8
  | _, [] => []
  | f, x :: r => (if f then [] else [32]) ++ (Lx.saidT x ++ textP false r)
theorem textP_is : ∀ l : List Lx.Tk, textP true l = Lx.textL l
  | [] => rfl
  | [x] => by simp [textP, Lx.textL]
  | x :: y :: r => by
    have ih := textP_is (y :: r)
    have e : textP false (y :: r) = 32 :: textP true (y :: r) := by simp [textP]
    rw [textP, e, ih, Lx.textL]; rfl
theorem said_len {x : Lx.Tk} (h : Lx.mayT x = true) : (Lx.saidT x).length ≤ 200 := by
  obtain ⟨k, t, n, a⟩ := x
  unfold Lx.mayT at h
  simp only [Bool.and_eq_true] at h
  obtain ⟨_, h⟩ := h
  unfold Lx.saidT
  simp only at h ⊢
  split at h
  · rename_i hk
    subst hk
    rw [if_neg (by decide), if_neg (by decide)]
    rw [Lx.isWd_is] at h
    simp only [Bool.and_eq_true, decide_eq_true_eq] at h
    omega
  · split at h
    · rename_i hk
      subst hk
      rw [if_pos rfl]
      simp only [Bool.and_eq_true, decide_eq_true_eq] at h
      rw [Lib.decDigits_length]
      by_cases h0 : n = 0
      · subst h0; rw [Lib.nDigits_small (by decide)]; decide
      · have := Lib.numDigits_eq n (by omega) (by omega)
        split at this <;> omega
    · split at h
      · rename_i hk
        subst hk
        rw [if_neg (by decide), if_pos rfl]
        simp only [Bool.and_eq_true, decide_eq_true_eq] at h
        have := tw_len t
        simp only [List.length_cons, List.length_append, List.length_nil]
        omega
      · split at h
        · rename_i hk
          subst hk
          rw [if_neg (by decide), if_neg (by decide)]
          have hl : t ∈ Lx.signs := by unfold Lx.isS at h; simpa using h
          unfold Lx.signs at hl
          simp only [List.mem_cons, List.not_mem_nil, or_false] at hl
          rcases hl with rfl | rfl | rfl | rfl | rfl | rfl | rfl | rfl | rfl | rfl | rfl | rfl | rfl | rfl | rfl | rfl | rfl <;> decide
        · cases h
theorem bad_drop : ∀ (l : List Lx.Tk) (j : Nat) (hj : j < l.length), (∀ x ∈ l.take j, Lx.mayT x = true) → Lx.mayT l[j] = false → Lx.badAt l = some j
  | x :: r, 0, _, _, h2 => by rw [Lx.badAt, if_neg (by simpa using h2)]
  | x :: r, j + 1, hj, h1, h2 => by
    have hx := h1 x (by simp)
    rw [Lx.badAt, if_pos hx, bad_drop r j (by simpa using hj) (fun y hy => h1 y (by simp [hy])) h2]; rfl
/-- What Text answers. -/
def textS (l : List Lx.Tk) : ByteArray := match Lx.badAt l with
  | none => ⟨(Lx.textL l).toArray⟩
  | some _ => ⟨#[]⟩
def textE (l : List Lx.Tk) : Int := match Lx.badAt l with
  | none => 0
  | some _ => 2
def textI (l : List Lx.Tk) : Int := match Lx.badAt l with
  | none => 0
  | some i => i
theorem text_no {l : List Lx.Tk} {i : Nat} (h : Lx.badAt l = some i) : textS l = ⟨#[]⟩ ∧ textE l = 2 ∧ textI l = i := by
  unfold textS textE textI; rw [h]; exact ⟨rfl, rfl, rfl⟩
theorem text_ok {l : List Lx.Tk} (h : Lx.badAt l = none) : textS l = ⟨(Lx.textL l).toArray⟩ ∧ textE l = 0 ∧ textI l = 0 := by
  unfold textS textE textI; rw [h]; exact ⟨rfl, rfl, rfl⟩

/-- Text on its way. -/
structure TxS (w0 wr : World) (acc : List UInt8) : Prop where
  bld : Lib.IsBuilderF 46 5 (w0.heap.size + 1) (w0.heap.size + 1) (Lib.byteCells acc) wr
  res : wr.heap[w0.heap.size]? = some (.cells #[.int .i64 0, .int .i64 0] 30 (0, 0))
  bel : Below w0.heap.size w0 wr
  lt : w0.heap.size + 1 < wr.heap.size
theorem TxS.later {w0 wr w' : World} {acc : List UInt8} (h : TxS w0 wr acc) (hb : Below wr.heap.size wr w') : TxS w0 w' acc :=
  ⟨builder_later h.bld hb, (hb.block _ (by have := h.lt; omega)).trans h.res, h.bel.trans (hb.mono (by have := h.lt; omega)), by have := h.lt; have := hb.size; omega⟩
theorem TxS.alloc {w0 wr : World} {acc : List UInt8} (h : TxS w0 wr acc) (o : Obj) : TxS w0 (wr.alloc o) acc :=
  h.later ((Below.refl _ _).alloc (Nat.le_refl _) _)
theorem TxS.wrote {w0 wr w' : World} {acc acc' : List UInt8} {bs : List Value} (h : TxS w0 wr acc) (hb : Below (w0.heap.size + 1) wr w') (hB : Lib.BuilderAtF 46 5 (w0.heap.size + 1) (w0.heap.size + 1) (.pointer (some ⟨w0.heap.size + 1, 0, none⟩)) bs w') (e : bs = Lib.byteCells acc') : TxS w0 w' acc' :=
  ⟨.inr (by rw [← e]; exact hB), (hb.block _ (by omega)).trans h.res, h.bel.trans (hb.mono (by omega)), by have := h.lt; have := hb.size; omega⟩

set_option maxRecDepth 100000 in
set_option maxHeartbeats 6400000 in
theorem text_any (w : World) (v : Value) (l : List Lx.Tk) (h : TksIn w v l) (hn : l.length ≤ 1000000) (hT : Tabs w) : Calls Tryd.prog 7 #[v] w fun e w' => e = .returned (.tuple #[.string (textS l), .agg #[.int .i64 (textE l), .int .i64 (textI l)]]) ∧ Below w.heap.size w w' := by
  obtain ⟨⟨a, cap, rfl, _, hf⟩, hwf⟩ := h
  obtain ⟨S, hS⟩ : ∃ S, S = textS l := ⟨_, rfl⟩
  obtain ⟨E, hE⟩ : ∃ E, E = textE l := ⟨_, rfl⟩
  obtain ⟨I, hI⟩ : ∃ I, I = textI l := ⟨_, rfl⟩
  rw [← hS, ← hE, ← hI]
  have HS : Hid (S = textS l ∧ E = textE l ∧ I = textI l) := ⟨hS, hE, hI⟩
  have HF := hide hf
  have HWF := hide hwf
  have TT := hide hT
  clear hf hwf hT hS hE hI
  go_enter Tryd.func7, Tryd.ntmps7
  go_wp2
  go_loopw [11] (fun i wr => ∃ (j : Nat) (acc : List UInt8), i = .int .i64 j ∧ j ≤ l.length ∧ TxS w wr acc ∧ acc.length ≤ 201 * j ∧ Hid (acc ++ textP (decide (j = 0)) (l.drop j) = textP true l) ∧ Hid (∀ x ∈ l.take j, Lx.mayT x = true)) (fun i _ => l.length - (intOf i).toNat)
  case atStart =>
    refine ⟨0, [], rfl, Nat.zero_le _, ⟨?_, ?_, ((Below.refl _ w).alloc (Nat.le_refl _) _).alloc (by simp) _, by simp⟩, by simp, rfl, by intro x hx; simp at hx⟩
    · have := Lib.IsBuilderF.of (Lib.fresh_isBuilder 46 5 (w.alloc (.cells #[.int .i64 0, .int .i64 0] 30)))
      rw [show Lib.byteCells [] = [] from rfl]
      simpa using this
    · rw [((Below.refl _ (w.alloc (.cells #[.int .i64 0, .int .i64 0] 30))).alloc (Nat.le_refl _) (.cells #[.pointer none, .slice none 0 0] 46)).block _ (by simp)]
      show (w.heap.push _)[w.heap.size]? = _
      simp
  case round =>
    obtain ⟨j, acc, rfl, hj, TX, hal, HA, HM⟩ := hrel
    by_cases hlt : j < l.length
    · obtain ⟨b, off, rfl, hv⟩ := HF.out (by intro e; rw [e] at hlt; simp at hlt)
      obtain ⟨c0, c1, c2, c3⟩ := (hv.later TX.bel) j hlt
      obtain ⟨x, hx⟩ : ∃ x, x = l[j] := ⟨_, rfl⟩
      have hxw := hide (HWF.out l[j] (List.getElem_mem _))
      rw [← hx] at c0 c1 c2 c3 hxw
      obtain ⟨xs, hxs⟩ : ∃ xs : ByteArray, xs = ⟨x.t.toArray⟩ := ⟨_, rfl⟩
      rw [← hxs] at c1
      have TO := hide (fun wx h => textOf_any wx x xs hxs hxw.out h)
      have HX := hide hx
      have TX1 := hide (TX.alloc (.cells #[.int .u8 x.k, .string xs, .int .u64 x.n, .int .i64 x.at'] 27))
      have hT1 := hide (TT.out.later TX1.out.bel)
      have hlti : (j : Int) < l.length := by omega
      clear hv hxs hx hxw TX
      cases hm : Lx.mayT x
      · rw [(said_no hm).1, (said_no hm).2] at TO
        have HB := bad_drop l j hlt HM.out (by rw [← HX.out]; exact hm)
        have HR : Hid (S = ⟨#[]⟩ ∧ E = 2 ∧ I = j) := ⟨HS.out.1.trans (text_no HB).1, HS.out.2.1.trans (text_no HB).2.1, HS.out.2.2.trans (text_no HB).2.2⟩
        clear hm HS HA HM HX HB HF HWF
        go_wp2_with (go_at_call 16; refine (TO.out _ hT1.out).mono ?_; rintro e w3 ⟨rfl, hz⟩; have TX3 := TX1.out.later hz; obtain ⟨z0, z1, f0, f1, hl2⟩ := slot2 TX3.res; have bel3 := TX3.bel; clear TX3)
        exact bodyPost_ret (v := .tuple #[.string ⟨#[]⟩, .agg #[.int .i64 2, .int .i64 j]]) (by simp [results, Tryd.results7, go_sem, z0, z1]; try rfl) rfl ⟨by rw [HR.out.1, HR.out.2.1, HR.out.2.2], by first | exact bel3 | exact below2 bel3 (Nat.le_refl _) _ _⟩
      · rw [(said_yes hm).1, (said_yes hm).2] at TO
        obtain ⟨st, hst⟩ : ∃ st : ByteArray, st = ⟨(Lx.saidT x).toArray⟩ := ⟨_, rfl⟩
        rw [← hst] at TO
        have hsl := said_len hm
        have hsz : st.size ≤ 200 := by rw [hst]; show (Lx.saidT x).toArray.size ≤ _; rw [List.size_toArray]; exact hsl
        have hsc : Hid (Lib.strCells st = Lib.byteCells (Lx.saidT x)) := by show _ = _; rw [hst]; rfl
        have hdr : l.drop j = x :: l.drop (j + 1) := by rw [List.drop_eq_getElem_cons hlt, ← HX.out]
        have HM2 : Hid (∀ y ∈ l.take (j + 1), Lx.mayT y = true) := by
          intro y hy
          rw [List.take_succ_eq_append_getElem hlt] at hy
          simp only [List.mem_append, List.mem_cons, List.not_mem_nil, or_false] at hy
          rcases hy with hy | rfl
          · exact HM.out y hy
          · rw [← HX.out]; exact hm
        by_cases h0 : j = 0
        · have HA2 : Hid ((acc ++ Lx.saidT x) ++ textP (decide (j + 1 = 0)) (l.drop (j + 1)) = textP true l) := by
            have h := HA.out
            rw [hdr, textP] at h
            show _ = _
            rw [← h]; simp [h0]
          have hjl : (acc ++ Lx.saidT x).length ≤ 201 * (j + 1) := by rw [List.length_append]; omega
          have hbl : (Lib.byteCells acc).length + st.size ≤ 140737488355328 := by rw [Lib.byteCells_length]; omega
          have hbe : Hid (Lib.byteCells acc ++ Lib.strCells st = Lib.byteCells (acc ++ Lx.saidT x)) := by show _ = _; rw [hsc.out, Lib.byteCells_append]
          have h0i : ¬ (j : Int) > 0 := by omega
          clear hm HA HM HX hdr hst hsc hsl hal h0
          go_wp2_with (first
            | (go_at_call 16; refine (TO.out _ hT1.out).mono ?_; rintro e w3 ⟨rfl, hz⟩; have TX3 := hide (TX1.out.later hz); have hl3 := TX3.out.lt; clear hz)
            | (go_at_call 18; refine (Tryd.Builder_WriteString_k (w.heap.size + 1) (w.heap.size + 1) _ st _ TX3.out.bld hbl (by omega)).mono ?_; rintro e w4 ⟨rfl, q1, q2, _⟩; have TX4 := hide (TX3.out.wrote q2 q1 hbe.out); clear q1 q2))
          go_roundw
          case rel => exact ⟨j + 1, _, by go_num, by omega, TX4.out, hjl, HA2, HM2⟩
          case measure => simp [intOf]; omega
        · have HA2 : Hid (((acc ++ [32]) ++ Lx.saidT x) ++ textP (decide (j + 1 = 0)) (l.drop (j + 1)) = textP true l) := by
            have h := HA.out
            rw [hdr, textP] at h
            show _ = _
            rw [← h]; simp [h0]
          have hjl : ((acc ++ [32]) ++ Lx.saidT x).length ≤ 201 * (j + 1) := by rw [List.length_append, List.length_append]; simp only [List.length_cons, List.length_nil]; omega
          have hbl0 : (Lib.byteCells acc).length + 1 ≤ 140737488355328 := by rw [Lib.byteCells_length]; omega
          have hbe0 : Hid (Lib.byteCells acc ++ [.int .u8 32] = Lib.byteCells (acc ++ [32])) := by show _ = _; rw [Lib.byteCells_append]; rfl
          have hbl : (Lib.byteCells (acc ++ [32])).length + st.size ≤ 140737488355328 := by rw [Lib.byteCells_length, List.length_append]; simp only [List.length_cons, List.length_nil]; omega
          have hbe : Hid (Lib.byteCells (acc ++ [32]) ++ Lib.strCells st = Lib.byteCells ((acc ++ [32]) ++ Lx.saidT x)) := by show _ = _; rw [hsc.out]; simp only [Lib.byteCells_append]
          have h0i : (j : Int) > 0 := by omega
          clear hm HA HM HX hdr hst hsc hsl hal h0
          go_wp2_with (first
            | (go_at_call 16; refine (TO.out _ hT1.out).mono ?_; rintro e w3 ⟨rfl, hz⟩; have TX3 := hide (TX1.out.later hz); have hl3 := TX3.out.lt; clear hz)
            | (go_at_call 17; refine (Tryd.Builder_WriteByte_k (w.heap.size + 1) (w.heap.size + 1) _ 32 _ TX3.out.bld hbl0 (by omega)).mono ?_; rintro e w5 ⟨rfl, q1, q2, _⟩; have TX5 := hide (TX3.out.wrote q2 q1 hbe0.out); have hl5 := TX5.out.lt; clear q1 q2)
            | (go_at_call 18; refine (Tryd.Builder_WriteString_k (w.heap.size + 1) (w.heap.size + 1) _ st _ TX5.out.bld hbl (by omega)).mono ?_; rintro e w4 ⟨rfl, q1, q2, _⟩; have TX4 := hide (TX5.out.wrote q2 q1 hbe.out); clear q1 q2))
          go_roundw
          case rel => exact ⟨j + 1, _, by go_num, by omega, TX4.out, hjl, HA2, HM2⟩
          case measure => simp [intOf]; omega
    · have hje : j = l.length := by omega
      have hok : Lx.badAt l = none := (Lx.bad_none l).2 (by have := HM.out; rw [hje, List.take_length] at this; exact this)
      have hacc : acc = Lx.textL l := by
        have h := HA.out
        rw [hje, List.drop_length, textP_is] at h
        simpa [textP] using h
      have HR : Hid (S = ⟨acc.toArray⟩ ∧ E = 0 ∧ I = 0) := ⟨by rw [HS.out.1, (text_ok hok).1, hacc], HS.out.2.1.trans (text_ok hok).2.1, HS.out.2.2.trans (text_ok hok).2.2⟩
      have hlti : ¬ (j : Int) < l.length := by omega
      have TXH := hide TX
      have hl0 := TX.lt
      clear hje hok hacc HA HM HS HF HWF TX hlt
      go_wp2_with (go_at_call 19; refine (Tryd.Builder_String_any_k (w.heap.size + 1) (w.heap.size + 1) acc _ TXH.out.bld (by omega)).mono ?_; rintro e w4 ⟨rfl, q1, q2, _⟩; have r4 := (q2.block _ (by omega)).trans TXH.out.res; obtain ⟨z0, z1, f0, f1, hl2⟩ := slot2 r4; have bel4 := TXH.out.bel.trans (q2.mono (by omega)); clear q1 q2; have s0 : w4.setCell ⟨w.heap.size, 0, none⟩ (.int .i64 0) = w4 := setCell_id r4 rfl; have s1 : w4.setCell ⟨w.heap.size, 1, none⟩ (.int .i64 0) = w4 := setCell_id r4 rfl; clear r4)
      exact bodyPost_ret (v := .tuple #[.string ⟨acc.toArray⟩, .agg #[.int .i64 0, .int .i64 0]]) (by simp [results, Tryd.results7, go_sem, z0, z1]; try rfl) rfl ⟨by rw [HR.out.1, HR.out.2.1, HR.out.2.2], bel4⟩
end Go.Proofs.YtjddhakaebkkeaaDoor
