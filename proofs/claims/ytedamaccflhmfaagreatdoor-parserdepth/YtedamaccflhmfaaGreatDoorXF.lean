/-
  Package lexer: Text of any tokens. .. and what follows from it.
-/
import Derived.Test.YtedamaccflhmfaaGreatDoorXL
namespace Go.Proofs.YtedamaccflhmfaaGreatDoor
open Go.RowKit
attribute [local go_sem ↓] Go.wp_at_zero Go.wp_at_succ

/-- Where tokens lie. -/
def TksAt (w : World) (b off : Nat) (l : List Lx.Tk) : Prop := ∀ j (h : j < l.length),
  w.cell? ⟨b, off + j * 4, none⟩ = some (.int .u8 (l[j]).k) ∧ w.cell? ⟨b, off + j * 4 + 1, none⟩ = some (.string ⟨(l[j]).t.toArray⟩) ∧ w.cell? ⟨b, off + j * 4 + 2, none⟩ = some (.int .u64 (l[j]).n) ∧ w.cell? ⟨b, off + j * 4 + 3, none⟩ = some (.int .i64 (l[j]).at')
theorem TksAt.later {w w' : World} {b off : Nat} {l : List Lx.Tk} (h : TksAt w b off l) (hb : Below w.heap.size w w') : TksAt w' b off l := fun j hj =>
  ⟨(hb.cell (World.block_lt_of_cell? w _ (h j hj).1)).trans (h j hj).1, (hb.cell (World.block_lt_of_cell? w _ (h j hj).2.1)).trans (h j hj).2.1, (hb.cell (World.block_lt_of_cell? w _ (h j hj).2.2.1)).trans (h j hj).2.2.1, (hb.cell (World.block_lt_of_cell? w _ (h j hj).2.2.2)).trans (h j hj).2.2.2⟩
/-- A slice whose tokens are l. -/
structure TksIn (w : World) (v : Value) (l : List Lx.Tk) : Prop where
  form : ∃ a cap, v = .slice a l.length cap ∧ (a = none → cap = 0) ∧ (l ≠ [] → ∃ b off, a = some ⟨b, off, none⟩ ∧ TksAt w b off l)
  wf : ∀ x ∈ l, Twf x
theorem TksIn.later {w w' : World} {v : Value} {l : List Lx.Tk} (h : TksIn w v l) (hb : Below w.heap.size w w') : TksIn w' v l := by
  obtain ⟨⟨a, cap, e, ho, hf⟩, hw⟩ := h
  exact ⟨⟨a, cap, e, ho, fun hn => by obtain ⟨b, off, e2, ht⟩ := hf hn; exact ⟨b, off, e2, ht.later hb⟩⟩, hw⟩

theorem builderAt_later {T e : TypeId} {B b : Nat} {q : Value} {bs : List Value} {W W' : World} (h : Lib.BuilderAtF T e B b q bs W) (hb : Below W.heap.size W W') : Lib.BuilderAtF T e B b q bs W' := by
  have hl := h.lt
  obtain ⟨hB, v, hv, own, hne⟩ := h
  exact ⟨hB, v, (hb.block b hl).trans hv, own.kept (row := none) ⟨hb.os, hb.tape, hb.output, hb.size, fun k hk _ => hb.block k hk⟩ (Classical.em _), hne⟩
theorem builder_later {T e : TypeId} {B b : Nat} {bs : List Value} {W W' : World} (h : Lib.IsBuilderF T e B b bs W) (hb : Below W.heap.size W W') : Lib.IsBuilderF T e B b bs W' :=
  h.elim (fun x => .inl (builderAt_later x hb)) (fun x => .inr (builderAt_later x hb))

/-! ### Plain -/
def textP : Bool → List Lx.Tk → List UInt8
  | _, [] => []
  | f, x :: r => (if f then [] else [32]) ++ (Lx.saidT x ++ textP false r)
theorem textP_is : ∀ l : List Lx.Tk, textP true l = Lx.textL l
  | [] => rfl
  | [x] => by simp [textP, Lx.textL]
  | x :: y :: r => by
    have ih := textP_is (y :: r)
    have e : textP false (y :: r) = 32 :: textP true (y :: r) := by simp [textP]
    rw [textP, e, ih, Lx.textL]; rfl
theorem said_len {x : Lx.Tk} (h : Lx.mayT x = true) : (Lx.saidT x).length ≤ 200 := by
  obtain ⟨k, t, n, a⟩ := x
  unfold Lx.mayT at h
  simp only [Bool.and_eq_true] at h
  obtain ⟨_, h⟩ := h
  unfold Lx.saidT
  simp only at h ⊢
  split at h
  · rename_i hk
    subst hk
    rw [if_neg (by decide), if_neg (by decide)]
    rw [Lx.isWd_is] at h
    simp only [Bool.and_eq_true, decide_eq_true_eq] at h
    omega
  · split at h
    · rename_i hk
      subst hk
      rw [if_pos rfl]
      simp only [Bool.and_eq_true, decide_eq_true_eq] at h
      rw [Lib.decDigits_length]
      by_cases h0 : n = 0
      · subst h0; rw [Lib.nDigits_small (by decide)]; decide
      · have := Lib.numDigits_eq n (by omega) (by omega)
        split at this <;> omega
    · split at h
      · rename_i hk
        subst hk
        rw [if_neg (by decide), if_pos rfl]
        simp only [Bool.and_eq_true, decide_eq_true_eq] at h
        have := tw_len t
        simp only [List.length_cons, List.length_append, List.length_nil]
        omega
      · split at h
        · rename_i hk
          subst hk
          rw [if_neg (by decide), if_neg (by decide)]
          have hl : t ∈ Lx.signs := by unfold Lx.isS at h; simpa using h
          unfold Lx.signs at hl
          simp only [List.mem_cons, List.not_mem_nil, or_false] at hl
          rcases hl with rfl | rfl | rfl | rfl | rfl | rfl | rfl | rfl | rfl | rfl | rfl | rfl | rfl | rfl | rfl | rfl | rfl <;> decide
        · cases h
theorem bad_drop : ∀ (l : List Lx.Tk) (j : Nat) (hj : j < l.length), (∀ x ∈ l.take j, Lx.mayT x = true) → Lx.mayT l[j] = false → Lx.badAt l = some j
  | x :: r, 0, _, _, h2 => by rw [Lx.badAt, if_neg (by simpa using h2)]
  | x :: r, j + 1, hj, h1, h2 => by
    have hx := h1 x (by simp)
    rw [Lx.badAt, if_pos hx, bad_drop r j (by simpa using hj) (fun y hy => h1 y (by simp [hy])) h2]; rfl
/-- What Text answers. -/
def textS (l : List Lx.Tk) : ByteArray := match Lx.badAt l with
  | none => ⟨(Lx.textL l).toArray⟩
  | some _ => ⟨#[]⟩
def textE (l : List Lx.Tk) : Int := match Lx.badAt l with
  | none => 0
  | some _ => 2
def textI (l : List Lx.Tk) : Int := match Lx.badAt l with
  | none => 0
  | some i => i
theorem text_no {l : List Lx.Tk} {i : Nat} (h : Lx.badAt l = some i) : textS l = ⟨#[]⟩ ∧ textE l = 2 ∧ textI l = i := by
  unfold textS textE textI; rw [h]; exact ⟨rfl, rfl, rfl⟩
theorem text_ok {l : List Lx.Tk} (h : Lx.badAt l = none) : textS l = ⟨(Lx.textL l).toArray⟩ ∧ textE l = 0 ∧ textI l = 0 := by
  unfold textS textE textI; rw [h]; exact ⟨rfl, rfl, rfl⟩

/-- Text on its way. -/
structure TxS (w0 wr : World) (acc : List UInt8) : Prop where
  bld : Lib.IsBuilderF 85 5 (w0.heap.size + 1) (w0.heap.size + 1) (Lib.byteCells acc) wr
  res : wr.heap[w0.heap.size]? = some (.cells #[.int .i64 0, .int .i64 0] 41 (0, 0))
  bel : Below w0.heap.size w0 wr
  lt : w0.heap.size + 1 < wr.heap.size
theorem TxS.later {w0 wr w' : World} {acc : List UInt8} (h : TxS w0 wr acc) (hb : Below wr.heap.size wr w') : TxS w0 w' acc :=
  ⟨builder_later h.bld hb, (hb.block _ (by have := h.lt; omega)).trans h.res, h.bel.trans (hb.mono (by have := h.lt; omega)), by have := h.lt; have := hb.size; omega⟩
theorem TxS.alloc {w0 wr : World} {acc : List UInt8} (h : TxS w0 wr acc) (o : Obj) : TxS w0 (wr.alloc o) acc :=
  h.later ((Below.refl _ _).alloc (Nat.le_refl _) _)
theorem TxS.wrote {w0 wr w' : World} {acc acc' : List UInt8} {bs : List Value} (h : TxS w0 wr acc) (hb : Below (w0.heap.size + 1) wr w') (hB : Lib.BuilderAtF 85 5 (w0.heap.size + 1) (w0.heap.size + 1) (.pointer (some ⟨w0.heap.size + 1, 0, none⟩)) bs w') (e : bs = Lib.byteCells acc') : TxS w0 w' acc' :=
  ⟨.inr (by rw [← e]; exact hB), (hb.block _ (by omega)).trans h.res, h.bel.trans (hb.mono (by omega)), by have := h.lt; have := hb.size; omega⟩

set_option maxRecDepth 100000 in
set_option maxHeartbeats 6400000 in
theorem text_any (w : World) (v : Value) (l : List Lx.Tk) (h : TksIn w v l) (hn : l.length ≤ 1000000) (hT : Tabs w) : Calls Tryz.prog 47 #[v] w fun e w' => e = .returned (.tuple #[.string (textS l), .agg #[.int .i64 (textE l), .int .i64 (textI l)]]) ∧ Below w.heap.size w w' := by
  obtain ⟨⟨a, cap, rfl, _, hf⟩, hwf⟩ := h
  obtain ⟨S, hS⟩ : ∃ S, S = textS l := ⟨_, rfl⟩
  obtain ⟨E, hE⟩ : ∃ E, E = textE l := ⟨_, rfl⟩
  obtain ⟨I, hI⟩ : ∃ I, I = textI l := ⟨_, rfl⟩
  rw [← hS, ← hE, ← hI]
  have HS : Hid (S = textS l ∧ E = textE l ∧ I = textI l) := ⟨hS, hE, hI⟩
  have HF := hide hf
  have HWF := hide hwf
  have TT := hide hT
  clear hf hwf hT hS hE hI
  go_enter Tryz.func47, Tryz.ntmps47
  go_wp2
  go_loopw [11] (fun i wr => ∃ (j : Nat) (acc : List UInt8), i = .int .i64 j ∧ j ≤ l.length ∧ TxS w wr acc ∧ acc.length ≤ 201 * j ∧ Hid (acc ++ textP (decide (j = 0)) (l.drop j) = textP true l) ∧ Hid (∀ x ∈ l.take j, Lx.mayT x = true)) (fun i _ => l.length - (intOf i).toNat)
  case atStart =>
    refine ⟨0, [], rfl, Nat.zero_le _, ⟨?_, ?_, ((Below.refl _ w).alloc (Nat.le_refl _) _).alloc (by simp) _, by simp⟩, by simp, rfl, by intro x hx; simp at hx⟩
    · have := Lib.IsBuilderF.of (Lib.fresh_isBuilder 85 5 (w.alloc (.cells #[.int .i64 0, .int .i64 0] 41)))
      rw [show Lib.byteCells [] = [] from rfl]
      simpa using this
    · rw [((Below.refl _ (w.alloc (.cells #[.int .i64 0, .int .i64 0] 41))).alloc (Nat.le_refl _) (.cells #[.pointer none, .slice none 0 0] 85)).block _ (by simp)]
      show (w.heap.push _)[w.heap.size]? = _
      simp
  case round =>
    obtain ⟨j, acc, rfl, hj, TX, hal, HA, HM⟩ := hrel
    by_cases hlt : j < l.length
    · obtain ⟨b, off, rfl, hv⟩ := HF.out (by intro e; rw [e] at hlt; simp at hlt)
      obtain ⟨c0, c1, c2, c3⟩ := (hv.later TX.bel) j hlt
      obtain ⟨x, hx⟩ : ∃ x, x = l[j] := ⟨_, rfl⟩
      have hxw := hide (HWF.out l[j] (List.getElem_mem _))
      rw [← hx] at c0 c1 c2 c3 hxw
      obtain ⟨xs, hxs⟩ : ∃ xs : ByteArray, xs = ⟨x.t.toArray⟩ := ⟨_, rfl⟩
      rw [← hxs] at c1
      have TO := hide (fun wx h => textOf_any wx x xs hxs hxw.out h)
      have HX := hide hx
      have TX1 := hide (TX.alloc (.cells #[.int .u8 x.k, .string xs, .int .u64 x.n, .int .i64 x.at'] 60))
      have hT1 := hide (TT.out.later TX1.out.bel)
      have hlti : (j : Int) < l.length := by omega
      clear hv hxs hx hxw TX
      cases hm : Lx.mayT x
      · rw [(said_no hm).1, (said_no hm).2] at TO
        have HB := bad_drop l j hlt HM.out (by rw [← HX.out]; exact hm)
        have HR : Hid (S = ⟨#[]⟩ ∧ E = 2 ∧ I = j) := ⟨HS.out.1.trans (text_no HB).1, HS.out.2.1.trans (text_no HB).2.1, HS.out.2.2.trans (text_no HB).2.2⟩
        clear hm HS HA HM HX HB HF HWF
        go_wp2_with (go_at_call 72; refine (TO.out _ hT1.out).mono ?_; rintro e w3 ⟨rfl, hz⟩; have TX3 := TX1.out.later hz; obtain ⟨z0, z1, f0, f1, hl2⟩ := slot2 TX3.res; have bel3 := TX3.bel; clear TX3)
        exact bodyPost_ret (v := .tuple #[.string ⟨#[]⟩, .agg #[.int .i64 2, .int .i64 j]]) (by simp [results, Tryz.results47, go_sem, z0, z1]; try rfl) rfl ⟨by rw [HR.out.1, HR.out.2.1, HR.out.2.2], by first | exact bel3 | exact below2 bel3 (Nat.le_refl _) _ _⟩
      · rw [(said_yes hm).1, (said_yes hm).2] at TO
        obtain ⟨st, hst⟩ : ∃ st : ByteArray, st = ⟨(Lx.saidT x).toArray⟩ := ⟨_, rfl⟩
        rw [← hst] at TO
        have hsl := said_len hm
        have hsz : st.size ≤ 200 := by rw [hst]; show (Lx.saidT x).toArray.size ≤ _; rw [List.size_toArray]; exact hsl
        have hsc : Hid (Lib.strCells st = Lib.byteCells (Lx.saidT x)) := by show _ = _; rw [hst]; rfl
        have hdr : l.drop j = x :: l.drop (j + 1) := by rw [List.drop_eq_getElem_cons hlt, ← HX.out]
        have HM2 : Hid (∀ y ∈ l.take (j + 1), Lx.mayT y = true) := by
          intro y hy
          rw [List.take_succ_eq_append_getElem hlt] at hy
          simp only [List.mem_append, List.mem_cons, List.not_mem_nil, or_false] at hy
          rcases hy with hy | rfl
          · exact HM.out y hy
          · rw [← HX.out]; exact hm
        by_cases h0 : j = 0
        · have HA2 : Hid ((acc ++ Lx.saidT x) ++ textP (decide (j + 1 = 0)) (l.drop (j + 1)) = textP true l) := by
            have h := HA.out
            rw [hdr, textP] at h
            show _ = _
            rw [← h]; simp [h0]
          have hjl : (acc ++ Lx.saidT x).length ≤ 201 * (j + 1) := by rw [List.length_append]; omega
          have hbl : (Lib.byteCells acc).length + st.size ≤ 140737488355328 := by rw [Lib.byteCells_length]; omega
          have hbe : Hid (Lib.byteCells acc ++ Lib.strCells st = Lib.byteCells (acc ++ Lx.saidT x)) := by show _ = _; rw [hsc.out, Lib.byteCells_append]
          have h0i : ¬ (j : Int) > 0 := by omega
          clear hm HA HM HX hdr hst hsc hsl hal h0
          go_wp2_with (first
            | (go_at_call 72; refine (TO.out _ hT1.out).mono ?_; rintro e w3 ⟨rfl, hz⟩; have TX3 := hide (TX1.out.later hz); have hl3 := TX3.out.lt; clear hz)
            | (go_at_call 30; refine (Tryz.Builder_WriteString_k (w.heap.size + 1) (w.heap.size + 1) _ st _ TX3.out.bld hbl (by omega)).mono ?_; rintro e w4 ⟨rfl, q1, q2, _⟩; have TX4 := hide (TX3.out.wrote q2 q1 hbe.out); clear q1 q2))
          go_roundw
          case rel => exact ⟨j + 1, _, by go_num, by omega, TX4.out, hjl, HA2, HM2⟩
          case measure => simp [intOf]; omega
        · have HA2 : Hid (((acc ++ [32]) ++ Lx.saidT x) ++ textP (decide (j + 1 = 0)) (l.drop (j + 1)) = textP true l) := by
            have h := HA.out
            rw [hdr, textP] at h
            show _ = _
            rw [← h]; simp [h0]
          have hjl : ((acc ++ [32]) ++ Lx.saidT x).length ≤ 201 * (j + 1) := by rw [List.length_append, List.length_append]; simp only [List.length_cons, List.length_nil]; omega
          have hbl0 : (Lib.byteCells acc).length + 1 ≤ 140737488355328 := by rw [Lib.byteCells_length]; omega
          have hbe0 : Hid (Lib.byteCells acc ++ [.int .u8 32] = Lib.byteCells (acc ++ [32])) := by show _ = _; rw [Lib.byteCells_append]; rfl
          have hbl : (Lib.byteCells (acc ++ [32])).length + st.size ≤ 140737488355328 := by rw [Lib.byteCells_length, List.length_append]; simp only [List.length_cons, List.length_nil]; omega
          have hbe : Hid (Lib.byteCells (acc ++ [32]) ++ Lib.strCells st = Lib.byteCells ((acc ++ [32]) ++ Lx.saidT x)) := by show _ = _; rw [hsc.out]; simp only [Lib.byteCells_append]
          have h0i : (j : Int) > 0 := by omega
          clear hm HA HM HX hdr hst hsc hsl hal h0
          go_wp2_with (first
            | (go_at_call 72; refine (TO.out _ hT1.out).mono ?_; rintro e w3 ⟨rfl, hz⟩; have TX3 := hide (TX1.out.later hz); have hl3 := TX3.out.lt; clear hz)
            | (go_at_call 31; refine (Tryz.Builder_WriteByte_k (w.heap.size + 1) (w.heap.size + 1) _ 32 _ TX3.out.bld hbl0 (by omega)).mono ?_; rintro e w5 ⟨rfl, q1, q2, _⟩; have TX5 := hide (TX3.out.wrote q2 q1 hbe0.out); have hl5 := TX5.out.lt; clear q1 q2)
            | (go_at_call 30; refine (Tryz.Builder_WriteString_k (w.heap.size + 1) (w.heap.size + 1) _ st _ TX5.out.bld hbl (by omega)).mono ?_; rintro e w4 ⟨rfl, q1, q2, _⟩; have TX4 := hide (TX5.out.wrote q2 q1 hbe.out); clear q1 q2))
          go_roundw
          case rel => exact ⟨j + 1, _, by go_num, by omega, TX4.out, hjl, HA2, HM2⟩
          case measure => simp [intOf]; omega
    · have hje : j = l.length := by omega
      have hok : Lx.badAt l = none := (Lx.bad_none l).2 (by have := HM.out; rw [hje, List.take_length] at this; exact this)
      have hacc : acc = Lx.textL l := by
        have h := HA.out
        rw [hje, List.drop_length, textP_is] at h
        simpa [textP] using h
      have HR : Hid (S = ⟨acc.toArray⟩ ∧ E = 0 ∧ I = 0) := ⟨by rw [HS.out.1, (text_ok hok).1, hacc], HS.out.2.1.trans (text_ok hok).2.1, HS.out.2.2.trans (text_ok hok).2.2⟩
      have hlti : ¬ (j : Int) < l.length := by omega
      have TXH := hide TX
      have hl0 := TX.lt
      clear hje hok hacc HA HM HS HF HWF TX hlt
      go_wp2_with (go_at_call 32; refine (Tryz.Builder_String_any_k (w.heap.size + 1) (w.heap.size + 1) acc _ TXH.out.bld (by omega)).mono ?_; rintro e w4 ⟨rfl, q1, q2, _⟩; have r4 := (q2.block _ (by omega)).trans TXH.out.res; obtain ⟨z0, z1, f0, f1, hl2⟩ := slot2 r4; have bel4 := TXH.out.bel.trans (q2.mono (by omega)); clear q1 q2; have s0 : w4.setCell ⟨w.heap.size, 0, none⟩ (.int .i64 0) = w4 := setCell_id r4 rfl; have s1 : w4.setCell ⟨w.heap.size, 1, none⟩ (.int .i64 0) = w4 := setCell_id r4 rfl; clear r4)
      exact bodyPost_ret (v := .tuple #[.string ⟨acc.toArray⟩, .agg #[.int .i64 0, .int .i64 0]]) (by simp [results, Tryz.results47, go_sem, z0, z1]; try rfl) rfl ⟨by rw [HR.out.1, HR.out.2.1, HR.out.2.2], bel4⟩
end Go.Proofs.YtedamaccflhmfaaGreatDoor
namespace Go.Proofs.YtedamaccflhmfaaGreatDoor
open Go.RowKit
attribute [local go_sem ↓] Go.wp_at_zero Go.wp_at_succ

/-! ### What tokens that are read are like -/
theorem tkcs_get : ∀ (l : List Lx.Tk) (j : Nat) (hj : j < l.length), (tkcs l)[j * 4]? = some (.int .u8 (l[j]).k) ∧ (tkcs l)[j * 4 + 1]? = some (.string ⟨(l[j]).t.toArray⟩) ∧ (tkcs l)[j * 4 + 2]? = some (.int .u64 (l[j]).n) ∧ (tkcs l)[j * 4 + 3]? = some (.int .i64 (l[j]).at')
  | x :: r, 0, _ => ⟨rfl, rfl, rfl, rfl⟩
  | x :: r, j + 1, hj => by
    have ih := tkcs_get r j (by simpa using hj)
    have e : ∀ i, (tkcs (x :: r))[(j + 1) * 4 + i]? = (tkcs r)[j * 4 + i]? := fun i => by
      show (tkc x ++ tkcs r)[(j + 1) * 4 + i]? = _
      rw [List.getElem?_append_right (by show 4 ≤ _; omega)]
      congr 1
      show (j + 1) * 4 + i - 4 = _
      omega
    have e0 := e 0
    rw [Nat.add_zero, Nat.add_zero] at e0
    rw [e0, e 1, e 2, e 3]
    exact ih
theorem TksAt.own {w : World} {base : Nat} {g cap : Nat} {l : List Lx.Tk} (h : w.ownsRow base 60 4 (.slice (some ⟨g, 0, none⟩) l.length cap) l.length (tkcs l)) : TksAt w g 0 l := fun j hj => by
  obtain ⟨e0, e1, e2, e3⟩ := tkcs_get l j hj
  rw [Nat.zero_add, h.cellAt (j * 4) (by omega), h.cellAt (j * 4 + 1) (by omega), h.cellAt (j * 4 + 2) (by omega), h.cellAt (j * 4 + 3) (by omega)]
  exact ⟨e0, e1, e2, e3⟩
theorem TksIn.own {w : World} {base : Nat} {v : Value} {l : List Lx.Tk} (h : w.ownsRow base 60 4 v l.length (tkcs l)) (hw : ∀ x ∈ l, Twf x) : TksIn w v l := by
  rcases h.2 with ⟨rfl, h0⟩ | ⟨g, cap, cur, rfl, _⟩
  · have : l = [] := List.eq_nil_of_length_eq_zero h0
    subst this
    exact ⟨⟨none, 0, rfl, fun _ => rfl, fun h => absurd rfl h⟩, hw⟩
  · exact ⟨⟨_, cap, rfl, (fun e => by cases e), fun _ => ⟨g, 0, rfl, TksAt.own h⟩⟩, hw⟩
theorem may_wf {x : Lx.Tk} (h : Lx.mayT (Lx.unp x) = true) (a0 : 0 ≤ x.at') (a1 : x.at' ≤ 65536) : Twf x := by
  obtain ⟨k, t, n, a⟩ := x
  unfold Lx.mayT Lx.unp at h
  simp only [Bool.and_eq_true, beq_iff_eq, Bool.or_eq_true] at h
  obtain ⟨⟨_, hn⟩, h⟩ := h
  simp only at hn a0 a1
  have hml : (64 : Nat) ≤ maxLen := by unfold maxLen; omega
  split at h
  · rename_i hk
    subst hk
    rw [Lx.isWd_is] at h
    simp only [Bool.and_eq_true, decide_eq_true_eq] at h
    exact ⟨by simp, by simp, by simp only; omega, by simp only; omega, by simp only; omega, by simp only; omega⟩
  · split at h
    · rename_i hk
      subst hk
      simp only [Bool.and_eq_true, decide_eq_true_eq, List.isEmpty_iff] at h
      obtain ⟨rfl, h⟩ := h
      exact ⟨by simp, by simp, by simp only; omega, by simp only; omega, by simp only; omega, by simp⟩
    · split at h
      · rename_i hk
        subst hk
        simp only [Bool.and_eq_true, decide_eq_true_eq] at h
        exact ⟨by simp, by simp, by simp only; omega, by simp only; omega, by simp only; omega, by simp only; omega⟩
      · split at h
        · rename_i hk
          subst hk
          have hl : t ∈ Lx.signs := by unfold Lx.isS at h; simpa using h
          have h2 : t.length ≤ 64 := by
            unfold Lx.signs at hl
            simp only [List.mem_cons, List.not_mem_nil, or_false] at hl
            rcases hl with rfl | rfl | rfl | rfl | rfl | rfl | rfl | rfl | rfl | rfl | rfl | rfl | rfl | rfl | rfl | rfl | rfl <;> decide
          exact ⟨by simp, by simp, by simp only; omega, by simp only; omega, by simp only; omega, by simp only; omega⟩
        · cases h
theorem gs_wf (l : List UInt8) (hl : l.length ≤ 65536) : ∀ (q : List Lx.Tk) (p : Nat), Lx.Gs l q p → (∀ x ∈ q, Twf x ∧ Lx.mayT (Lx.unp x) = true) ∧ q.length ≤ l.length - p
  | [], p, _ => ⟨by simp, by simp⟩
  | x :: r, p, h => by
    unfold Lx.Gs at h
    obtain ⟨s, n, hs, hx, _, hn, hz, hg⟩ := h
    have hm := Lx.next_may hn
    have hw := Lx.next_width hn
    obtain ⟨ih, ihl⟩ := gs_wf l hl r (s + n) hg
    refine ⟨fun y hy => ?_, by simp only [List.length_cons]; omega⟩
    simp only [List.mem_cons] at hy
    rcases hy with rfl | hy
    · exact ⟨may_wf hm (by rw [hx]; omega) (by rw [hx]; omega), hm⟩
    · exact ih y hy
theorem lex_gs {l : List UInt8} {q : List Lx.Tk} (h : Lx.lexA l 0 = .ok q) : Lx.Gs l q 0 :=
  Lx.gs_of l l.length 0 q (by omega) (Nat.zero_le _) (by rw [List.drop_zero]; exact h)

/-! ### The same tokens -/
theorem tks_cells {w : World} {b off : Nat} {l : List Lx.Tk} (h : TksAt w b off l) : ∀ j u, (tkcs l)[j]? = some u → w.cell? ((⟨b, off, none⟩ : Addr).add j) = some u := by
  intro j u hu
  have hj : j < (tkcs l).length := (List.getElem?_eq_some_iff.1 hu).1
  rw [tkcs_len] at hj
  have hadd : (⟨b, off, none⟩ : Addr).add j = ⟨b, off + j, none⟩ := by unfold Addr.add; split <;> simp_all
  rw [hadd]
  have hq : j / 4 < l.length := by omega
  obtain ⟨e0, e1, e2, e3⟩ := tkcs_get l (j / 4) hq
  obtain ⟨c0, c1, c2, c3⟩ := h (j / 4) hq
  have hr : j % 4 < 4 := Nat.mod_lt _ (by decide)
  have hd : j = j / 4 * 4 + j % 4 := by omega
  generalize j / 4 = q at *
  generalize j % 4 = r at *
  subst hd
  rw [← hu]
  match r, hr with
  | 0, _ => rw [Nat.add_zero, c0, e0]
  | 1, _ => rw [← Nat.add_assoc, c1, e1]
  | 2, _ => rw [← Nat.add_assoc, c2, e2]
  | 3, _ => rw [← Nat.add_assoc, c3, e3]
theorem tkcs_append (a b : List Lx.Tk) : tkcs (a ++ b) = tkcs a ++ tkcs b := by simp [tkcs]
theorem tkcs_one (l : List Lx.Tk) : ∀ u ∈ tkcs l, u.oneCell' = true := by
  intro u hu
  obtain ⟨x, _, hx⟩ := List.mem_flatMap.1 hu
  exact tkc_one x u hx
theorem wpList_app_tks (w : World) {ops : Array Oper} {rest : List Oper} {o : Oper} {a : Act} {Q : Exit → Act → World → Prop} (hg : o.guard = none) (s x : Operand)
    (hop : o.op = .call { callee := .builtin .append, args := #[s, x], argTypes := #[54, 54] })
    (base g cap : Nat) (A B : List Lx.Tk) (n k c : Nat) (hn : n = A.length) (hk : k = B.length) (hs : a.eval s = .slice (some ⟨g, 0, none⟩) n cap) (hown : w.ownsRow base 60 4 (.slice (some ⟨g, 0, none⟩) n cap) n (tkcs A))
    (ao : Option Addr) (hx : a.eval x = .slice ao k c) (hin : B ≠ [] → ∃ b off, ao = some ⟨b, off, none⟩ ∧ TksAt w b off B) (hno : ao = none → c = 0) (hroom : n + k ≤ 1000000) (hbase : base ≤ w.heap.size)
    (h : ∀ g' cap' w', w'.ownsRow base 60 4 (.slice (some ⟨g', 0, none⟩) (n + k) cap') (n + k) (tkcs (A ++ B)) → w.grownBy w' (some g) → wpList Tryz.prog ops Q rest (a.put o.dst (.slice (some ⟨g', 0, none⟩) (n + k) cap')) w') :
    wpList Tryz.prog ops Q (o :: rest) a w := by
  obtain ⟨i0, hi, hz0, hz1, hz2⟩ := info_parts info_tk
  by_cases hb0 : B = []
  · subst hb0
    subst hk
    have hnc : n ≤ cap := by
      rcases hown.2 with ⟨e, _⟩ | ⟨g', cap', cur, e, _, _, hnc, _⟩
      · cases e
      · simp only [Value.slice.injEq] at e; omega
    refine wpList_append_fits_any w hg s x 54 hop base 60 i0 4 Tryz.underlying54 hi hz1 g n cap (tkcs A) hs hown ao 0 c [] hx rfl (fun e => ⟨rfl, hno e⟩) (fun ad _ j u hj => by simp at hj) (by simp) (by omega) ?_
    intro w' h1 h2
    refine h g cap w' ?_ h2
    rw [tkcs_append]
    exact h1
  · obtain ⟨b, off, rfl, ht⟩ := hin hb0
    refine wpList_append_lies w hg s x 54 hop base 60 i0 _ 4 40 Tryz.underlying54 hi hz0 hz1 hz2 rfl (by decide) _ n (tkcs A) hs hown _ k c (tkcs B) hx (by rw [tkcs_len, hk]) (fun j u hu => tks_cells ht j u hu) (tkcs_one B) (by rw [hk]; exact List.length_pos_iff.2 hb0) (by unfold maxLen; omega) (by omega) hbase w.heap.size rfl ?_
    intro g' cap' w' h1 h2 _ _
    refine h g' cap' w' ?_ h2
    rw [tkcs_append]
    exact h1
theorem map_set (l : List Lx.Tk) (j : Nat) (hj : j < l.length) : ((tkcs ((l.take j).map Lx.unp ++ l.drop j)).set (j * 4 + 3) (.int .i64 0)) = tkcs ((l.take (j + 1)).map Lx.unp ++ l.drop (j + 1)) := by
  have hd : l.drop j = l[j] :: l.drop (j + 1) := List.drop_eq_getElem_cons hj
  have ht : l.take (j + 1) = l.take j ++ [l[j]] := List.take_succ_eq_append_getElem hj
  rw [hd, ht, List.map_append, tkcs_append, tkcs_append, tkcs_append]
  have hlen : (tkcs ((l.take j).map Lx.unp)).length = j * 4 := by rw [tkcs_len, List.length_map, List.length_take]; omega
  rw [List.set_append_right _ _ (by omega), hlen, show j * 4 + 3 - j * 4 = 3 from by omega, List.append_assoc]
  rfl

end Go.Proofs.YtedamaccflhmfaaGreatDoor
namespace Go.Proofs.YtedamaccflhmfaaGreatDoor
open Go.RowKit
attribute [local go_sem ↓] Go.wp_at_zero Go.wp_at_succ

theorem tks_lit (w : World) (l : List Lx.Tk) (cs : Array Value) (hc : cs = (tkcs l).toArray) {B : Nat} (hB : B = w.heap.size) : TksAt (w.alloc (.cells cs 60)) B 0 l := by
  subst hB hc
  intro j hj
  obtain ⟨e0, e1, e2, e3⟩ := tkcs_get l j hj
  have h := heap_alloc_new w (.cells (tkcs l).toArray 60)
  have c : ∀ i, (w.alloc (.cells (tkcs l).toArray 60)).cell? ⟨w.heap.size, i, none⟩ = (tkcs l)[i]? := fun i => by
    rw [Joins.cell_of_block h i]; simp
  rw [Nat.zero_add, c, c, c, c]
  exact ⟨e0, e1, e2, e3⟩

/-- What Lex answers where a text has tokens. -/
theorem lex_ok (w : World) (s : ByteArray) (q : List Lx.Tk) (hs : s.size ≤ 65536) (hT : Tab2 w) (hq : Lx.lexA s.data.toList 0 = .ok q) : Calls Tryz.prog 15 #[.string s] w fun e w' => ∃ v, e = .returned (.tuple #[v, .agg #[.int .i64 0, .int .i64 0]]) ∧ TksIn w' v q ∧ Below w.heap.size w w' := by
  refine (lex_any w s hs hT).mono ?_
  rintro e w' ⟨v, hv, hb⟩
  unfold lexV at hv
  rw [hq] at hv
  exact ⟨v, hv.1, TksIn.own hv.2 (fun x hx => ((gs_wf s.data.toList (by rw [l_size]; exact hs) q 0 (lex_gs hq)).1 x hx).1), hb⟩
theorem own_room {w : World} {base : Nat} {v : Value} {l : List Lx.Tk} (h : w.ownsRow base 60 4 v l.length (tkcs l)) : ∃ a cap, v = .slice a l.length cap ∧ l.length ≤ cap := by
  rcases h.2 with ⟨rfl, h0⟩ | ⟨g, cap, cur, rfl, _, _, hnc, _⟩
  · exact ⟨none, 0, by rw [h0], by omega⟩
  · exact ⟨_, cap, rfl, hnc⟩
theorem lex_room (w : World) (s : ByteArray) (q : List Lx.Tk) (hs : s.size ≤ 65536) (hT : Tab2 w) (hq : Lx.lexA s.data.toList 0 = .ok q) : Calls Tryz.prog 15 #[.string s] w fun e w' => ∃ v, e = .returned (.tuple #[v, .agg #[.int .i64 0, .int .i64 0]]) ∧ TksIn w' v q ∧ (∃ a cap, v = .slice a q.length cap ∧ q.length ≤ cap) ∧ Below w.heap.size w w' := by
  refine (lex_any w s hs hT).mono ?_
  rintro e w' ⟨v, hv, hb⟩
  unfold lexV at hv
  rw [hq] at hv
  exact ⟨v, hv.1, TksIn.own hv.2 (fun x hx => ((gs_wf s.data.toList (by rw [l_size]; exact hs) q 0 (lex_gs hq)).1 x hx).1), own_room hv.2, hb⟩
theorem lex_bad (w : World) (s : ByteArray) (x : Int) (p : Nat) (hs : s.size ≤ 65536) (hT : Tab2 w) (hq : Lx.lexA s.data.toList 0 = .error (x, p)) : Calls Tryz.prog 15 #[.string s] w fun e w' => e = .returned (.tuple #[.slice none 0 0, .agg #[.int .i64 x, .int .i64 p]]) ∧ Below w.heap.size w w' := by
  refine (lex_any w s hs hT).mono ?_
  rintro e w' ⟨v, hv, hb⟩
  unfold lexV at hv
  rw [hq] at hv
  exact ⟨hv, hb⟩

def liveS : ByteArray := ⟨#[83, 69, 76, 69, 67, 84, 32, 97, 49, 44, 39, 105, 116, 39, 39, 115, 39]⟩
def liveQ : List Lx.Tk := [⟨1, [115, 101, 108, 101, 99, 116], 0, 0⟩, ⟨1, [97, 49], 0, 7⟩, ⟨4, [44], 0, 9⟩, ⟨3, [105, 116, 39, 115], 0, 10⟩]
theorem live_lex : Lx.lexA liveS.data.toList 0 = .ok liveQ := by kernel_rfl
theorem live_cells : #[.int .u8 1, .string ⟨#[115, 101, 108, 101, 99, 116]⟩, .int .u64 0, .int .i64 0, .int .u8 1, .string ⟨#[97, 49]⟩, .int .u64 0, .int .i64 7, .int .u8 4, .string ⟨#[44]⟩, .int .u64 0, .int .i64 9, .int .u8 3, .string ⟨#[105, 116, 39, 115]⟩, .int .u64 0, .int .i64 10] = (tkcs liveQ).toArray := rfl
theorem live_wf : ∀ x ∈ liveQ, Twf x := by
  intro x hx
  exact ((gs_wf liveS.data.toList (by decide) liveQ 0 (lex_gs live_lex)).1 x hx).1

end Go.Proofs.YtedamaccflhmfaaGreatDoor
