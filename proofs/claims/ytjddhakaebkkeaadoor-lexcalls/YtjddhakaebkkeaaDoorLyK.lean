/-
  Package stagepostref13: Text of any tokens.
-/
import Derived.Test.YtjddhakaebkkeaaDoorLyJ
import Derived.Lib.AppendStr
namespace Go.Proofs.YtjddhakaebkkeaaDoor
open Go.RowKit
attribute [local go_sem ↓] Go.wp_at_zero Go.wp_at_succ

/-- A text put behind bytes that the call owns. -/
theorem wpList_str (w : World) {ops : Array Oper} {rest : List Oper} {o : Oper} {a : Act} {Q : Exit → Act → World → Prop} (hg : o.guard = none) (sl x : Operand)
    (hop : o.op = .call { callee := .builtin .append, args := #[sl, x], argTypes := #[44, 9] })
    (base : Nat) (w0 : World) (v : Value) (l : List UInt8) (hs : a.eval sl = v) (hown : Bys base w0 w v l)
    (s : ByteArray) (m : List UInt8) (hm : s = ⟨m.toArray⟩) (hx : a.eval x = .string s) (hroom : l.length + m.length ≤ 140737488355328)
    (h : ∀ v' w', Bys base w0 w' v' (l ++ m) → wpList Tryd.prog ops Q rest (a.put o.dst v') w') :
    wpList Tryd.prog ops Q (o :: rest) a w := by
  obtain ⟨i0, hi, hz0, hz1, hz2⟩ := info_parts byteInfo
  have hsz : s.size = m.length := by rw [hm]; show m.toArray.size = _; simp
  refine Lib.wpList_append_own_string w hg sl x 44 9 hop base 5 i0 Tryd.underlying44 Tryd.underlying9 hi hz0 hz1 hz2 v l.length (Lib.byteCells l) hs hown.own s hx (by unfold maxLen; omega) (by omega) hown.low ?_
  intro v' w' o1 g1 _
  refine h v' w' (hown.grown (n := l.length + s.size) (by rw [List.length_append, hsz]) ?_ g1)
  rw [Lib.byteCells_append, show Lib.byteCells m = Lib.strCells s from by rw [hm]; rfl]
  exact o1
theorem mid_any {w w2 : World} {cs : Array Value} {t : TypeId} (hb : Below (w.heap.size + 1) (w.alloc (.cells cs t)) w2) : w2.heap[w.heap.size]? = some (.cells cs t (0, 0)) ∧ Below w.heap.size w w2 := by
  refine ⟨(hb.block _ (by simp)).trans ?_, ((Below.refl _ w).alloc (Nat.le_refl _) _).trans (hb.mono (by simp))⟩
  show (w.heap.push _)[w.heap.size]? = _
  simp

set_option maxRecDepth 20000 in
set_option maxHeartbeats 6400000 in
theorem rtext_any (w : World) (v : Value) (l : List Lx.Tk) (h : TksIn w v l) (hn : l.length ≤ 1000) (hl : ∀ x ∈ l, x.t.length ≤ 10000) (hT : Tab2 w) : Calls Tryd.prog 8 #[v] w fun e w' => e = .returned (.tuple #[.string (textS l), .agg #[.int .i64 (textE l), .int .i64 (textI l)]]) ∧ Below w.heap.size w w' := by
  obtain ⟨⟨a, cap, rfl, _, hf⟩, hwf⟩ := h
  obtain ⟨S, hS⟩ : ∃ S, S = textS l := ⟨_, rfl⟩
  obtain ⟨E, hE⟩ : ∃ E, E = textE l := ⟨_, rfl⟩
  obtain ⟨I, hI⟩ : ∃ I, I = textI l := ⟨_, rfl⟩
  rw [← hS, ← hE, ← hI]
  have HS : Hid (S = textS l ∧ E = textE l ∧ I = textI l) := ⟨hS, hE, hI⟩
  have HF := hide hf
  have HWF := hide hwf
  have HLL := hide hl
  have TT := hide hT
  clear hf hwf hT hS hE hI hl
  go_enter Tryd.func8, Tryd.ntmps8
  go_wp2
  go_loopw [4] (fun i wr => ∃ (j : Nat), i = .int .i64 j ∧ j ≤ l.length ∧ Hid (Below (w.heap.size + 1) (w.alloc (.cells #[.int .i64 0, .int .i64 0] 30)) wr) ∧ w.heap.size + 1 ≤ wr.heap.size ∧ Hid (∀ x ∈ l.take j, Lx.mayT x = true)) (fun i _ => l.length - (intOf i).toNat)
  case atStart => exact ⟨0, rfl, Nat.zero_le _, hide (Below.refl _ _), by simp, hide (by intro x hx; simp at hx)⟩
  case round =>
    obtain ⟨j, rfl, hj, HB, hsz, HM⟩ := hrel
    obtain ⟨pz, bb⟩ := mid_any HB.out
    by_cases hlt : j < l.length
    · obtain ⟨b, off, rfl, hv⟩ := HF.out (by intro e; rw [e] at hlt; simp at hlt)
      obtain ⟨c0, c1, c2, c3⟩ := (hv.later bb) j hlt
      obtain ⟨x, hx⟩ : ∃ x, x = l[j] := ⟨_, rfl⟩
      have hxw := HWF.out l[j] (List.getElem_mem _)
      have hxl := HLL.out l[j] (List.getElem_mem _)
      rw [← hx] at c0 c1 c2 c3 hxw hxl
      obtain ⟨xs, hxs⟩ : ∃ xs : ByteArray, xs = ⟨x.t.toArray⟩ := ⟨_, rfl⟩
      rw [← hxs] at c1
      have MA := hide (fun wx h => rmay_any wx x xs hxs hxw hxl h)
      have HX := hide hx
      have hT1 := hide (TT.out.later bb)
      have hlti : (j : Int) < l.length := by omega
      clear hv hxs hx hxw hxl
      cases hm : Lx.mayT x
      · rw [hm] at MA
        have HBA := bad_drop l j hlt HM.out (by rw [← HX.out]; exact hm)
        have HR : Hid (S = ⟨#[]⟩ ∧ E = 2 ∧ I = j) := ⟨HS.out.1.trans (text_no HBA).1, HS.out.2.1.trans (text_no HBA).2.1, HS.out.2.2.trans (text_no HBA).2.2⟩
        clear hm HS HM HX HBA HF HWF HLL
        go_wp2_with (go_at_call 20; refine (MA.out _ hT1.out).mono ?_; rintro e w3 ⟨rfl, hz⟩; have bel3 := bb.trans (hz.mono bb.size); have r3 := (hz.block _ (by omega)).trans pz; obtain ⟨z0, z1, f0, f1, hl2⟩ := slot2 r3; clear hz)
        exact bodyPost_ret (v := .tuple #[.string ⟨#[]⟩, .agg #[.int .i64 2, .int .i64 j]]) (by simp [results, Tryd.results8, go_sem, z0, z1]; try rfl) rfl ⟨by rw [HR.out.1, HR.out.2.1, HR.out.2.2], by first | exact bel3 | exact below2 bel3 (Nat.le_refl _) _ _⟩
      · rw [hm] at MA
        have HM2 : Hid (∀ y ∈ l.take (j + 1), Lx.mayT y = true) := by
          intro y hy
          rw [List.take_succ_eq_append_getElem hlt] at hy
          simp only [List.mem_append, List.mem_cons, List.not_mem_nil, or_false] at hy
          rcases hy with hy | rfl
          · exact HM.out y hy
          · rw [← HX.out]; exact hm
        clear hm HM HX pz
        go_wp2_with (go_at_call 20; refine (MA.out _ hT1.out).mono ?_; rintro e w3 ⟨rfl, hz⟩; have HB3 := hide (HB.out.trans (hz.mono hsz)); have hs3 := hz.size; clear hz)
        go_roundw
        case rel => exact ⟨j + 1, by go_num, by omega, HB3, by omega, HM2⟩
        case measure => simp [intOf]; omega
    · have hje : j = l.length := by omega
      have HMA : Hid (∀ x ∈ l, Lx.mayT x = true) := by have := HM.out; rw [hje, List.take_length] at this; exact this
      have hok : Lx.badAt l = none := (Lx.bad_none l).2 HMA.out
      have HR : Hid (S = ⟨(Lx.textL l).toArray⟩ ∧ E = 0 ∧ I = 0) := ⟨HS.out.1.trans (text_ok hok).1, HS.out.2.1.trans (text_ok hok).2.1, HS.out.2.2.trans (text_ok hok).2.2⟩
      have hlti : ¬ (j : Int) < l.length := by omega
      clear hje hok HM HS hlt pz bb hj
      go_wp2
      go_loopw [5, 6] (fun bv i wr => ∃ (j : Nat) (acc : List UInt8), i = .int .i64 j ∧ j ≤ l.length ∧ Hid (Bys (w.heap.size + 1) (w.alloc (.cells #[.int .i64 0, .int .i64 0] 30)) wr bv acc) ∧ acc.length ≤ 201 * j ∧ Hid (acc ++ textP (decide (j = 0)) (l.drop j) = textP true l)) (fun _ i _ => l.length - (intOf i).toNat)
      case atStart => exact ⟨0, [], rfl, Nat.zero_le _, hide (Bys.nil HB.out hsz), by simp, hide rfl⟩
      case round =>
        clear HB hsz hlti
        obtain ⟨j, acc, rfl, hj, BO, hal, HA⟩ := hrel
        obtain ⟨pz, bb⟩ := mid_any BO.out.bel
        by_cases hlt : j < l.length
        · obtain ⟨b, off, rfl, hv⟩ := HF.out (by intro e; rw [e] at hlt; simp at hlt)
          have hvw := (hv.later bb) j hlt
          obtain ⟨c0, c1, c2, c3⟩ := hvw
          obtain ⟨x, hx⟩ : ∃ x, x = l[j] := ⟨_, rfl⟩
          have hxw := HWF.out l[j] (List.getElem_mem _)
          have hxl := HLL.out l[j] (List.getElem_mem _)
          have hm := HMA.out l[j] (List.getElem_mem _)
          have lbw : b < w.heap.size := World.block_lt_of_cell? w _ (hv j hlt).1
          have V := hide hv
          rw [← hx] at c0 c1 c2 c3 hxw hxl hm
          obtain ⟨xs, hxs⟩ : ∃ xs : ByteArray, xs = ⟨x.t.toArray⟩ := ⟨_, rfl⟩
          rw [← hxs] at c1
          have SA := hide (fun wx => rsaid_any wx x xs hxs hxw (by omega))
          obtain ⟨st, hst⟩ : ∃ st : ByteArray, st = ⟨(Lx.saidT x).toArray⟩ := ⟨_, rfl⟩
          rw [← hst] at SA
          have HST := hide hst
          have hsl := said_len hm
          have hdr : l.drop j = x :: l.drop (j + 1) := by rw [List.drop_eq_getElem_cons hlt, ← hx]
          have hlti : (j : Int) < l.length := by omega
          have HX := hide hx
          have HXS := hide hxs
          clear hv hxs hxw hxl hm hst pz hx
          by_cases h0 : j = 0
          · have HA2 : Hid ((acc ++ Lx.saidT x) ++ textP (decide (j + 1 = 0)) (l.drop (j + 1)) = textP true l) := by
              have h := HA.out
              rw [hdr, textP] at h
              show _ = _
              rw [← h]; simp [h0]
            have hjl : (acc ++ Lx.saidT x).length ≤ 201 * (j + 1) := by rw [List.length_append]; omega
            have hroom : acc.length + (Lx.saidT x).length ≤ 140737488355328 := by omega
            have h0i : ¬ (j : Int) > 0 := by omega
            clear HA hdr hsl hal h0
            go_wp2_with (first
              | (go_at_call 21; refine (SA.out _).mono ?_; rintro e w3 ⟨rfl, hz⟩; have B3 := hide (BO.out.later hz); clear hz)
              | (at_builtin; refine wpList_str _ rfl (.tmp 32) (.tmp 37) rfl (w.heap.size + 1) (w.alloc (.cells #[.int .i64 0, .int .i64 0] 30)) _ acc rfl B3.out st _ HST.out rfl hroom ?_; intro v4 w4 b4; have B4 := hide b4; clear b4))
            go_roundw
            case rel => exact ⟨j + 1, _, by go_num, by omega, B4, hjl, HA2⟩
            case measure => simp [intOf]; omega
          · have HA2 : Hid (((acc ++ [32]) ++ Lx.saidT x) ++ textP (decide (j + 1 = 0)) (l.drop (j + 1)) = textP true l) := by
              have h := HA.out
              rw [hdr, textP] at h
              show _ = _
              rw [← h]; simp [h0]
            have hjl : ((acc ++ [32]) ++ Lx.saidT x).length ≤ 201 * (j + 1) := by rw [List.length_append, List.length_append]; simp only [List.length_cons, List.length_nil]; omega
            have hroom1 : acc.length + 1 ≤ 140737488355328 := by omega
            have hroom : (acc ++ [32]).length + (Lx.saidT x).length ≤ 140737488355328 := by rw [List.length_append]; simp only [List.length_cons, List.length_nil]; omega
            have h0i : (j : Int) > 0 := by omega
            clear HA hdr hsl hal h0 c0 c1 c2 c3
            go_wp2_with (first
              | (at_builtin; refine wpList_byte _ rfl (.tmp 29) (.tmp 30) rfl (w.heap.size + 1) (w.alloc (.cells #[.int .i64 0, .int .i64 0] 30)) _ acc rfl (BO.out.alloc _) _ 1 1 rfl rfl 32 32 rfl (new_cell _ _ _) rfl hroom1 ?_; intro v5 w5 b5; have B5 := hide b5; obtain ⟨_, bb5⟩ := mid_any b5.bel; obtain ⟨c0, c1, c2, c3⟩ := (V.out.later bb5) j hlt; rw [← HX.out] at c0 c1 c2 c3; rw [← HXS.out] at c1; clear b5)
              | (go_at_call 21; refine (SA.out _).mono ?_; rintro e w3 ⟨rfl, hz⟩; have B3 := hide (B5.out.later hz); clear hz)
              | (at_builtin; refine wpList_str _ rfl (.tmp 32) (.tmp 37) rfl (w.heap.size + 1) (w.alloc (.cells #[.int .i64 0, .int .i64 0] 30)) _ (acc ++ [32]) rfl B3.out st _ HST.out rfl hroom ?_; intro v4 w4 b4; have B4 := hide b4; clear b4))
            go_roundw
            case rel => exact ⟨j + 1, _, by go_num, by omega, B4, hjl, HA2⟩
            case measure => simp [intOf]; omega
        · have hje : j = l.length := by omega
          have hacc : acc = Lx.textL l := by
            have h := HA.out
            rw [hje, List.drop_length, textP_is] at h
            simpa [textP] using h
          have HR2 : Hid (S = ⟨acc.toArray⟩ ∧ E = 0 ∧ I = 0) := by rw [hacc]; exact HR.out
          have hlti : ¬ (j : Int) < l.length := by omega
          have CV := BO.out.str
          obtain ⟨z0, z1, f0, f1, hl2⟩ := slot2 pz
          have q0 : wr.setCell ⟨w.heap.size, 0, none⟩ (.int .i64 0) = wr := setCell_id pz rfl
          have q1 : wr.setCell ⟨w.heap.size, 1, none⟩ (.int .i64 0) = wr := setCell_id pz rfl
          clear hje hacc HA HR HF HWF HLL HMA hlt pz
          go_wp2
          exact bodyPost_ret (v := .tuple #[.string ⟨acc.toArray⟩, .agg #[.int .i64 0, .int .i64 0]]) (by simp [results, Tryd.results8, go_sem, z0, z1]; try rfl) rfl ⟨by rw [HR2.out.1, HR2.out.2.1, HR2.out.2.2], bb⟩
end Go.Proofs.YtjddhakaebkkeaaDoor
