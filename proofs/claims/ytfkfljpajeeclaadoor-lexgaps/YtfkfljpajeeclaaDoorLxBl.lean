/-
  Blanks more, and capital letters, change nothing but places: the law's walk.
-/
import Derived.Test.YtfkfljpajeeclaaDoorLxPB
namespace Go.Proofs.YtfkfljpajeeclaaDoor
open Go.RowKit
attribute [local go_sem ↓] Go.wp_at_zero Go.wp_at_succ

theorem ext_part (s : ByteArray) (a b : Nat) : s.extract a b = ⟨((s.data.toList.drop a).take (b - a)).toArray⟩ := by
  apply ByteArray.ext
  rw [ByteArray.data_extract]
  apply Array.toList_inj.1
  rw [Array.toList_extract]
theorem upB (c : UInt8) : Lib.upperB c = Lx.up c := by
  unfold Lib.upperB Lx.up Lib.isLowerB
  simp [UInt8.le_iff_toNat_le]

/-- The piece of the k-th token: capital letters where it is a word. -/
def pieceL (l : List UInt8) (x : Lx.Tk) (a b : Nat) : List UInt8 := if x.k = 1 then ((l.drop a).take (b - a)).map Lx.up else (l.drop a).take (b - a)
theorem piece_pre {l : List UInt8} {T : List UInt8} {z : List Lx.Tk} {x : Lx.Tk} {s n e : Nat} (h : Lx.Pre T z) (hn : Lx.next (l.drop s) = .tok (Lx.unp x) n) (h1 : s + n ≤ e) (hB : ∀ b ∈ (l.drop (s + n)).take (e - (s + n)), Lx.bl b = true) (c : UInt8) (hc : Lx.bl c = true) : Lx.Pre (T ++ (pieceL l x s e ++ [c])) (z ++ [Lx.unp x]) := by
  have hsplit : (l.drop s).take (e - s) = (l.drop s).take n ++ (l.drop (s + n)).take (e - (s + n)) := by
    rw [← List.drop_drop, show e - s = n + (e - (s + n)) from by omega, List.take_add]
  have hb2 : ∀ b ∈ (l.drop (s + n)).take (e - (s + n)) ++ [c], Lx.bl b = true := by
    intro b hb
    simp only [List.mem_append, List.mem_cons, List.not_mem_nil, or_false] at hb
    rcases hb with hb | rfl
    · exact hB b hb
    · exact hc
  unfold pieceL
  split
  · rename_i hk
    have hu := Lx.next_up hn hk
    have hlen : (((l.drop s).take n).map Lx.up).length = n := by
      have := Lx.next_width hn
      rw [List.length_map, List.length_take]; omega
    have hp := Lx.pre_step h hu.1 _ hb2 (by simp)
    rw [List.take_of_length_le (by rw [hlen]; exact Nat.le_refl _)] at hp
    rw [hsplit, List.map_append]
    have hm : ((l.drop (s + n)).take (e - (s + n))).map Lx.up = (l.drop (s + n)).take (e - (s + n)) := by
      exact (List.map_congr_left fun b hb => Lx.up_bl (hB b hb)).trans (List.map_id _)
    rw [hm, List.append_assoc]
    exact hp
  · have hp := Lx.pre_step h hn _ hb2 (by simp)
    rw [hsplit, List.append_assoc]
    exact hp
theorem piece_ascii {l : List UInt8} {x : Lx.Tk} {s n e : Nat} (hk : x.k = 1) (hn : Lx.next (l.drop s) = .tok (Lx.unp x) n) (h1 : s + n ≤ e) (hB : ∀ b ∈ (l.drop (s + n)).take (e - (s + n)), Lx.bl b = true) : ∀ b ∈ (l.drop s).take (e - s), b.toNat < 128 := by
  have hsplit : (l.drop s).take (e - s) = (l.drop s).take n ++ (l.drop (s + n)).take (e - (s + n)) := by
    rw [← List.drop_drop, show e - s = n + (e - (s + n)) from by omega, List.take_add]
  intro b hb
  rw [hsplit, List.mem_append] at hb
  rcases hb with hb | hb
  · exact Lx.inw_lo b ((Lx.next_up hn hk).2 b hb)
  · exact Lx.bl_lo b (hB b hb)
theorem blk_in (x : Int) : -4 < x.tmod 4 ∧ x.tmod 4 < 4 := by
  have h1 := Int.tmod_lt_of_pos x (show (0 : Int) < 4 by decide)
  have h2 : -4 < x.tmod 4 := by
    rcases Int.le_total 0 x with h | h
    · have := Int.tmod_nonneg 4 h; omega
    · have h5 := Int.tmod_lt_of_pos (-x) (show (0 : Int) < 4 by decide)
      rw [Int.neg_tmod] at h5; omega
  omega
def blB (j : Int) : Nat := if j = 0 then 9 else if j = 1 then 10 else if j = 2 then 13 else 32
theorem blB_lt (j : Int) : blB j < 256 := by unfold blB; split <;> (try split) <;> (try split) <;> omega
theorem bl_cell (W : World) (J : Int) (h0 : 0 ≤ J) (h1 : J < 4) : (W.alloc (.cells #[.int .u8 9, .int .u8 10, .int .u8 13, .int .u8 32] 5)).cell? ⟨W.heap.size, J.toNat, none⟩ = some (.int .u8 (blB J)) := by
  rw [Joins.cell_of_block (heap_alloc_new W _) _]
  have hj : J = 0 ∨ J = 1 ∨ J = 2 ∨ J = 3 := by omega
  rcases hj with rfl | rfl | rfl | rfl <;> rfl
theorem one_back (W : World) (b : Nat) (hb : b < 256) : (convert 34 9 (.slice (some ⟨W.heap.size, 0, none⟩) 1 1)).run Tryd.prog (W.alloc (.cells #[.int .u8 b] 5)) = .ok (.string ⟨#[UInt8.ofNat b]⟩) (W.alloc (.cells #[.int .u8 b] 5)) := by
  have h := run_convert_bytes_back (P := Tryd.prog) (W.alloc (.cells #[.int .u8 b] 5)) 34 9 5 ⟨W.heap.size, 0, none⟩ 1 [UInt8.ofNat b] Tryd.underlying34 Tryd.underlying5 Tryd.underlying9 (fun j hj => by
    obtain rfl : j = 0 := by simp at hj; exact hj
    rw [Lib.add_plain, Joins.cell_of_block (heap_alloc_new W (.cells #[.int .u8 b] 5)) _]
    have : (UInt8.ofNat b).toNat = b := by simp; omega
    simp [this])
  exact h
theorem blB_bl (j : Int) : Lx.bl (UInt8.ofNat (blB j)) = true := by
  unfold blB; split
  · rfl
  · split
    · rfl
    · split <;> rfl
/-- The walk on its way. -/
structure BlS (w1 wr : World) (v : Value) (q : List Lx.Tk) : Prop where
  bel : Below w1.heap.size w1 wr
  lst : TksIn w1 v q

set_option maxRecDepth 100000 in
set_option maxHeartbeats 16000000 in
theorem blanks_ok (w : World) (s : ByteArray) (x : Int) (q : List Lx.Tk) (hT : Tab2 w) (hs : s.size ≤ 4000) (_hx : -9223372036854775808 ≤ x ∧ x ≤ 9223372036854775807) (h1 : Lx.lexA s.data.toList 0 = .ok q) : Calls Tryd.prog 7 #[.string s, .int .i64 x] w fun e w' => e = .returned (.bool true) ∧ Below w.heap.size w w' := by
  have LV := hide (fun wx (hb : Below w.heap.size w wx) => lives_any wx (hT.later hb))
  have L1 := hide (fun wx (hb : Below w.heap.size w wx) => lex_ok wx s q (by omega) (hT.later hb) h1)
  have HG := hide (lex_gs h1)
  have TT := hide hT
  have hsi : ¬ (s.size : Int) > 4000 := by omega
  have HL := hide (l_size s)
  have hql : q.length ≤ s.size := by have := (unp_may (s := s.data.toList) (by rw [l_size]; omega) h1).2; rw [l_size] at this; exact this
  have h1h := hide h1
  clear hT h1
  have K0 : Hid True := trivial
  go_enter Tryd.func7, Tryd.ntmps7
  go_wp2_with (first
    | (go_at_call 12; have tk := K0; refine (LV.out _ (Below.refl _ _)).mono ?_; rintro e w0 ⟨rfl, hz⟩; have B0 := hide hz; clear hz; clear tk K0; have K1 : Hid True := trivial)
    | (go_at_call 8; have tk := K1; refine (L1.out _ B0.out).mono ?_; rintro e w1 ⟨v1, rfl, hv, hz⟩; have B1 := hide (B0.out.trans (hz.mono B0.out.size)); have V1 := hide (hv.later ((Below.refl _ _).alloc (Nat.le_refl _) (.cells #[.int .i64 0, .int .i64 0] 25))); clear hv hz; clear tk K1 LV L1; have K2 : Hid True := trivial; obtain ⟨⟨a1, c1, hv1, _, hf1⟩, hw1⟩ := V1.out; subst hv1; have VV := V1; have HF1 := hide hf1; clear hf1 hw1 V1))
  obtain ⟨W1, hW1⟩ : ∃ W1, W1 = w1.alloc (.cells #[.int .i64 0, .int .i64 0] 25) := ⟨_, rfl⟩
  have BW : Below w.heap.size w W1 := by rw [hW1]; exact B1.out.alloc B1.out.size _
  rw [← hW1] at HF1 VV ⊢
  clear hW1 B1 B0
  go_loopw [7, 8] (fun t i wr => ∃ (k : Nat) (T : ByteArray), t = .string T ∧ i = .int .i64 k ∧ k ≤ q.length ∧ Below W1.heap.size W1 wr ∧ Hid (Lx.Pre T.data.toList ((q.take k).map Lx.unp)) ∧ T.size ≤ Lx.nxt s.data.toList q k + k) (fun _ i _ => q.length - (intOf i).toNat)
  case atStart => exact ⟨0, ⟨#[]⟩, rfl, rfl, Nat.zero_le _, Below.refl _ _, Lx.pre_nil, by show 0 ≤ _; omega⟩
  case round =>
    obtain ⟨k, T, rfl, rfl, hk, hb, HP, hTs⟩ := hrel
    by_cases hlt : k < q.length
    · obtain ⟨x1, hx1⟩ : ∃ x1, q[k]? = some x1 := ⟨q[k], List.getElem?_eq_getElem hlt⟩
      obtain ⟨s0, n, ha, hn, he1, he2, hBl⟩ := Lx.gs_at s.data.toList q 0 k HG.out x1 hx1
      obtain ⟨E, hE⟩ : ∃ E, E = Lx.nxt s.data.toList q (k + 1) := ⟨_, rfl⟩
      rw [← hE] at he1 he2 hBl
      rw [HL.out] at he2
      have hnk : Lx.nxt s.data.toList q k = s0 := by unfold Lx.nxt; rw [hx1]; simp only; omega
      rw [hnk] at hTs
      have hex := ext_part s s0 E
      have HPC : Hid (∀ j, Lx.Pre (T.data.toList ++ (pieceL s.data.toList x1 s0 E ++ [UInt8.ofNat (blB j)])) ((q.take (k + 1)).map Lx.unp)) := fun j => by
        have h := piece_pre HP.out hn he1 hBl (UInt8.ofNat (blB j)) (blB_bl j)
        have ht : q.take (k + 1) = q.take k ++ [x1] := by
          rw [List.take_add_one, hx1]; rfl
        rw [ht, List.map_append]
        exact h
      have hasc : x1.k = 1 → ∀ b ∈ (s.data.toList.drop s0).take (E - s0), b.toNat < 128 := fun h => piece_ascii h hn he1 hBl
      obtain ⟨b1, o1, ea, ht1⟩ := HF1.out (by intro e; rw [e] at hlt; simp at hlt)
      subst ea
      have hat := ht1.later hb
      obtain ⟨c0, _, _, c3⟩ := hat k hlt
      have hqk : q[k] = x1 := by
        have := List.getElem?_eq_getElem hlt
        rw [hx1] at this; exact (Option.some.inj this).symm
      rw [hqk] at c0 c3
      rw [ha] at c3
      have lb := World.block_lt_of_cell? wr _ c0
      obtain ⟨hR0, hR1⟩ := blk_in x
      obtain ⟨R, hR⟩ : ∃ R, x.tmod 4 = R := ⟨_, rfl⟩
      obtain ⟨K4, hK4⟩ : ∃ K4, (k : Int) % 4 = K4 := ⟨_, rfl⟩
      have hK0 : 0 ≤ K4 := by omega
      have hK1 : K4 < 4 := by omega
      obtain ⟨J, hJ⟩ : ∃ J, (R + K4 + 4) % 4 = J := ⟨_, rfl⟩
      have hJt : (R + K4 + 4).tmod 4 = J := by rw [Int.tmod_eq_emod_of_nonneg (by omega)]; exact hJ
      have hJ0 : 0 ≤ J := by omega
      have hJ1 : J < 4 := by omega
      rw [hR] at hR0 hR1
      have hRl : -3 ≤ R := by omega
      obtain ⟨bb, hbb⟩ : ∃ bb, blB J = bb := ⟨_, rfl⟩
      have hbc : ∀ W : World, (W.alloc (.cells #[.int .u8 9, .int .u8 10, .int .u8 13, .int .u8 32] 5)).cell? ⟨W.heap.size, J.toNat, none⟩ = some (.int .u8 bb) := fun W => by rw [← hbb]; exact bl_cell W J hJ0 hJ1
      have hcv : ∀ W : World, (convert 34 9 (.slice (some ⟨W.heap.size, 0, none⟩) 1 1)).run Tryd.prog (W.alloc (.cells #[.int .u8 bb] 5)) = .ok (.string ⟨#[UInt8.ofNat bb]⟩) (W.alloc (.cells #[.int .u8 bb] 5)) := fun W => one_back W bb (by rw [← hbb]; exact blB_lt J)
      have hcv1 : ∀ (W : World) (o : Obj), (convert 34 9 (.slice (some ⟨W.heap.size + 1, 0, none⟩) 1 1)).run Tryd.prog ((W.alloc o).alloc (.cells #[.int .u8 bb] 5)) = .ok (.string ⟨#[UInt8.ofNat bb]⟩) ((W.alloc o).alloc (.cells #[.int .u8 bb] 5)) := fun W o => by have := hcv (W.alloc o); simpa using this
      clear hcv
      have HPB := hide (HPC.out J)
      rw [hbb] at HPB
      have HE := hide hE
      have hki : (k : Int) < q.length := by omega
      have hse : (s0 : Int) ≤ E := by omega
      have hes : (E : Int) ≤ s.size := by omega
      have hlast : (k + 1 < q.length ∧ wr.cell? ⟨b1, o1 + (k + 1) * 4 + 3, none⟩ = some (.int .i64 E)) ∨ (¬ k + 1 < q.length ∧ E = s.size) := by
        by_cases h2 : k + 1 < q.length
        · refine .inl ⟨h2, ?_⟩
          have e2 := (hat (k + 1) h2).2.2.2
          rw [e2, hE]
          have hx2 : q[k + 1]? = some q[k + 1] := List.getElem?_eq_getElem h2
          obtain ⟨s2, _, ha2, _⟩ := Lx.gs_at s.data.toList q 0 (k + 1) HG.out _ hx2
          unfold Lx.nxt
          rw [hx2]
          simp only [ha2]
          congr 2
        · refine .inr ⟨h2, ?_⟩
          rw [hE]
          unfold Lx.nxt
          rw [List.getElem?_eq_none (by omega)]
          exact HL.out
      clear hat ht1 hBl hn he1 hqk hx1 hnk HP hE hbb HPC hR0
      obtain ⟨ON, hON⟩ : ∃ ON : ByteArray, ON = ⟨((s.data.toList.drop s0).take (E - s0)).toArray⟩ := ⟨_, rfl⟩
      rw [← hON] at hex
      have HON : Hid (ON.data.toList = (s.data.toList.drop s0).take (E - s0)) := by show _ = _; rw [hON]
      have hONs : ON.size ≤ E - s0 := by rw [← l_size, HON.out]; exact List.length_take_le _ _
      have TU : x1.k = 1 → Hid (∃ OU : ByteArray, OU.data.toList = ((s.data.toList.drop s0).take (E - s0)).map Lx.up ∧ ∀ wx, Calls Tryd.prog 19 #[.string ON] wx fun e w' => e = .returned (.string OU) ∧ Below wx.heap.size wx w') := fun hk => by
        refine ⟨⟨(Lib.toUpperA ON.data.toList).toArray⟩, ?_, fun wx => Tryd.strings_ToUpper_ascii ON wx (by omega) (fun j b hj => hasc hk b (by rw [HON.out] at hj; exact List.mem_of_getElem? hj))⟩
        rw [← HON.out]
        simp only [Lib.toUpperA]
        exact List.map_congr_left fun c _ => upB c
      clear hON
      have HEs : Hid (E ≤ s.size) := he2
      rcases hlast with ⟨h2, c4⟩ | ⟨h2, hEs⟩
      · have h2i : (k : Int) + 1 < q.length := by omega
        by_cases hk1 : x1.k = 1
        · obtain ⟨OU, hOU, TU⟩ := (TU hk1).out
          have HOU := hide hOU
          have TU := hide TU
          have hOUs : OU.size ≤ E - s0 := by rw [← l_size, HOU.out, List.length_map]; exact List.length_take_le _ _
          clear hOU
          clear hasc he2
          go_wp2_with (go_at_call 19; refine (TU.out _).mono ?_; rintro e w2 ⟨rfl, hz⟩; have hb2 := hb.trans (hz.mono hb.size); clear hz)
          first
          | (refine ⟨⟨k + 1, _, rfl, by go_num, by omega, (hb2.alloc hb2.size _).alloc (by have := hb2.size; simp; omega) _, ?_, ?_⟩, by simp [intOf]; omega⟩)
          | (go_roundw
             case' measure => (simp [intOf]; omega)
             case' rel => refine ⟨k + 1, _, rfl, by go_num, by omega, (hb2.alloc hb2.size _).alloc (by have := hb2.size; simp; omega) _, ?_, ?_⟩)
          · have h := HPB.out
            unfold pieceL at h
            rw [if_pos hk1, ← HOU.out] at h
            have e : (T ++ OU ++ ⟨#[UInt8.ofNat bb]⟩ : ByteArray).data.toList = T.data.toList ++ (OU.data.toList ++ [UInt8.ofNat bb]) := by simp [ByteArray.data_append]
            show Lx.Pre _ _
            rw [e]
            exact h
          · rw [← HE.out]
            have e2 : (⟨#[UInt8.ofNat bb]⟩ : ByteArray).size = 1 := rfl
            rw [ByteArray.size_append, ByteArray.size_append, e2]
            omega
        · clear TU hasc he2
          go_wp2
          first
          | (refine ⟨⟨k + 1, _, rfl, by go_num, by omega, (hb.alloc hb.size _).alloc (by have := hb.size; simp; omega) _, ?_, ?_⟩, by simp [intOf]; omega⟩)
          | (go_roundw
             case' measure => (simp [intOf]; omega)
             case' rel => refine ⟨k + 1, _, rfl, by go_num, by omega, (hb.alloc hb.size _).alloc (by have := hb.size; simp; omega) _, ?_, ?_⟩)
          · have h := HPB.out
            unfold pieceL at h
            rw [if_neg hk1, ← HON.out] at h
            have e : (T ++ ON ++ ⟨#[UInt8.ofNat bb]⟩ : ByteArray).data.toList = T.data.toList ++ (ON.data.toList ++ [UInt8.ofNat bb]) := by simp [ByteArray.data_append]
            show Lx.Pre _ _
            rw [e]
            exact h
          · rw [← HE.out]
            have e2 : (⟨#[UInt8.ofNat bb]⟩ : ByteArray).size = 1 := rfl
            rw [ByteArray.size_append, ByteArray.size_append, e2]
            omega
      · have h2i : ¬ (k : Int) + 1 < q.length := by omega
        subst hEs
        by_cases hk1 : x1.k = 1
        · obtain ⟨OU, hOU, TU⟩ := (TU hk1).out
          have HOU := hide hOU
          have TU := hide TU
          have hOUs : OU.size ≤ s.size - s0 := by rw [← l_size, HOU.out, List.length_map]; exact List.length_take_le _ _
          clear hOU
          clear hasc he2 hes
          go_wp2_with (go_at_call 19; refine (TU.out _).mono ?_; rintro e w2 ⟨rfl, hz⟩; have hb2 := hb.trans (hz.mono hb.size); clear hz)
          first
          | (refine ⟨⟨k + 1, _, rfl, by go_num, by omega, (hb2.alloc hb2.size _).alloc (by have := hb2.size; simp; omega) _, ?_, ?_⟩, by simp [intOf]; omega⟩)
          | (go_roundw
             case' measure => (simp [intOf]; omega)
             case' rel => refine ⟨k + 1, _, rfl, by go_num, by omega, (hb2.alloc hb2.size _).alloc (by have := hb2.size; simp; omega) _, ?_, ?_⟩)
          · have h := HPB.out
            unfold pieceL at h
            rw [if_pos hk1, ← HOU.out] at h
            have e : (T ++ OU ++ ⟨#[UInt8.ofNat bb]⟩ : ByteArray).data.toList = T.data.toList ++ (OU.data.toList ++ [UInt8.ofNat bb]) := by simp [ByteArray.data_append]
            show Lx.Pre _ _
            rw [e]
            exact h
          · rw [← HE.out]
            have e2 : (⟨#[UInt8.ofNat bb]⟩ : ByteArray).size = 1 := rfl
            rw [ByteArray.size_append, ByteArray.size_append, e2]
            omega
        · clear TU hasc he2 hes
          go_wp2
          first
          | (refine ⟨⟨k + 1, _, rfl, by go_num, by omega, (hb.alloc hb.size _).alloc (by have := hb.size; simp; omega) _, ?_, ?_⟩, by simp [intOf]; omega⟩)
          | (go_roundw
             case' measure => (simp [intOf]; omega)
             case' rel => refine ⟨k + 1, _, rfl, by go_num, by omega, (hb.alloc hb.size _).alloc (by have := hb.size; simp; omega) _, ?_, ?_⟩)
          · have h := HPB.out
            unfold pieceL at h
            rw [if_neg hk1, ← HON.out] at h
            have e : (T ++ ON ++ ⟨#[UInt8.ofNat bb]⟩ : ByteArray).data.toList = T.data.toList ++ (ON.data.toList ++ [UInt8.ofNat bb]) := by simp [ByteArray.data_append]
            show Lx.Pre _ _
            rw [e]
            exact h
          · rw [← HE.out]
            have e2 : (⟨#[UInt8.ofNat bb]⟩ : ByteArray).size = 1 := rfl
            rw [ByteArray.size_append, ByteArray.size_append, e2]
            omega
    · have hke : k = q.length := by omega
      subst hke
      have hP := HP.out
      rw [List.take_length] at hP
      obtain ⟨q2, hq2, hm2⟩ := Lx.pre_end hP
      have hTz : T.size ≤ 8000 := by
        have hn : Lx.nxt s.data.toList q q.length = s.data.toList.length := by
          unfold Lx.nxt
          rw [List.getElem?_eq_none (by omega)]
        rw [hn, HL.out] at hTs
        omega
      have hu := unp_may (s := s.data.toList) (by rw [HL.out]; omega) h1h.out
      have L2 := hide (fun wx (hb : Below w.heap.size w wx) => lex_ok wx T q2 (by omega) (TT.out.later hb) hq2)
      have hl2 : q2.length = q.length := by have := congrArg List.length hm2; simpa using this
      have P1 := hide (fun wx v (h : TksIn wx v q) => placed_in wx v q _ h (by omega) rfl (fun x hx => (hu.1 x hx).1))
      have P2 := hide (fun wx v (h : TksIn wx v q2) => placed_in wx v q2 _ h (by omega) hm2 (fun x hx => (hu.1 x hx).1))
      have SA := hide (fun wx a b h h' => sameT_any wx a b (q.map Lx.unp) h h' (by rw [List.length_map]; omega))
      have V1 := hide (VV.out.later hb)
      have BB := hide (BW.trans (hb.mono BW.size))
      clear hP hq2 hm2 hTs hu HP HG h1h hlt hl2 hb
      have K5 : Hid True := trivial
      go_wp2_with (first
        | (go_at_call 8; have tk := K5; refine (L2.out _ BB.out).mono ?_; rintro e w4 ⟨v4, rfl, hv, hz⟩; have V4 := hide hv; replace V1 := hide (V1.out.later hz); replace BB := hide (bstep BB.out hz (Below.refl _ _)); clear hv hz tk K5; have K6 : Hid True := trivial)
        | (go_at_call 17; have tk := K6; refine (P1.out _ _ (V1.out.later (by first | exact Below.refl _ _ | exact (Below.refl _ _).alloc (Nat.le_refl _) _))).mono ?_; rintro e w5 ⟨v5, rfl, hv, hz⟩; have V5 := hide hv; replace V4 := hide (V4.out.step hz (by first | exact Below.refl _ _ | exact (Below.refl _ _).alloc (Nat.le_refl _) _)); replace BB := hide (bstep BB.out hz (by first | exact Below.refl _ _ | exact (Below.refl _ _).alloc (Nat.le_refl _) _)); clear hv hz tk K6 V1; have K7 : Hid True := trivial)
        | (go_at_call 17; have tk := K7; refine (P2.out _ _ (V4.out.later (by first | exact Below.refl _ _ | exact (Below.refl _ _).alloc (Nat.le_refl _) _))).mono ?_; rintro e w6 ⟨v6, rfl, hv, hz⟩; have V6 := hide hv; replace V5 := hide (V5.out.step hz (by first | exact Below.refl _ _ | exact (Below.refl _ _).alloc (Nat.le_refl _) _)); replace BB := hide (bstep BB.out hz (by first | exact Below.refl _ _ | exact (Below.refl _ _).alloc (Nat.le_refl _) _)); clear hv hz tk K7 V4; have K8 : Hid True := trivial)
        | (go_at_call 9; have tk := K8; refine (SA.out _ _ _ (V5.out.later (by first | exact Below.refl _ _ | exact (Below.refl _ _).alloc (Nat.le_refl _) _)) (V6.out.later (by first | exact Below.refl _ _ | exact (Below.refl _ _).alloc (Nat.le_refl _) _))).mono ?_; rintro e w7 ⟨rfl, hz⟩; replace BB := hide (bstep BB.out hz (by first | exact Below.refl _ _ | exact (Below.refl _ _).alloc (Nat.le_refl _) _)); clear hz tk K8))
      go_ret
      exact ⟨rfl, BB.out⟩
end Go.Proofs.YtfkfljpajeeclaaDoor
