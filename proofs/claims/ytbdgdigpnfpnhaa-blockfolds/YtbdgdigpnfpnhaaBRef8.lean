/-
  stagepostref07.asked and Fold.
-/
import Derived.Test.YtbdgdigpnfpnhaaKI
import Derived.Test.YtbdgdigpnfpnhaaKL
import Derived.Test.YtbdgdigpnfpnhaaKH
import Derived.Deep.RegionHeld3
namespace Go.Proofs.Ytbdgdigpnfpnhaa.Q
open Go.RowKit

set_option maxRecDepth 100000 in
set_option maxHeartbeats 2000000 in
theorem rasked_any (w : World) (a : Option Addr) (c n : Nat) (l : List Mm.Ent) (h : EntsAt w (.slice a n c) l) (hn : n = l.length) (hl : n ≤ 1000000) (i : Nat) (hi : i < l.length) (s : Int) :
    Calls Try.prog 69 #[.slice a n c, .int .i64 (i : Int), .int .i64 s] w fun e w' => e = .returned (.bool (Bk.askB l l[i] s)) ∧ Below w.heap.size w w' := by
  obtain ⟨b, off, rfl⟩ := h.some (by omega)
  obtain ⟨c0, c1, c2, c3⟩ := h.cells i hi
  have VS : Hid (Calls Try.prog 73 #[.slice (some ⟨b, off, none⟩) n c, str l[i].key, .int .i64 s] w fun e w' => e = .returned (foundV (l.find? (visP l[i].key s))) ∧ Below w.heap.size w w') := rvis_any w (some ⟨b, off, none⟩) c n l h hn hl l[i].key s
  have KC : Hid (∀ wx, Below w.heap.size w wx → wx.cell? ⟨b, off + i * 4 + 2, none⟩ = some (.int .i64 l[i].seq)) := fun wx hb => ((h.later hb).cells i hi).2.2.1
  have i1 : (i : Int) < (n : Int) := by omega
  have i0 : (0 : Int) ≤ (i : Int) := by omega
  have AB : Hid (Bk.askB l l[i] s = match l.find? (visP l[i].key s) with | some y => decide (y.seq = l[i].seq) | none => false) := rfl
  generalize l.find? (visP l[i].key s) = o at *
  generalize Bk.askB l l[i] s = A at *
  generalize l[i] = x at *
  obtain ⟨K, V, Q, D⟩ := x
  simp only at c0 c1 c2 c3 VS KC AB
  clear h hn hi
  cases o with
  | none =>
    have AB' : Hid (A = false) := AB.out
    clear AB c1 c2 c3
    go_enter Try.func69, Try.ntmps69
    go_wp2_with (go_at_call 73; refine VS.out.mono ?_; rintro e w1 ⟨rfl, b1⟩; clear VS)
    obtain ⟨W, hW⟩ : ∃ W, W = w1.alloc (.cells #[.string ⟨#[]⟩, .string ⟨#[]⟩, .int .i64 0, .bool false] 38) := ⟨_, rfl⟩
    have aW : Below w.heap.size w W := by rw [hW]; exact b1.alloc b1.size _
    have xW : W.cell? ⟨w1.heap.size, 2, none⟩ = some (.int .i64 0) := by rw [hW]; exact Joins.cell_of_block (World.alloc_heap_new w1 _) 2
    rw [← hW]
    have P0 : W.drew.cell? ⟨w1.heap.size, 2, none⟩ = some (.int .i64 0) ∧ W.drew.cell? ⟨b, off + i * 4 + 2, none⟩ = some (.int .i64 Q) := ⟨xW, KC.out W.drew aW.drew⟩
    clear hW
    clear P0 xW
    go_quiet (fail)
    go_wp2_with (fail)
    go_ret
    rw [AB'.out]
    exact ⟨rfl, below_drewN aW _⟩
  | some y =>
    obtain ⟨yk, yv, yq, yd⟩ := y
    have AB' : Hid (A = decide (yq = Q)) := AB.out
    clear AB c1 c2 c3
    go_enter Try.func69, Try.ntmps69
    go_wp2_with (go_at_call 73; refine VS.out.mono ?_; rintro e w1 ⟨rfl, b1⟩; clear VS)
    obtain ⟨W, hW⟩ : ∃ W, W = w1.alloc (.cells #[str yk, str yv, .int .i64 yq, .bool yd] 38) := ⟨_, rfl⟩
    have aW : Below w.heap.size w W := by rw [hW]; exact b1.alloc b1.size _
    have xW : W.cell? ⟨w1.heap.size, 2, none⟩ = some (.int .i64 yq) := by rw [hW]; exact Joins.cell_of_block (World.alloc_heap_new w1 _) 2
    rw [← hW]
    have P0 : W.drew.cell? ⟨w1.heap.size, 2, none⟩ = some (.int .i64 yq) ∧ W.drew.cell? ⟨b, off + i * 4 + 2, none⟩ = some (.int .i64 Q) := ⟨xW, KC.out W.drew aW.drew⟩
    clear hW
    go_region_held3 (fun wx => wx.cell? ⟨w1.heap.size, 2, none⟩ = some (.int .i64 yq) ∧ wx.cell? ⟨b, off + i * 4 + 2, none⟩ = some (.int .i64 Q))
      (first | exact P0 | exact ⟨xW, KC.out _ aW⟩) (fail)
    go_wp2_with (fail)
    go_ret
    rw [AB'.out]
    exact ⟨by rfl, aW.drew⟩

theorem ints_at {w : World} {b off n c : Nat} {l : List Int} (h : IntsAt w (.slice (some ⟨b, off, none⟩) n c) l) (j : Nat) (hj : j < l.length) : w.cell? ⟨b, off + j, none⟩ = some (.int .i64 l[j]) := by
  obtain ⟨a, cap, e, _, hf⟩ := h
  simp only [Value.slice.injEq] at e
  obtain ⟨rfl, _, rfl⟩ := e
  obtain ⟨b', off', e, hc⟩ := hf (by intro e; rw [e] at hj; simp at hj)
  cases e
  exact hc j hj
theorem ints_some {w : World} {a : Option Addr} {n c : Nat} {l : List Int} (h : IntsAt w (.slice a n c) l) (h0 : 0 < l.length) : ∃ b off, a = some ⟨b, off, none⟩ := by
  obtain ⟨a', cap, e, _, hf⟩ := h
  simp only [Value.slice.injEq] at e
  obtain ⟨rfl, _, rfl⟩ := e
  obtain ⟨b', off', e, hc⟩ := hf (by intro e; rw [e] at h0; simp at h0)
  exact ⟨b', off', e⟩
def outF (l : List Mm.Ent) (keep : List Int) : List Mm.Ent := l.filter (Bk.stayF l keep)
def foldF (l : List Mm.Ent) (keep : List Int) (last : Bool) : List Mm.Ent := if last then (Bk.restR (outF l keep)).reverse else outF l keep

set_option maxRecDepth 100000 in
set_option maxHeartbeats 8000000 in
theorem rfold_any (w : World) (a : Option Addr) (c n : Nat) (l : List Mm.Ent) (h : EntsAt w (.slice a n c) l) (hn : n = l.length) (hl : n ≤ 100000) (ka : Option Addr) (kc kn : Nat) (keep : List Int) (hkeep : IntsAt w (.slice ka kn kc) keep) (hkn : kn = keep.length) (hkl : kn ≤ 100000) (last : Bool) :
    Calls Try.prog 30 #[.slice a n c, .slice ka kn kc, .bool last] w fun e w' => ∃ v, e = .returned v ∧ w'.ownsRow w.heap.size 38 4 v (foldF l keep last).length (ecs (foldF l keep last)) ∧ Below w.heap.size w w' := by
  obtain ⟨i0, hi, hz0, hz1, hz2⟩ := info_parts infoE
  have H := hide h
  have HN := hide hn
  have HK := hide hkeep
  have HKN := hide hkn
  have AK : Hid (∀ wx (j : Nat) (hj : j < l.length) s, Below w.heap.size w wx → Calls Try.prog 69 #[.slice a n c, .int .i64 (j : Int), .int .i64 s] wx fun e w' => e = .returned (.bool (Bk.askB l l[j] s)) ∧ Below wx.heap.size wx w') := fun wx j hj s hb => rasked_any wx a c n l (h.later hb) hn (by omega) j hj s
  clear h hn hkeep hkn
  go_enter Try.func30, Try.ntmps30
  go_wp2_with (fail)
  go_loopw [7, 8] (fun v i wr => ∃ j : Nat, j ≤ n ∧ i = .int .i64 j ∧ wr.ownsRow w.heap.size 38 4 v ((l.take j).filter (Bk.stayF l keep)).length (ecs ((l.take j).filter (Bk.stayF l keep))) ∧ Below w.heap.size w wr) (fun _ i _ => n - (intOf i).toNat)
  case atStart => exact ⟨0, Nat.zero_le _, rfl, World.ownsRow_nil _ _ _ _, Below.refl _ _⟩
  case round =>
    obtain ⟨j, hj, rfl, o, bx⟩ := hrel
    by_cases hlt : j < n
    · have jl : j < l.length := by have := HN.out; omega
      have q1 : (j : Int) < (n : Int) := by omega
      have q0 : (0 : Int) ≤ (j : Int) := by omega
      obtain ⟨eb, off, rfl⟩ := H.out.some (by omega)
      have KC : Hid (∀ wx, Below w.heap.size w wx → wx.cell? ⟨eb, off + j * 4, none⟩ = some (str l[j].key) ∧ wx.cell? ⟨eb, off + j * 4 + 1, none⟩ = some (str l[j].value) ∧ wx.cell? ⟨eb, off + j * 4 + 2, none⟩ = some (.int .i64 l[j].seq) ∧ wx.cell? ⟨eb, off + j * 4 + 3, none⟩ = some (.bool l[j].del)) := fun wx hb => (H.out.later hb).cells j jl
      have AJ : Hid (∀ wx s, Below w.heap.size w wx → Calls Try.prog 69 #[.slice (some ⟨eb, off, none⟩) n c, .int .i64 (j : Int), .int .i64 s] wx fun e w' => e = .returned (.bool (Bk.askB l l[j] s)) ∧ Below wx.heap.size wx w') := fun wx s hb => AK.out wx j jl s hb
      have TK : Hid ((l.take (j + 1)).filter (Bk.stayF l keep) = if Bk.stayF l keep l[j] then (l.take j).filter (Bk.stayF l keep) ++ [l[j]] else (l.take j).filter (Bk.stayF l keep)) := by
        show _ = _
        rw [List.take_succ_eq_append_getElem jl, List.filter_append]
        by_cases hs : Bk.stayF l keep l[j] = true
        · rw [if_pos hs, List.filter_cons_of_pos hs, List.filter_nil]
        · rw [if_neg hs, List.filter_cons_of_neg hs, List.filter_nil, List.append_nil]
      have SF : Hid (Bk.stayF l keep l[j] = (Bk.askB l l[j] 1073741824 || keep.any (Bk.askB l l[j]))) := rfl
      have OL : Hid (((l.take j).filter (Bk.stayF l keep)).length ≤ j) := by
        show _ ≤ _
        refine Nat.le_trans (List.length_filter_le _ _) ?_
        rw [List.length_take]
        omega
      generalize Bk.askB l l[j] = ask at *
      generalize Bk.stayF l keep l[j] = ST at *
      generalize l[j] = x at *
      generalize (l.take j).filter (Bk.stayF l keep) = oo at *
      obtain ⟨K, V, Q, D⟩ := x
      simp only at KC TK
      have O := hide o
      have BX := hide bx
      clear o AK jl
      go_wp2_with (go_at_call 69; have ta := BX.out; refine (AJ.out _ _ BX.out).mono ?_; rintro e w1 ⟨rfl, b1⟩; have B1 := hide (BX.out.trans (b1.mono BX.out.size)); have O1 := hide (own_after O.out b1); clear BX O b1 ta)
      go_loopw [9, 10] (fun sv k wr2 => ∃ t : Nat, t ≤ kn ∧ k = .int .i64 t ∧ sv = .bool (ask 1073741824 || (keep.take t).any ask) ∧ wr2.ownsRow w.heap.size 38 4 u7 oo.length (ecs oo) ∧ Below w.heap.size w wr2) (fun _ k _ => kn - (intOf k).toNat)
      case atStart => exact ⟨0, Nat.zero_le _, rfl, by simp, O1.out, B1.out⟩
      case round =>
        obtain ⟨t, ht, rfl, rfl, o2, b2⟩ := hrel
        by_cases htk : t < kn
        · have tl : t < keep.length := by have := HKN.out; omega
          have p1 : (t : Int) < (kn : Int) := by omega
          have p0 : (0 : Int) ≤ (t : Int) := by omega
          obtain ⟨kb, ko, rfl⟩ := ints_some HK.out (by omega)
          have ck := ints_at (HK.out.later b2) t tl
          have TT : Hid ((keep.take (t + 1)).any ask = ((keep.take t).any ask || ask keep[t])) := by
            show _ = _
            rw [List.take_succ_eq_append_getElem tl, List.any_append]
            simp
          generalize keep[t] = s at *
          have O2 := hide o2
          have B2 := hide b2
          clear o2 b2 O1 B1
          cases hS : (ask 1073741824 || (keep.take t).any ask)
          · have AS := hide (AJ.out wr s B2.out)
            go_wp2_with (go_at_call 69; have ta := AS.out; refine AS.out.mono ?_; rintro e w3 ⟨rfl, b3⟩; clear AS ta)
            refine ⟨⟨t + 1, by omega, by go_num, ?_, own_after O2.out b3, B2.out.trans (b3.mono B2.out.size)⟩, by simp [intOf]; omega⟩
            rw [TT.out, ← Bool.or_assoc, hS, Bool.false_or]
          · go_wp2_with (fail)
            refine ⟨⟨t + 1, by omega, by go_num, ?_, O2.out, B2.out⟩, by simp [intOf]; omega⟩
            rw [TT.out, ← Bool.or_assoc, hS, Bool.true_or]
        · have e : t = kn := by omega
          subst e
          have p1 : ¬ (t : Int) < (t : Int) := by omega
          have tk : keep.take t = keep := List.take_of_length_le (by have := HKN.out; omega)
          rw [tk, ← SF.out]
          obtain ⟨c0, c1, c2, c3⟩ := KC.out wr b2
          have O2 := hide o2
          clear o2 O1 B1
          cases ST with
          | false =>
            go_wp2_with (fail)
            refine ⟨⟨j + 1, by omega, by go_num, ?_, b2⟩, by simp [intOf]; omega⟩
            rw [TK.out]
            exact O2.out
          | true =>
            have CN : Hid (∀ W : World, ∀ B, B = W.heap.size → ∀ i u, (ecs [⟨K, V, Q, D⟩])[i]? = some u → (W.alloc (.cells #[str K, str V, .int .i64 Q, .bool D] 38)).cell? ((⟨B, 0, none⟩ : Addr).add i) = some u) := fun W B hB => ec_new W ⟨K, V, Q, D⟩ B hB
            have HL : Hid ((ecs [⟨K, V, Q, D⟩]).length = 1 * 4) := rfl
            have HO : Hid (∀ u ∈ ecs [⟨K, V, Q, D⟩], u.oneCell' = true) := ecs_one [⟨K, V, Q, D⟩]
            have Z1 : Hid (oo.length + 1 ≤ maxLen) := by show _ ≤ _; have := OL.out; unfold maxLen; omega
            have Z2 : Hid ((oo.length + 1) * 48 ≤ 140737488355328) := by show _ ≤ _; have := OL.out; omega
            have zw : w.heap.size ≤ wr.heap.size := b2.size
            go_wp2_with (at_builtin; refine wpList_append_lies _ rfl _ _ 23 rfl w.heap.size 38 i0 _ 4 48 Try.underlying23 hi hz0 hz1 hz2 rfl (by decide) _ oo.length _ rfl (O2.out.alloc _) ⟨wr.heap.size, 0, none⟩ 1 1 (ecs [⟨K, V, Q, D⟩]) rfl HL.out (CN.out _ _ rfl) HO.out (by decide) Z1.out Z2.out (by simp; omega) _ rfl ?_; intro g4 cap4 w4 o4 h4 l4 lt4)
            refine ⟨⟨j + 1, by omega, by go_num, ?_, (b2.alloc zw _).grown h4 (by simp; omega) (fun k hk => (O2.out.lt k hk).1)⟩, by simp [intOf]; omega⟩
            rw [TK.out, if_pos rfl, ecs_append, List.length_append]
            exact o4
    · have e : j = n := by omega
      subst e
      have q1 : ¬ (j : Int) < (j : Int) := by omega
      have tk : l.take j = l := List.take_of_length_le (by have := HN.out; omega)
      rw [tk] at o
      have O : Hid (wr.ownsRow w.heap.size 38 4 u7 (outF l keep).length (ecs (outF l keep))) := o
      have OLen : (outF l keep).length ≤ 100000 := by
        refine Nat.le_trans (List.length_filter_le _ _) ?_
        have := HN.out
        omega
      clear o tk AK H HK
      cases last with
      | false =>
        go_wp2_with (fail)
        go_ret
        exact ⟨_, rfl, O.out, bx⟩
      | true =>
        have FF : Hid (foldF l keep true = (Bk.restR (outF l keep)).reverse) := rfl
        generalize outF l keep = oo at *
        obtain ⟨oa, oc, hv⟩ := row_shape O.out
        subst hv
        have wL : IntKind.i64.wrap ((oo.length : Int) - 1) = (oo.length : Int) - 1 := by rw [IntKind.wrap_i64]; omega
        have BX := hide bx
        clear bx
        obtain ⟨W3, hW3⟩ : ∃ W3, W3 = wr := ⟨_, rfl⟩
        rw [← hW3] at O BX ⊢
        clear hW3
        go_wp2_with (fail)
        go_loopw [11, 12] (fun v i wr2 => ∃ k : Nat, k ≤ oo.length ∧ i = .int .i64 ((k : Int) - 1) ∧ wr2.ownsRow W3.heap.size 38 4 v (Bk.restR (oo.drop k)).length (ecs (Bk.restR (oo.drop k))) ∧ Below W3.heap.size W3 wr2) (fun _ i _ => (intOf i + 1).toNat)
        case atStart => exact ⟨oo.length, Nat.le_refl _, rfl, by rw [List.drop_length]; exact World.ownsRow_nil _ _ _ _, Below.refl _ _⟩
        case round =>
          obtain ⟨k, hk, rfl, o3, b3⟩ := hrel
          cases k with
          | succ m =>
            have em : ((m + 1 : Nat) : Int) - 1 = (m : Int) := by omega
            rw [em]
            have hm : m < oo.length := by omega
            have p0 : (m : Int) ≥ 0 := by omega
            have p1 : (0 : Int) ≤ (m : Int) := by omega
            have p2 : (m : Int) < (oo.length : Int) := by omega
            have wm : IntKind.i64.wrap ((m : Int) - 1) = (m : Int) - 1 := by rw [IntKind.wrap_i64]; omega
            obtain ⟨g, cap, hv⟩ := own_someE O.out (by omega)
            have hoa : oa = some ⟨g, 0, none⟩ := by simp only [Value.slice.injEq] at hv; exact hv.1
            subst hoa
            have CC : Hid (∀ wx, Below W3.heap.size W3 wx → wx.cell? ⟨g, m * 4, none⟩ = some (str oo[m].key) ∧ wx.cell? ⟨g, m * 4 + 1, none⟩ = some (str oo[m].value) ∧ wx.cell? ⟨g, m * 4 + 2, none⟩ = some (.int .i64 oo[m].seq) ∧ wx.cell? ⟨g, m * 4 + 3, none⟩ = some (.bool oo[m].del)) := fun wx hb => by
              have := (EntsAt.own (own_after O.out hb)).cells m hm
              rw [Nat.zero_add] at this
              exact this
            have RS : Hid (Bk.restR (oo.drop m) = if !oo[m].del || decide ((Bk.restR (oo.drop (m + 1))).getLast?.map (·.key) = some oo[m].key) then Bk.restR (oo.drop (m + 1)) ++ [oo[m]] else Bk.restR (oo.drop (m + 1))) := by
              show _ = _
              rw [List.drop_eq_getElem_cons hm, Bk.restR]
            have RL : (Bk.restR (oo.drop (m + 1))).length ≤ oo.length := by
              refine Nat.le_trans (Bk.rest_le _) ?_
              rw [List.length_drop]
              omega
            generalize oo[m] = x at *
            generalize Bk.restR (oo.drop (m + 1)) = rr at *
            obtain ⟨K, V, Q, D⟩ := x
            simp only at CC RS
            obtain ⟨c0, c1, c2, c3⟩ := CC.out wr b3
            obtain ⟨ra, rc, hrv⟩ := row_shape o3
            subst hrv
            have O3 := hide o3
            have KBd : ∃ kb, kb = (!D || decide (rr.getLast?.map (·.key) = some K)) := ⟨_, rfl⟩
            obtain ⟨kb, hkb⟩ := KBd
            rw [← hkb] at RS
            have HKB := hide hkb
            obtain ⟨rl, hrl⟩ : ∃ rl, rl = rr.length := ⟨_, rfl⟩
            rw [← hrl] at RL ⊢
            have HRL := hide hrl
            clear hkb hrl
            go_wp2_with (fail)
            go_cut [84] from 61 to 84 (fun z wx => z = .bool kb ∧ Below wr.heap.size wr wx)
            case first =>
              cases D with
              | false =>
                have e1 : kb = true := by rw [HKB.out]; rfl
                subst e1
                clear HKB RS
                go_quiet (fail)
                go_wp2_with (fail)
                go_meet
                case rel => exact ⟨rfl, below_drewN (Below.refl _ _) _⟩
              | true =>
                rcases List.eq_nil_or_concat rr with e | ⟨r', y, e⟩
                · have e1 : kb = false := by rw [HKB.out, e]; rfl
                  have r0 : rl = 0 := by rw [HRL.out, e]; rfl
                  subst r0
                  subst e1
                  clear HKB RS
                  go_quiet (fail)
                  go_wp2_with (fail)
                  go_meet
                  case rel => exact ⟨rfl, below_drewN (Below.refl _ _) _⟩
                · have e' : rr = r' ++ [y] := by rw [e, List.concat_eq_append]
                  subst e'
                  have hcl := EntsAt.own O3.out
                  obtain ⟨rg, rcap, hv3⟩ := own_someE O3.out (by simp)
                  have hra : ra = some ⟨rg, 0, none⟩ := by simp only [Value.slice.injEq] at hv3; exact hv3.1
                  subst hra
                  have d1 := last_cell hcl
                  have hkk : kb = (y.key == K) := by
                    rw [HKB.out]
                    by_cases e2 : y.key = K
                    · simp [e2]
                    · simp [e2]
                  obtain ⟨ll, hll⟩ : ∃ ll, ll = r'.length := ⟨_, rfl⟩
                  have hlen : rl = ll + 1 := by rw [HRL.out, List.length_append, hll]; rfl
                  rw [← hll] at d1
                  generalize y.key = YK at *
                  subst hlen
                  have q1 : (0 : Int) < ((ll + 1 : Nat) : Int) := by omega
                  have q2 : (ll : Int) < ((ll + 1 : Nat) : Int) := by omega
                  have q3 : (0 : Int) ≤ (ll : Int) := by omega
                  have q4 : IntKind.i64.wrap (ll : Int) = (ll : Int) := by rw [IntKind.wrap_i64]; omega
                  subst hkk
                  clear HKB RS hcl hv3 hll O3 o3 HRL
                  have hK : (YK == K) = true ∨ (YK == K) = false := by cases (YK == K) <;> simp
                  rcases hK with hK | hK
                  · go_quiet (fail)
                    go_wp2_with (fail)
                    go_meet
                    case rel => exact ⟨by rw [hK], below_drewN (Below.refl _ _) _⟩
                  · go_quiet (fail)
                    go_wp2_with (fail)
                    go_meet
                    case rel => exact ⟨by rw [hK], below_drewN (Below.refl _ _) _⟩
            case rest =>
              obtain ⟨rfl, b4⟩ := hcut
              have o4 := hide (own_after O3.out b4)
              have B4 := b3.trans (b4.mono b3.size)
              obtain ⟨e0, e1, e2, e3⟩ := CC.out wc B4
              have o4' : Hid (wc.ownsRow W3.heap.size 38 4 (.slice ra rl rc) rl (ecs rr)) := by rw [HRL.out]; exact o4.out
              clear o4 O3 o3
              cases kb with
              | false =>
                have RS' : Hid (Bk.restR (oo.drop m) = rr) := RS.out
                clear RS HKB
                go_wp2_with (fail)
                refine ⟨⟨m, by omega, rfl, ?_, B4⟩, by simp [intOf]⟩
                rw [RS'.out, ← HRL.out]
                exact o4'.out
              | true =>
                have RS' : Hid (Bk.restR (oo.drop m) = rr ++ [⟨K, V, Q, D⟩]) := RS.out
                clear RS HKB
                have CN : Hid (∀ W : World, ∀ B, B = W.heap.size → ∀ i u, (ecs [⟨K, V, Q, D⟩])[i]? = some u → (W.alloc (.cells #[str K, str V, .int .i64 Q, .bool D] 38)).cell? ((⟨B, 0, none⟩ : Addr).add i) = some u) := fun W B hB => ec_new W ⟨K, V, Q, D⟩ B hB
                have HL : Hid ((ecs [⟨K, V, Q, D⟩]).length = 1 * 4) := rfl
                have HO : Hid (∀ u ∈ ecs [⟨K, V, Q, D⟩], u.oneCell' = true) := ecs_one [⟨K, V, Q, D⟩]
                have Z1 : Hid (rl + 1 ≤ maxLen) := by show _ ≤ _; unfold maxLen; omega
                have Z2 : Hid ((rl + 1) * 48 ≤ 140737488355328) := by show _ ≤ _; omega
                have zw : W3.heap.size ≤ wc.heap.size := B4.size
                go_wp2_with (at_builtin; refine wpList_append_lies _ rfl _ _ 23 rfl W3.heap.size 38 i0 _ 4 48 Try.underlying23 hi hz0 hz1 hz2 rfl (by decide) _ rl _ rfl (o4'.out.alloc _) ⟨wc.heap.size, 0, none⟩ 1 1 (ecs [⟨K, V, Q, D⟩]) rfl HL.out (CN.out _ _ rfl) HO.out (by decide) Z1.out Z2.out (by simp; omega) _ rfl ?_; intro g5 cap5 w5 o5 h5 l5 lt5)
                refine ⟨⟨m, by omega, rfl, ?_, (B4.alloc zw _).grown h5 (by simp; omega) (fun k hk => (o4'.out.lt k hk).1)⟩, by simp [intOf]⟩
                rw [RS'.out, ecs_append, List.length_append, ← HRL.out]
                exact o5
          | zero =>
            have p0 : ¬ (((0 : Nat) : Int) - 1) ≥ 0 := by omega
            rw [List.drop_zero] at o3
            have RL : (Bk.restR oo).length ≤ oo.length := Bk.rest_le _
            generalize Bk.restR oo = RR at *
            obtain ⟨ra, rc, hrv⟩ := row_shape o3
            subst hrv
            have O3 := hide o3
            have wL2 : IntKind.i64.wrap ((RR.length : Int) - 1) = (RR.length : Int) - 1 := by rw [IntKind.wrap_i64]; omega
            have B3 := hide (BX.out.trans (b3.mono BX.out.size))
            obtain ⟨W4, hW4⟩ : ∃ W4, W4 = wr := ⟨_, rfl⟩
            rw [← hW4] at O3 B3 ⊢
            clear hW4 o3 b3 O BX wL
            go_wp2_with (fail)
            go_loopw [14, 15] (fun v i wr2 => ∃ k : Nat, k ≤ RR.length ∧ i = .int .i64 ((k : Int) - 1) ∧ wr2.ownsRow W4.heap.size 38 4 v (RR.drop k).reverse.length (ecs (RR.drop k).reverse) ∧ Below W4.heap.size W4 wr2) (fun _ i _ => (intOf i + 1).toNat)
            case atStart => exact ⟨RR.length, Nat.le_refl _, rfl, by rw [List.drop_length]; exact World.ownsRow_nil _ _ _ _, Below.refl _ _⟩
            case round =>
              obtain ⟨k, hk, rfl, o6, b6⟩ := hrel
              cases k with
              | succ m =>
                have em : ((m + 1 : Nat) : Int) - 1 = (m : Int) := by omega
                rw [em]
                have hm : m < RR.length := by omega
                have p0 : (m : Int) ≥ 0 := by omega
                have p1 : (0 : Int) ≤ (m : Int) := by omega
                have p2 : (m : Int) < (RR.length : Int) := by omega
                have wm : IntKind.i64.wrap ((m : Int) - 1) = (m : Int) - 1 := by rw [IntKind.wrap_i64]; omega
                obtain ⟨g, cap, hv⟩ := own_someE O3.out (by omega)
                have hoa : ra = some ⟨g, 0, none⟩ := by simp only [Value.slice.injEq] at hv; exact hv.1
                subst hoa
                have CC := (EntsAt.own (own_after O3.out b6)).cells m hm
                rw [Nat.zero_add] at CC
                have RS : Hid ((RR.drop m).reverse = (RR.drop (m + 1)).reverse ++ [RR[m]]) := by show _ = _; rw [List.drop_eq_getElem_cons hm, List.reverse_cons]
                have RL2 : (RR.drop (m + 1)).reverse.length ≤ 100000 := by rw [List.length_reverse, List.length_drop]; omega
                generalize RR[m] = x at *
                generalize (RR.drop (m + 1)).reverse = tt at *
                obtain ⟨K, V, Q, D⟩ := x
                simp only at CC RS
                obtain ⟨c0, c1, c2, c3⟩ := CC
                have O6 := hide o6
                have CN : Hid (∀ W : World, ∀ B, B = W.heap.size → ∀ i u, (ecs [⟨K, V, Q, D⟩])[i]? = some u → (W.alloc (.cells #[str K, str V, .int .i64 Q, .bool D] 38)).cell? ((⟨B, 0, none⟩ : Addr).add i) = some u) := fun W B hB => ec_new W ⟨K, V, Q, D⟩ B hB
                have HL : Hid ((ecs [⟨K, V, Q, D⟩]).length = 1 * 4) := rfl
                have HO : Hid (∀ u ∈ ecs [⟨K, V, Q, D⟩], u.oneCell' = true) := ecs_one [⟨K, V, Q, D⟩]
                have Z1 : Hid (tt.length + 1 ≤ maxLen) := by show _ ≤ _; unfold maxLen; omega
                have Z2 : Hid ((tt.length + 1) * 48 ≤ 140737488355328) := by show _ ≤ _; omega
                have zw : W4.heap.size ≤ wr.heap.size := b6.size
                clear o6 hv
                go_wp2_with (at_builtin; refine wpList_append_lies _ rfl _ _ 23 rfl W4.heap.size 38 i0 _ 4 48 Try.underlying23 hi hz0 hz1 hz2 rfl (by decide) _ tt.length _ rfl (O6.out.alloc _) ⟨wr.heap.size, 0, none⟩ 1 1 (ecs [⟨K, V, Q, D⟩]) rfl HL.out (CN.out _ _ rfl) HO.out (by decide) Z1.out Z2.out (by simp; omega) _ rfl ?_; intro g5 cap5 w5 o5 h5 l5 lt5)
                refine ⟨⟨m, by omega, rfl, ?_, (b6.alloc zw _).grown h5 (by simp; omega) (fun k hk => (O6.out.lt k hk).1)⟩, by simp [intOf]⟩
                rw [RS.out, ecs_append, List.length_append]
                exact o5
              | zero =>
                have p0 : ¬ (((0 : Nat) : Int) - 1) ≥ 0 := by omega
                rw [List.drop_zero] at o6
                have O6 := hide (own_lift o6 B3.out.size)
                have B6 := B3.out.trans (b6.mono B3.out.size)
                clear o6 b6
                go_wp2_with (fail)
                go_ret
                refine ⟨_, rfl, ?_, B6⟩
                rw [FF.out]
                exact O6.out
end Go.Proofs.Ytbdgdigpnfpnhaa.Q
