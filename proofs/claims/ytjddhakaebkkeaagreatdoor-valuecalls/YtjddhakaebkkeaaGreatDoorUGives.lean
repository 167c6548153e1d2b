/-
  Kinds: a list of them, whether one is no kind, which kind is asked for, and what Gives answers of any list.
-/
import Derived.Test.YtjddhakaebkkeaaGreatDoorUTake
namespace Go.Proofs.YtjddhakaebkkeaaGreatDoor
open Go.RowKit
attribute [local go_sem ↓] Go.wp_at_zero Go.wp_at_succ

/-- Where the kinds of a slice lie. -/
def KindsAt (w : World) (b off : Nat) (l : List Int) : Prop := ∀ j (h : j < l.length), w.cell? ⟨b, off + j, none⟩ = some (.int .u8 l[j])
structure KindsIn (w : World) (v : Value) (l : List Int) : Prop where
  form : ∃ a cap, v = .slice a l.length cap ∧ (l ≠ [] → ∃ b off, a = some ⟨b, off, none⟩ ∧ KindsAt w b off l)
  len : l.length ≤ 1099511627776000
theorem KindsAt.later {w w' : World} {b off : Nat} {l : List Int} (h : KindsAt w b off l) (hb : Below w.heap.size w w') : KindsAt w' b off l := fun j hj =>
  (hb.cell (World.block_lt_of_cell? w _ (h j hj))).trans (h j hj)
theorem KindsIn.later {w w' : World} {v : Value} {l : List Int} (h : KindsIn w v l) (hb : Below w.heap.size w w') : KindsIn w' v l := by
  obtain ⟨⟨a, cap, hv, hf⟩, hlen⟩ := h
  exact ⟨⟨a, cap, hv, fun h0 => by obtain ⟨b, off, ha, hat⟩ := hf h0; exact ⟨b, off, ha, hat.later hb⟩⟩, hlen⟩

theorem still {f : FuncId} {args : Array Value} {w : World} {v : Ending} (c : Calls Tryz.prog f args w fun e w' => e = v ∧ w' = w) {K : Ending → World → Prop} (h : K v w) : Calls Tryz.prog f args w K := c.mono (by rintro e w' ⟨rfl, rfl⟩; exact h)

theorem any_take {α : Type} (p : α → Bool) (l : List α) (j : Nat) (h : j < l.length) (h0 : (l.take j).any p = false) : (l.take (j + 1)).any p = p l[j] := by
  rw [List.take_succ_eq_append_getElem h, List.any_append, h0]; simp
theorem any_there {α : Type} (p : α → Bool) (l : List α) (j : Nat) (h : j < l.length) (h1 : p l[j] = true) : l.any p = true := List.any_eq_true.mpr ⟨l[j], List.getElem_mem h, h1⟩

set_option maxHeartbeats 1600000 in
theorem idxK_any (w : World) (a : Option Addr) (cap : Nat) (l : List Int) (hl : l ≠ [] → ∃ b off, a = some ⟨b, off, none⟩ ∧ KindsAt w b off l) (hn : l.length ≤ 1099511627776000) :
    Calls Tryz.prog 61 #[.slice a l.length cap, .func (.func 37) #[] #[]] w fun e w' => ∃ r : Int, e = .returned (.int .i64 r) ∧ decide (0 ≤ r) = l.any badK ∧ w' = w := by
  have HL : Hid (l ≠ [] → ∃ b off, a = some ⟨b, off, none⟩ ∧ KindsAt w b off l) := hl
  clear hl
  go_enter Tryz.func61, Tryz.ntmps61
  go_wp2
  go_loopw [5, 8] (fun _ i wr => ∃ j : Nat, j ≤ l.length ∧ i = .int .i64 j ∧ wr = w ∧ (l.take j).any badK = false) (fun _ i _ => l.length - (intOf i).toNat)
  case atStart => exact ⟨0, Nat.zero_le _, rfl, rfl, by simp⟩
  case round =>
    obtain ⟨j, hj, rfl, rfl, hc⟩ := hrel
    have HC : Hid ((l.take j).any badK = false) := hc
    clear hc
    by_cases hlt : j < l.length
    · obtain ⟨b, off, rfl, hv⟩ := HL.out (by intro e; rw [e] at hlt; simp at hlt)
      have c0 := hv j hlt
      obtain ⟨k, hk⟩ : ∃ k, k = l[j] := ⟨_, rfl⟩
      rw [← hk] at c0
      have HK : Hid (k = l[j]) := hk
      clear hk hv
      cases hz : badK k
      · have HZ : Hid ((l.take (j + 1)).any badK = false) := by show _ = _; rw [any_take _ _ _ hlt HC.out, ← HK.out, hz]
        go_wp2_with (go_at_call 37; refine still (isNoKind_any _ _) ?_)
        go_roundw
        case rel => exact ⟨j + 1, by omega, by go_num, by simp, HZ.out⟩
        case measure => simp [intOf]; omega
      · have HZ : Hid (l.any badK = true) := any_there _ _ _ hlt (by rw [← HK.out, hz])
        go_wp2_with (go_at_call 37; refine still (isNoKind_any _ _) ?_)
        go_ret
        exact ⟨_, rfl, by rw [HZ.out]; simp, rfl⟩
    · have HZ : Hid (l.any badK = false) := by
        show _ = _
        have h := HC.out
        rwa [List.take_of_length_le (by omega)] at h
      go_wp2
      go_ret
      exact ⟨_, rfl, by rw [HZ.out]; simp, rfl⟩

theorem hasK_any (w : World) (v : Value) (l : List Int) (h : KindsIn w v l) :
    Calls Tryz.prog 36 #[v, .func (.func 37) #[] #[]] w fun e w' => e = .returned (.bool (l.any badK)) ∧ w' = w := by
  obtain ⟨⟨a, cap, rfl, hf⟩, hlen⟩ := h
  have IX := hide (idxK_any w a cap l hf hlen)
  clear hf
  go_enter Tryz.func36, Tryz.ntmps36
  go_wp2_with (go_at_call 61; refine IX.out.mono ?_; rintro e w' ⟨r, rfl, hr, rfl⟩; have HR := hide hr; clear hr)
  go_ret
  exact ⟨by rw [← HR.out]; rfl, rfl⟩

theorem firstK_take (l : List Int) (j : Nat) (h : j < l.length) (h0 : firstK l = firstK (l.drop j)) : (l[j] = 0 → firstK l = firstK (l.drop (j + 1))) ∧ (¬ l[j] = 0 → firstK l = l[j]) := by
  rw [List.drop_eq_getElem_cons h, firstK] at h0
  exact ⟨fun e => by rw [h0, if_pos e], fun e => by rw [h0, if_neg e]⟩

/-- The operations by what they ask for. -/
theorem op_ways (op : Int) : (op = 3 ∨ op = 4 ∨ op = 5 ∨ op = 6 ∨ op = 7 ∨ op = 18) ∨ op = 8 ∨ (op = 15 ∨ op = 16 ∨ op = 17) ∨ ((op == 3) = false ∧ (op == 4) = false ∧ (op == 5) = false ∧ (op == 6) = false ∧ (op == 7) = false ∧ (op == 18) = false ∧ (op == 8) = false ∧ (op == 15) = false ∧ (op == 16) = false ∧ (op == 17) = false) := by
  simp only [beq_eq_false_iff_ne]; omega

set_option maxHeartbeats 1600000 in
theorem asks_any (w : World) (op : Int) (v : Value) (l : List Int) (h : KindsIn w v l) :
    Calls Tryz.prog 38 #[.int .u8 op, v] w fun e w' => e = .returned (.int .u8 (asksK op l)) ∧ w' = w := by
  obtain ⟨⟨a, cap, rfl, hf⟩, hlen⟩ := h
  have HL : Hid (l ≠ [] → ∃ b off, a = some ⟨b, off, none⟩ ∧ KindsAt w b off l) := hf
  clear hf
  rcases op_ways op with h | h | h | ⟨q1, q2, q3, q4, q5, q6, q7, q8, q9, q10⟩
  · rcases h with rfl | rfl | rfl | rfl | rfl | rfl
    all_goals
      go_enter Tryz.func38, Tryz.ntmps38
      go_wp2
      go_ret
      exact ⟨rfl, rfl⟩
  · subst h
    go_enter Tryz.func38, Tryz.ntmps38
    go_wp2
    go_ret
    exact ⟨rfl, rfl⟩
  · rcases h with rfl | rfl | rfl
    all_goals
      go_enter Tryz.func38, Tryz.ntmps38
      go_wp2
      go_ret
      exact ⟨rfl, rfl⟩
  · have HA : Hid (asksK op l = firstK l) := by
      show _ = _
      simp only [beq_eq_false_iff_ne] at q1 q2 q3 q4 q5 q6 q7 q8 q9 q10
      have h1 : numOp op = false := by unfold numOp; simp; omega
      have h2 : logOp op = false := by unfold logOp; simp; omega
      unfold asksK
      rw [h1, h2, if_neg (by simp), if_neg q7, if_neg (by simp)]
    go_enter Tryz.func38, Tryz.ntmps38
    go_wp2
    go_loopw [6, 23] (fun _ i wr => ∃ j : Nat, j ≤ l.length ∧ i = .int .i64 j ∧ wr = w ∧ firstK l = firstK (l.drop j)) (fun _ i _ => l.length - (intOf i).toNat)
    case atStart => exact ⟨0, Nat.zero_le _, rfl, rfl, rfl⟩
    case round =>
      obtain ⟨j, hj, rfl, rfl, hc⟩ := hrel
      have HC := hide hc
      clear hc
      by_cases hlt : j < l.length
      · obtain ⟨b, off, rfl, hv⟩ := HL.out (by intro e; rw [e] at hlt; simp at hlt)
        have c0 := hv j hlt
        have HF := hide (firstK_take l j hlt HC.out)
        obtain ⟨k, hk⟩ : ∃ k, k = l[j] := ⟨_, rfl⟩
        rw [← hk] at c0 HF
        clear hk hv
        by_cases hz : k = 0
        · have HZ := hide (HF.out.1 hz)
          subst hz
          go_wp2
          go_roundw
          case rel => exact ⟨j + 1, by omega, by go_num, by simp, HZ.out⟩
          case measure => simp [intOf]; omega
        · have HZ := hide (HF.out.2 hz)
          have hzb : (k != 0) = true := by simpa using hz
          clear hz
          go_wp2
          go_ret
          exact ⟨by rw [HA.out, HZ.out]; rfl, rfl⟩
      · have HZ : Hid (firstK l = 0) := by
          show _ = _
          rw [HC.out, List.drop_eq_nil_of_le (by omega)]; rfl
        go_wp2
        go_ret
        exact ⟨by rw [HA.out, HZ.out]; rfl, rfl⟩

theorem oddK_ways (x k : Int) : (k = 0 ∧ oddK x k = false) ∨ ((k != 0) = true ∧ (k != x) = false ∧ oddK x k = false) ∨ ((k != 0) = true ∧ (k != x) = true ∧ oddK x k = true) := by
  by_cases h : k = 0
  · exact .inl ⟨h, by simp [oddK, h]⟩
  · by_cases h2 : k = x
    · exact .inr (.inl ⟨by simpa using h, by simpa using h2, by simp [oddK, h2]⟩)
    · exact .inr (.inr ⟨by simpa using h, by simpa using h2, by simp [oddK, h, h2]⟩)

set_option maxHeartbeats 1600000 in
theorem gives_any (w : World) (op : Int) (v : Value) (l : List Int) (h : KindsIn w v l) :
    Calls Tryz.prog 8 #[.int .u8 op, v] w fun e w' => e = .returned (.tuple #[.int .u8 (givesK op l), .int .i64 (givesE op l)]) ∧ w' = w := by
  have hh := h
  obtain ⟨⟨a, cap, rfl, hf⟩, hlen⟩ := h
  have HL : Hid (l ≠ [] → ∃ b off, a = some ⟨b, off, none⟩ ∧ KindsAt w b off l) := hf
  clear hf
  obtain ⟨J, hJ⟩ : ∃ J, J = justB op l.length := ⟨_, rfl⟩
  obtain ⟨B, hB⟩ : ∃ B, B = l.any badK := ⟨_, rfl⟩
  obtain ⟨X, hX⟩ : ∃ X, X = asksK op l := ⟨_, rfl⟩
  have JU : Hid (∀ wx, Calls Tryz.prog 35 #[.int .u8 op, .int .i64 l.length] wx fun e w' => e = .returned (.bool J) ∧ w' = wx) := fun wx => by rw [hJ]; exact just_any wx op l.length hlen
  have HA : Hid (Calls Tryz.prog 36 #[.slice a l.length cap, .func (.func 37) #[] #[]] w fun e w' => e = .returned (.bool B) ∧ w' = w) := by rw [hB]; exact hasK_any w _ l hh
  have AK : Hid (Calls Tryz.prog 38 #[.int .u8 op, .slice a l.length cap] w fun e w' => e = .returned (.int .u8 X) ∧ w' = w) := by rw [hX]; exact asks_any w op _ l hh
  have HE : Hid (givesE op l = if J && !B then (if l.any (oddK X) then 220 else 0) else 2) := by show _ = _; rw [hJ, hB, hX]; rfl
  have HK : Hid (givesK op l = if givesE op l = 0 then answK op else 0) := rfl
  clear hJ hB hX hh
  cases J
  · have G : Hid (givesE op l = 2 ∧ givesK op l = 0) := ⟨by rw [HE.out]; rfl, by rw [HK.out, HE.out]; rfl⟩
    go_enter Tryz.func8, Tryz.ntmps8
    go_wp2_with (go_at_call 35; refine still (JU.out _) ?_)
    go_ret2
    exact ⟨by rw [G.out.1, G.out.2]; rfl, rfl⟩
  · cases B
    · go_enter Tryz.func8, Tryz.ntmps8
      go_wp2_with (first
        | (go_at_call 35; refine still (JU.out _) ?_)
        | (go_at_call 36; refine still HA.out ?_)
        | (go_at_call 38; refine still AK.out ?_))
      go_loopw [8, 23] (fun _ i wr => ∃ j : Nat, j ≤ l.length ∧ i = .int .i64 j ∧ wr = w ∧ (l.take j).any (oddK X) = false) (fun _ i _ => l.length - (intOf i).toNat)
      case atStart => exact ⟨0, Nat.zero_le _, rfl, rfl, by simp⟩
      case round =>
        obtain ⟨j, hj, rfl, rfl, hc⟩ := hrel
        have HC := hide hc
        clear hc
        by_cases hlt : j < l.length
        · obtain ⟨b, off, rfl, hv⟩ := HL.out (by intro e; rw [e] at hlt; simp at hlt)
          have c0 := hv j hlt
          obtain ⟨k, hk⟩ : ∃ k, k = l[j] := ⟨_, rfl⟩
          rw [← hk] at c0
          have HQ : Hid (k = l[j]) := hk
          clear hk hv
          rcases oddK_ways X k with ⟨rfl, q⟩ | ⟨k1, k2, q⟩ | ⟨k1, k2, q⟩
          · have HZ : Hid ((l.take (j + 1)).any (oddK X) = false) := by show _ = _; rw [any_take _ _ _ hlt HC.out, ← HQ.out, q]
            clear q
            go_wp2
            go_roundw
            case rel => exact ⟨j + 1, by omega, by go_num, by simp, HZ.out⟩
            case measure => simp [intOf]; omega
          · have HZ : Hid ((l.take (j + 1)).any (oddK X) = false) := by show _ = _; rw [any_take _ _ _ hlt HC.out, ← HQ.out, q]
            clear q
            go_wp2
            go_roundw
            case rel => exact ⟨j + 1, by omega, by go_num, by simp, HZ.out⟩
            case measure => simp [intOf]; omega
          · have HZ : Hid (l.any (oddK X) = true) := any_there _ _ _ hlt (by rw [← HQ.out, q])
            have G : Hid (givesE op l = 220 ∧ givesK op l = 0) := ⟨by rw [HE.out, HZ.out]; rfl, by rw [HK.out, HE.out, HZ.out]; rfl⟩
            clear q
            go_wp2
            go_ret2
            exact ⟨by rw [G.out.1, G.out.2]; rfl, rfl⟩
        · have HZ : Hid (l.any (oddK X) = false) := by
            show _ = _
            have h := HC.out
            rwa [List.take_of_length_le (by omega)] at h
          have G : Hid (givesE op l = 0 ∧ givesK op l = answK op) := ⟨by rw [HE.out, HZ.out]; rfl, by rw [HK.out, HE.out, HZ.out]; rfl⟩
          go_wp2_with (go_at_call 39; refine still (answers_any _ _) ?_)
          go_ret2
          exact ⟨by rw [G.out.1, G.out.2]; rfl, rfl⟩
    · have G : Hid (givesE op l = 2 ∧ givesK op l = 0) := ⟨by rw [HE.out]; rfl, by rw [HK.out, HE.out]; rfl⟩
      go_enter Tryz.func8, Tryz.ntmps8
      go_wp2_with (first
        | (go_at_call 35; refine still (JU.out _) ?_)
        | (go_at_call 36; refine still HA.out ?_))
      go_ret2
      exact ⟨by rw [G.out.1, G.out.2]; rfl, rfl⟩
end Go.Proofs.YtjddhakaebkkeaaGreatDoor
