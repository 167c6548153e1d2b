/-
  The document's own text of a value: new memory with the value's bytes, of every value that may be.
-/
import Derived.Test.YtbcbdaaaglkjhaaRefStamp
import Derived.Test.YtbcbdaaaglkjhaaRefCheck
import Derived.Test.YtbcbdaaaglkjhaaVal
namespace Go.Proofs.Ytbcbdaaaglkjhaa
open Go.RowKit

theorem Ext.lit0 (base : Nat) (w : World) (cs : Array Value) (l : List UInt8) (n : Nat) (hb : base ≤ w.heap.size) (hcs : cs.toList = bc l) (hn : n = l.length) (hm : n ≤ maxLen) :
    Ext base w (.slice none 0 0) (w.alloc (.cells cs 5)) (.slice (some ⟨w.heap.size, 0, none⟩) n n) l := by
  subst hn
  have hz : cs.size = l.length * 1 := by rw [← Array.length_toList, hcs, bc_length]; omega
  have h := World.ownsRow_lit (size := 1) (e := 5) (base := base) w cs l.length hb hm hz
  rw [hcs] at h
  exact ⟨h, World.grownBy_alloc w _ _, .inr ⟨w.heap.size, rfl, Nat.le_refl _⟩⟩

/-- The block of the call's own parameter is new memory, too. -/
theorem Ext.unalloc {base : Nat} {w w' : World} {o : Obj} {v : Value} {l : List UInt8} (h : Ext base (w.alloc o) (.slice none 0 0) w' v l) : Ext base w (.slice none 0 0) w' v l := by
  refine ⟨h.own, grownBy_trans (World.grownBy_alloc w o _) h.grown (.inl rfl), ?_⟩
  rcases h.lies with e | ⟨g, e, hg⟩
  · exact .inl e
  · exact .inr ⟨g, e, by simp at hg; omega⟩

theorem Ext.lit (w : World) (o : Obj) (cs : Array Value) (l : List UInt8) (n : Nat) (hcs : cs.toList = bc l) (hn : n = l.length) (hm : n ≤ maxLen) :
    Ext w.heap.size w (.slice none 0 0) ((w.alloc o).alloc (.cells cs 5)) (.slice (some ⟨w.heap.size + 1, 0, none⟩) n n) l := by
  have h := (Ext.lit0 w.heap.size (w.alloc o) cs l n (by simp) hcs hn hm).unalloc
  rwa [World.size_alloc] at h

/-- Bytes put behind bytes that the call owns. -/
theorem wpList_append_bytes (w : World) {ops : Array Oper} {rest : List Oper} {o : Oper} {a : Act} {Q : Exit → Act → World → Prop} (hg : o.guard = none) (s x : Operand)
    (hop : o.op = .call { callee := .builtin .append, args := #[s, x], argTypes := #[22, 22] })
    (base : Nat) (v : Value) (l m : List UInt8) (hs : a.eval s = v) (hown : w.ownsRow base 5 1 v l.length (bc l))
    (ad : Addr) (k c : Nat) (hx : a.eval x = .slice (some ad) k c) (hk : k = m.length) (hc : ∀ j u, (bc m)[j]? = some u → w.cell? (ad.add j) = some u) (hm : 0 < m.length)
    (hroom : l.length + m.length ≤ 140737488355328) (hbase : base ≤ w.heap.size)
    (h : ∀ g cap L w', Hid (L = (l ++ m).length) → Ext base w v w' (.slice (some ⟨g, 0, none⟩) L cap) (l ++ m) → g < w'.heap.size → wpList Try.prog ops Q rest (a.put o.dst (.slice (some ⟨g, 0, none⟩) L cap)) w') :
    wpList Try.prog ops Q (o :: rest) a w := by
  subst hk
  obtain ⟨i0, hi, hz0, hz1, hz2⟩ := info_parts Try.info5
  refine wpList_append_lies w hg s x 22 hop base 5 i0 (.int .u8 0) 1 1 Try.underlying22 hi hz0 hz1 hz2 rfl (by decide) v l.length (bc l) hs hown ad m.length c (bc m) hx (by rw [bc_length]; omega) hc (bc_one m) hm (by unfold maxLen; omega) (by omega) hbase _ rfl ?_
  intro g cap w' h1 h2 h3 h4
  have he : (l ++ m).length = l.length + m.length := List.length_append
  refine h g cap (l.length + m.length) w' he.symm ⟨by rw [he, bc_append]; exact h1, h2, ?_⟩ h4
  rcases h3 with h3 | h3
  · exact .inl h3.symm
  · exact .inr ⟨g, rfl, by omega⟩

/-- The bytes of a list that the call owns, where it lies. -/
theorem own_cells {w : World} {base g n cap : Nat} {m : List UInt8} (h : w.ownsRow base 5 1 (.slice (some ⟨g, 0, none⟩) n cap) n (bc m)) : ∀ j u, (bc m)[j]? = some u → w.cell? ((⟨g, 0, none⟩ : Addr).add j) = some u := by
  intro j u hu
  have hadd : (⟨g, 0, none⟩ : Addr).add j = ⟨g, j, none⟩ := by unfold Addr.add; split <;> simp_all
  have hj : j < n := by
    have := h.1
    rcases Nat.lt_or_ge j n with h | h
    · exact h
    · rw [List.getElem?_eq_none (by omega)] at hu; cases hu
  rw [hadd, h.cellAt j (by omega), hu]

theorem Ext.beside {base base2 : Nat} {a b c : World} {u v y : Value} {l m : List UInt8} (h : Ext base a u b v l) (k : Ext base2 b (.slice none 0 0) c y m) : Ext base a u c v l :=
  ⟨h.kept_own k, ⟨k.grown.os.trans h.grown.os, k.grown.tape.trans h.grown.tape, k.grown.output.trans h.grown.output, Nat.le_trans h.grown.size k.grown.size, fun i hi hne => (k.grown.block i (Nat.lt_of_lt_of_le hi h.grown.size) (by simp [Value.ownBlock])).trans (h.grown.block i hi hne)⟩, h.lies⟩

theorem refText_null (w : World) (n : Int) (t : ByteArray) :
    Calls Try.prog 54 #[.agg #[.int .u8 0, .int .i64 n, .string t]] w fun e w' => ∃ v', e = .returned v' ∧ Ext w.heap.size w (.slice none 0 0) w' v' (vtext 0 n t) := by
  go_enter Try.func54, Try.ntmps54
  go_wp2
  go_ret
  exact ⟨_, rfl, Ext.lit w _ _ [1] 1 rfl rfl (by decide)⟩

theorem refText_bool (w : World) (n : Nat) (t : ByteArray) (hn : n ≤ 1) :
    Calls Try.prog 54 #[.agg #[.int .u8 1, .int .i64 n, .string t]] w fun e w' => ∃ v', e = .returned v' ∧ Ext w.heap.size w (.slice none 0 0) w' v' (vtext 1 n t) := by
  go_enter Try.func54, Try.ntmps54
  go_wp2
  go_ret
  refine ⟨_, rfl, Ext.lit w _ _ (vtext 1 n t) 2 ?_ rfl (by decide)⟩
  have e : (n : Int) % 256 = n := by omega
  simp [vtext, bc, e]

set_option maxHeartbeats 800000 in
theorem refText_int (w : World) (n : Int) (t : ByteArray) (hn1 : -9223372036854775808 ≤ n) (hn2 : n ≤ 9223372036854775807) :
    Calls Try.prog 54 #[.agg #[.int .u8 2, .int .i64 n, .string t]] w fun e w' => ∃ v', e = .returned v' ∧ Ext w.heap.size w (.slice none 0 0) w' v' (vtext 2 n t) := by
  obtain ⟨i0, hi, hz0, hz1, hz2⟩ := info_parts Try.info5
  obtain ⟨X, hX⟩ : ∃ X : Nat, X = (n + 9223372036854775808).toNat := ⟨_, rfl⟩
  have HX : Hid (IntKind.u64.wrap (IntKind.u64.wrap n + 9223372036854775808) = (X : Int)) := by
    show _ = _
    rw [hX]
    simp only [IntKind.wrap, IntKind.bits, IntKind.signed]
    simp
    omega
  have HX2 : Hid (X = (n + 9223372036854775808).toNat) := hX
  clear hX hn1 hn2
  go_enter Try.func54, Try.ntmps54
  go_wp2_with (first
    | (go_at_call 57; rw [HX.out]; refine (eight_int _ _ (Int.natCast_nonneg X)).mono ?_; rintro e w1 ⟨g1, cap1, rfl, hc1, hx1⟩; rw [Int.toNat_natCast] at hx1; have R := (Ext.lit w (.cells #[.int .u8 2, .int .i64 n, .string t] 32) #[.int .u8 3] [3] 1 rfl rfl (by decide)).beside hx1; have c1 := own_cells (by have := hx1.own; rw [high_length] at this; exact this); have hb1 : w.heap.size ≤ w1.heap.size := R.size)
    | (at_builtin; refine wpList_append_bytes _ rfl _ _ rfl w.heap.size _ [3] (high X 8) rfl R.own ⟨g1, 0, none⟩ 8 cap1 rfl (high_length X 8).symm c1 (by rw [high_length]; decide) (by rw [high_length]; decide) hb1 ?_; intro g2 cap2 L2 w2 HL2 hx2 hl2; have R2 := R.trans hx2; clear R hx1 hx2 c1 hl2))
  go_ret
  have e : vtext 2 n t = [3] ++ high X 8 := by rw [show X = (n + 9223372036854775808).toNat from HX2.out]; rfl
  rw [e]
  exact ⟨_, rfl, R2⟩

set_option maxHeartbeats 800000 in
theorem refText_text (w : World) (n : Int) (s : ByteArray) (hsz : s.size ≤ 64) :
    Calls Try.prog 54 #[.agg #[.int .u8 3, .int .i64 n, .string s]] w fun e w' => ∃ v', e = .returned v' ∧ Ext w.heap.size w (.slice none 0 0) w' v' (vtext 3 n s) := by
  have hst := Ext.lit0 w.heap.size (w.alloc (.cells #[.int .u8 3, .int .i64 n, .string s] 32)) #[.int .u8 4] [4] 1 (by simp) rfl rfl (by decide)
  have hp : (w.alloc (.cells #[.int .u8 3, .int .i64 n, .string s] 32)).cell? ⟨w.heap.size, 2, none⟩ = some (.string s) := by simp [go_sem]
  have hp' : (w.alloc (.cells #[.int .u8 3, .int .i64 n, .string s] 32)).heap.size = w.heap.size + 1 := by simp
  go_enter Try.func54, Try.ntmps54
  go_wp2
  generalize hW : w.alloc (.cells #[.int .u8 3, .int .i64 n, .string s] 32) = W0 at *
  go_loopw [3, 4] (fun b i wr => ∃ (j : Nat) (m : List UInt8), j ≤ s.size ∧ i = .int .i64 j ∧ Ext w.heap.size W0 (.slice none 0 0) wr b m ∧ m = [4] ++ esc (s.data.toList.take j)) (fun _ i _ => s.size - (intOf i).toNat)
  case atStart => exact ⟨0, [4], Nat.zero_le _, rfl, by rw [hp'] at hst; exact hst, by simp [esc]⟩
  case round =>
    clear hst
    obtain ⟨j, m, hj, rfl, hext, hm⟩ := hrel
    have hl : m.length ≤ 1002000 := by
      have h1 := esc_length (s.data.toList.take j)
      have h2 : (s.data.toList.take j).length ≤ j := List.length_take_le _ _
      rw [hm]; simp only [List.length_append, List.length_singleton]; omega
    have HM : Hid (m = [4] ++ esc (s.data.toList.take j)) := hm
    clear hm
    have hs : w.heap.size + 1 ≤ wr.heap.size := by have := hext.size; omega
    have q0 : wr.cell? ⟨w.heap.size, 2, none⟩ = some (.string s) := hext.keeps hp (by simp [Value.ownBlock])
    by_cases hlt : j < s.size
    · have hts : Hid (s.data.toList.take (j + 1) = s.data.toList.take j ++ [s[j]]) := take_snoc s j hlt
      by_cases hzz : s[j] = 0
      · have hb : ((s[j].toNat : Int) == 0) = true := by rw [hzz]; rfl
        have HZ : Hid (s[j] = 0) := hzz
        clear hzz
        have rm1 : m.length + [s[j]].length ≤ 140737488355328 := by rw [List.length_singleton]; omega
        have rm2 : (m ++ [s[j]]).length + [(255 : UInt8)].length ≤ 140737488355328 := by rw [List.length_append, List.length_singleton, List.length_singleton]; omega
        go_wp2_with (first
          | (at_builtin; refine wpList_append_bytes _ rfl _ _ rfl w.heap.size _ m [s[j]] rfl (hext.own.alloc _) ⟨wr.heap.size, 0, none⟩ 1 1 rfl rfl (cell_one_new _ _ _) (Nat.succ_pos _) rm1 (by simp; omega) ?_; intro g1 cap1 L1 w1 HL1 hx1 hl1; have R := (hext.alloc _).trans hx1; have q1 : w1.cell? ⟨w.heap.size, 2, none⟩ = some (.string s) := R.keeps hp (by simp [Value.ownBlock]); have hs1 : w.heap.size + 1 ≤ w1.heap.size := (by have := R.size; omega); clear hext hx1)
          | (at_builtin; refine wpList_append_bytes _ rfl _ _ rfl w.heap.size _ (m ++ [s[j]]) [255] rfl (R.own.alloc _) ⟨w1.heap.size, 0, none⟩ 1 1 rfl rfl (cell_one_new _ _ _) (Nat.succ_pos _) rm2 (by simp; omega) ?_; intro g2 cap2 L2 w2 HL2 hx2 hl2; have R2 := (R.alloc _).trans hx2; clear R hx2))
        have HR : Hid (m ++ [s[j]] ++ [255] = [4] ++ esc (s.data.toList.take (j + 1))) := by
          show _ = _
          rw [HM.out, hts.out, esc_append, HZ.out, esc_zero]; simp
        go_roundw
        case rel => exact ⟨j + 1, _, by omega, by go_num, R2, HR.out⟩
        case measure => simp [intOf]; omega
      · have hb : ((s[j].toNat : Int) == 0) = false := by
          rw [beq_eq_false_iff_ne]; intro h; apply hzz; apply UInt8.toNat_inj.mp; simpa using h
        have HZ : Hid (¬ s[j] = 0) := hzz
        clear hzz
        have rm1 : m.length + [s[j]].length ≤ 140737488355328 := by rw [List.length_singleton]; omega
        go_wp2_with (at_builtin; refine wpList_append_bytes _ rfl _ _ rfl w.heap.size _ m [s[j]] rfl (hext.own.alloc _) ⟨wr.heap.size, 0, none⟩ 1 1 rfl rfl (cell_one_new _ _ _) (Nat.succ_pos _) rm1 (by simp; omega) ?_; intro g1 cap1 L1 w1 HL1 hx1 hl1; have R := (hext.alloc _).trans hx1; have q1 : w1.cell? ⟨w.heap.size, 2, none⟩ = some (.string s) := R.keeps hp (by simp [Value.ownBlock]); clear hext hx1)
        have HR : Hid (m ++ [s[j]] = [4] ++ esc (s.data.toList.take (j + 1))) := by
          show _ = _
          rw [HM.out, hts.out, esc_append, esc_one _ HZ.out]; simp
        go_roundw
        case rel => exact ⟨j + 1, _, by omega, by go_num, R, HR.out⟩
        case measure => simp [intOf]; omega
    · have rm1 : m.length + [(0 : UInt8), 1].length ≤ 140737488355328 := by simp; omega
      have nw : ∀ j u, (bc [0, 1])[j]? = some u → (wr.alloc (.cells #[.int .u8 0, .int .u8 1] 5)).cell? ((⟨wr.heap.size, 0, none⟩ : Addr).add j) = some u := World.news_of_block (cs := #[.int .u8 0, .int .u8 1]) (heap_alloc_new _ _)
      go_wp2_with (at_builtin; refine wpList_append_bytes _ rfl _ _ rfl w.heap.size _ m [0, 1] rfl (hext.own.alloc _) ⟨wr.heap.size, 0, none⟩ 2 2 rfl rfl nw (by decide) rm1 (by simp; omega) ?_; intro g1 cap1 L1 w1 HL1 hx1 hl1; have R := (hext.alloc _).trans hx1; clear hext hx1)
      have e : j = s.size := by omega
      have HR : Hid (m ++ [0, 1] = vtext 3 n s) := by
        show _ = _
        rw [HM.out, List.take_of_length_le (by simp; omega)]
        simp [vtext]
      rw [HR.out] at R
      go_ret
      subst hW
      exact ⟨_, rfl, R.unalloc⟩

/-- Of a value that may be. -/
theorem refText_any (w : World) (k n : Int) (t : ByteArray) (hn1 : -9223372036854775808 ≤ n) (hn2 : n ≤ 9223372036854775807) (hmay : mayV k n t = true) :
    Calls Try.prog 54 #[.agg #[.int .u8 k, .int .i64 n, .string t]] w fun e w' => ∃ v', e = .returned v' ∧ Ext w.heap.size w (.slice none 0 0) w' v' (vtext k n t) := by
  simp only [mayV, Bool.or_eq_true, Bool.and_eq_true, beq_iff_eq, decide_eq_true_eq] at hmay
  rcases hmay with ((⟨⟨rfl, _⟩, _⟩ | ⟨⟨rfl, hn⟩, _⟩) | ⟨rfl, _⟩) | ⟨⟨rfl, _⟩, ht⟩
  · exact refText_null w n t
  · obtain ⟨m, rfl⟩ : ∃ m : Nat, n = m := ⟨n.toNat, by omega⟩
    exact refText_bool w m t (by omega)
  · exact refText_int w n t hn1 hn2
  · exact refText_text w n t ht
end Go.Proofs.Ytbcbdaaaglkjhaa
