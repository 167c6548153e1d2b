/-
  Lists of texts that are lent, and whether they are as they were: the calls of the kit.
-/
import Derived.Test.YtanpnibabnedbaaBmTexts
import Derived.Sort.Walk0
namespace Go.Proofs.Ytanpnibabnedbaa
open Go.RowKit

def scs (l : List ByteArray) : List Value := l.map Value.string
theorem scs_length (l : List ByteArray) : (scs l).length = l.length := by simp [scs]
theorem scs_one (l : List ByteArray) : ∀ u ∈ scs l, u.oneCell' = true := by
  intro u hu
  simp only [scs, List.mem_map] at hu
  obtain ⟨c, _, rfl⟩ := hu
  rfl
theorem Try.infoS : (Try.prog.info? 9).map (fun i => (i.zero, i.size, i.bytes)) = some (some (.string ⟨#[]⟩), 1, 16) := by kernel_rfl

theorem texts_of_own {w : World} {base g n cap : Nat} {l : List ByteArray} (h : w.ownsRow base 9 1 (.slice (some ⟨g, 0, none⟩) n cap) n (scs l)) (hn : n = l.length) : TextsIn w (.slice (some ⟨g, 0, none⟩) n cap) l := by
  have h' := h
  rcases h.2 with ⟨e, _⟩ | ⟨g', cap', cur, e, _, _, h1, h2, _⟩
  · cases e
  · simp only [Value.slice.injEq] at e
    obtain ⟨e1, _, rfl⟩ := e
    unfold maxLen at h2
    refine ⟨_, cap, by rw [hn], by omega, by omega, (fun e => by cases e), fun _ => ⟨g, 0, rfl, fun j hj => ?_⟩⟩
    rw [Nat.zero_add, h'.cellAt j (by omega)]
    simp [scs, hj]

theorem own_laterS {w w' : World} {base n : Nat} {v : Value} {xs : List Value} (h : w.ownsRow base 9 1 v n xs) (hb : Below w.heap.size w w') : w'.ownsRow base 9 1 v n xs :=
  h.kept (w' := w') (row := none) ⟨hb.os, hb.tape, hb.output, hb.size, fun k hk _ => hb.block k hk⟩ (none_kept _)

/-- Texts put behind a list of texts that the call owns, none of them, too. -/
theorem wpList_app_texts (w : World) {ops : Array Oper} {rest : List Oper} {o : Oper} {a : Act} {Q : Exit → Act → World → Prop} (hg : o.guard = none) (s x : Operand)
    (hop : o.op = .call { callee := .builtin .append, args := #[s, x], argTypes := #[26, 26] })
    (base g cap : Nat) (A B : List ByteArray) (n k c : Nat) (hn : n = A.length) (hk : k = B.length) (hs : a.eval s = .slice (some ⟨g, 0, none⟩) n cap) (hown : w.ownsRow base 9 1 (.slice (some ⟨g, 0, none⟩) n cap) n (scs A))
    (ao : Option Addr) (hx : a.eval x = .slice ao k c) (hin : TextsIn w (.slice ao k c) B) (hroom : n + k ≤ 1000000) (hbase : base ≤ w.heap.size)
    (h : ∀ g' cap' w', w'.ownsRow base 9 1 (.slice (some ⟨g', 0, none⟩) (n + k) cap') (n + k) (scs (A ++ B)) → w.grownBy w' (some g) → base ≤ g' → wpList Try.prog ops Q rest (a.put o.dst (.slice (some ⟨g', 0, none⟩) (n + k) cap')) w') :
    wpList Try.prog ops Q (o :: rest) a w := by
  obtain ⟨i0, hi, hz0, hz1, hz2⟩ := info_parts Try.infoS
  have hic : scs (A ++ B) = scs A ++ scs B := by simp [scs]
  obtain ⟨a', c', e', t1, t2, t3, hf⟩ := hin
  simp only [Value.slice.injEq] at e'
  obtain ⟨rfl, _, rfl⟩ := e'
  by_cases hb0 : B = []
  · subst hb0
    subst hk
    have hnc : n ≤ cap := by
      rcases hown.2 with ⟨e, _⟩ | ⟨g', cap', cur, e, _, _, hnc, _⟩
      · cases e
      · simp only [Value.slice.injEq] at e; omega
    refine wpList_append_fits_any w hg s x 26 hop base 9 i0 1 Try.underlying26 hi hz1 g n cap (scs A) hs hown ao 0 c [] hx rfl (fun e => ⟨rfl, t3 e⟩) (fun ad _ j u hj => by simp at hj) (by simp) (by omega) ?_
    intro w' h1 h2
    refine h g cap w' ?_ h2 (hown.lt g rfl).1
    rw [hic]
    exact h1
  · obtain ⟨b, off, rfl, hat⟩ := hf hb0
    refine wpList_append_lies w hg s x 26 hop base 9 i0 _ 1 16 Try.underlying26 hi hz0 hz1 hz2 rfl (by decide) _ n (scs A) hs hown ⟨b, off, none⟩ k c (scs B) hx (by rw [scs_length, hk]; omega) (fun j u hu => ?_) (scs_one B) (by rw [hk]; exact List.length_pos_iff.2 hb0) (by unfold maxLen; omega) (by omega) hbase w.heap.size rfl ?_
    · have hj : j < B.length := by
        rcases Nat.lt_or_ge j B.length with h | h
        · exact h
        · rw [List.getElem?_eq_none (by rw [scs_length]; exact h)] at hu; cases hu
      have hadd : (⟨b, off, none⟩ : Addr).add j = ⟨b, off + j, none⟩ := by unfold Addr.add; split <;> simp_all
      rw [hadd, hat j hj]
      simpa [scs, hj] using hu
    · intro g' cap' w' h1 h2 h3 h4
      refine h g' cap' w' ?_ h2 ?_
      · rw [hic]
        exact h1
      · exact (h1.lt g' rfl).1

/-- What is put behind. -/
def behindS : ByteArray := ⟨#[98, 101, 104, 105, 110, 100]⟩
def lentS (l : List ByteArray) : List ByteArray := l ++ List.replicate 3 behindS
theorem lentS_length (l : List ByteArray) : (lentS l).length = l.length + 3 := by simp [lentS]

theorem texts_one (w : World) (t : TypeId) (fr : Nat × Nat) (s : ByteArray) (B : Nat) (hB : B = w.heap.size) : TextsIn (w.alloc (.cells #[.string s] t fr)) (.slice (some ⟨B, 0, none⟩) 1 1) [s] := by
  subst hB
  refine ⟨_, 1, rfl, Nat.le_refl _, by decide, (fun e => by cases e), fun _ => ⟨w.heap.size, 0, rfl, fun j hj => ?_⟩⟩
  obtain rfl : j = 0 := by simp at hj; omega
  rw [cell_of_row _ w.heap.size (0 + 0) _ _ _ (heap_alloc_new w _)]
  rfl

set_option maxHeartbeats 1600000 in
theorem lentTexts_any (w : World) (a : Option Addr) (n cap : Nat) (l : List ByteArray) (hn : n = l.length) (h : TextsIn w (.slice a n cap) l) (hl : n ≤ 1000) :
    Calls Try.prog 13 #[.slice a n cap] w fun e w' => ∃ g cp, e = .returned (.slice (some ⟨g, 0, none⟩) (n + 3) cp) ∧ w'.ownsRow w.heap.size 9 1 (.slice (some ⟨g, 0, none⟩) (n + 3) cp) (n + 3) (scs (lentS l)) ∧ Below w.heap.size w w' := by
  have L0 : (w.alloc (.cells #[] 9)).ownsRow w.heap.size 9 1 (.slice (some ⟨w.heap.size, 0, none⟩) 0 0) 0 (scs []) := World.ownsRow_lit (size := 1) (e := 9) (base := w.heap.size) w #[] 0 (Nat.le_refl _) (by decide) rfl
  have K0 : Below w.heap.size w (w.alloc (.cells #[] 9)) := (Below.refl _ _).alloc (Nat.le_refl _) _
  have V0 := h.later K0
  have HN : Hid (n = l.length) := hn
  clear h hn
  go_enter Try.func13, Try.ntmps13
  go_wp2_with (at_builtin; refine wpList_app_texts _ rfl _ _ rfl w.heap.size w.heap.size 0 [] l 0 n cap rfl HN.out rfl L0 a rfl V0 (by omega) K0.size ?_; intro g1 cap1 w1 o1 g1' hg1)
  have B1 : Below w.heap.size w w1 := K0.grown g1' K0.size (fun k e => by have := Option.some.inj e; omega)
  rw [Nat.zero_add] at o1
  clear L0 K0 V0 g1'
  go_loopw [3, 4] (fun x i wr => ∃ (j g cp L : Nat), j ≤ 3 ∧ i = .int .i64 j ∧ x = .slice (some ⟨g, 0, none⟩) L cp ∧ Hid (L = n + j) ∧ wr.ownsRow w.heap.size 9 1 (.slice (some ⟨g, 0, none⟩) L cp) L (scs (l ++ List.replicate j behindS)) ∧ Below w.heap.size w wr) (fun _ i _ => 3 - (intOf i).toNat)
  case atStart => exact ⟨0, g1, cap1, n, by omega, rfl, rfl, rfl, by simpa using o1, B1⟩
  case round =>
    clear o1 B1
    obtain ⟨j, g, cp, L, hj, rfl, rfl, HL, ho, bx⟩ := hrel
    by_cases hlt : j < 3
    · have E : Hid (l ++ List.replicate j behindS ++ [behindS] = l ++ List.replicate (j + 1) behindS) := by show _ = _; rw [List.append_assoc, ← List.replicate_succ']
      have LA : Hid (L = (l ++ List.replicate j behindS).length) := by show _ = _; rw [List.length_append, List.length_replicate, ← HN.out]; exact HL.out
      have hbb : ∀ o, w.heap.size ≤ (wr.alloc o).heap.size := fun o => by have := bx.size; simp; omega
      have HR : Hid (L + 1 ≤ 1000000) := by show _ ≤ _; have := HL.out; omega
      go_wp2_with (at_builtin; refine wpList_app_texts _ rfl _ _ rfl w.heap.size g cp _ [behindS] L 1 1 LA.out rfl rfl (ho.alloc _) _ rfl (texts_one wr _ _ _ _ rfl) HR.out (hbb _) ?_; intro g2 cap2 w2 o2 g2' hg2)
      rw [E.out] at o2
      exact ⟨⟨j + 1, g2, cap2, L + 1, by omega, by go_num, rfl, (by show _ = _; have := HL.out; omega), o2, (bx.alloc bx.size _).grown g2' (hbb _) (fun k e => by have := (ho.lt g rfl).1; have := Option.some.inj e; omega)⟩, by simp [intOf]; omega⟩
    · obtain rfl : j = 3 := by omega
      go_wp2_with (fail)
      go_ret
      have e := HL.out
      subst e
      exact ⟨g, cp, rfl, ho, bx⟩

set_option maxHeartbeats 1000000 in
/-- Two lists of texts that are the same. -/
theorem sameTexts_any (w : World) (a a' : Option Addr) (n c c' : Nat) (l : List ByteArray) (hn : n = l.length) (h : TextsIn w (.slice a n c) l) (h' : TextsIn w (.slice a' n c') l) (_hl : n ≤ 1000000) :
    Calls Try.prog 30 #[.slice a n c, .slice a' n c'] w fun e w' => e = .returned (.bool true) ∧ Below w.heap.size w w' := by
  have HN : Hid (n = l.length) := hn
  obtain ⟨b1, c1, e1, _, _, _, hf⟩ := h
  obtain ⟨b2, c2, e2, _, _, _, hf'⟩ := h'
  simp only [Value.slice.injEq] at e1 e2
  obtain ⟨rfl, _, rfl⟩ := e1
  obtain ⟨rfl, _, rfl⟩ := e2
  have HF : Hid (l ≠ [] → ∃ b off, a = some ⟨b, off, none⟩ ∧ ∀ j (h : j < l.length), w.cell? ⟨b, off + j, none⟩ = some (.string l[j])) := hf
  have HF' : Hid (l ≠ [] → ∃ b off, a' = some ⟨b, off, none⟩ ∧ ∀ j (h : j < l.length), w.cell? ⟨b, off + j, none⟩ = some (.string l[j])) := hf'
  have iN : ((n : Int) != (n : Int)) = false := by simp
  clear hf hf' hn
  go_enter Try.func30, Try.ntmps30
  go_wp2_with (fail)
  go_loopw [5] (fun i wr => Below w.heap.size w wr ∧ ∃ j : Nat, j ≤ n ∧ i = .int .i64 j) (fun i _ => n - (intOf i).toNat)
  case atStart => exact ⟨Below.refl _ _, 0, Nat.zero_le _, rfl⟩
  case round =>
    obtain ⟨bx, j, hj, rfl⟩ := hrel
    clear iN
    by_cases hlt : j < n
    · have jl : j < l.length := by have := HN.out; omega
      obtain ⟨b, off, rfl, hat⟩ := HF.out (fun h0 => by rw [h0] at jl; cases jl)
      obtain ⟨b', off', rfl, hat'⟩ := HF'.out (fun h0 => by rw [h0] at jl; cases jl)
      have c1 := keepC bx (hat j jl)
      have c2 := keepC bx (hat' j jl)
      obtain ⟨x, hx⟩ : ∃ x, x = l[j] := ⟨_, rfl⟩
      rw [← hx] at c1 c2
      have jn : (j : Int) < (n : Int) := by omega
      clear hat hat' hx
      go_wp2_with (fail)
      go_quiet (fail)
      go_wp2_with (fail)
      exact ⟨⟨below_drewN bx _, j + 1, by omega, by go_num⟩, by simp [intOf]; omega⟩
    · have jn : ¬ (j : Int) < (n : Int) := by omega
      go_wp2_with (fail)
      go_ret
      exact ⟨rfl, bx⟩

theorem hideT {p : Prop} (h : p) : Hid p := h
theorem keptTexts_any (w : World) (v : Value) (a : Option Addr) (n cap : Nat) (l : List ByteArray) (hn : n = l.length) (g cp : Nat) (hv : v = .slice (some ⟨g, 0, none⟩) (n + 3) cp) (h' : TextsIn w v (lentS l)) (h : TextsIn w (.slice a n cap) l) (hl : n ≤ 1000) :
    Calls Try.prog 22 #[v, .slice a n cap] w fun e w' => e = .returned (.bool true) ∧ Below w.heap.size w w' := by
  subst hv
  have LT := hideT (lentTexts_any w a n cap l hn h hl)
  have ST : Hid (∀ wx g' cp', Below w.heap.size w wx → TextsIn wx (.slice (some ⟨g', 0, none⟩) (n + 3) cp') (lentS l) → Calls Try.prog 30 #[.slice (some ⟨g, 0, none⟩) (n + 3) cp, .slice (some ⟨g', 0, none⟩) (n + 3) cp'] wx fun e w' => e = .returned (.bool true) ∧ Below wx.heap.size wx w') := fun wx g' cp' hw hx =>
    sameTexts_any wx _ _ (n + 3) cp cp' (lentS l) (by rw [lentS_length, hn]) (h'.later hw) hx (by omega)
  have HN : Hid (n + 3 = (lentS l).length) := by show _ = _; rw [lentS_length, hn]
  clear h h' hn
  go_enter Try.func22, Try.ntmps22
  go_wp2_with (first
    | (go_at_call 13; refine LT.out.mono ?_; rintro e w1 ⟨g1, cp1, rfl, o1, b1⟩; have t1 := texts_of_own o1 HN.out; clear LT o1)
    | (go_at_call 30; refine (ST.out _ _ _ b1 t1).mono ?_; rintro e w2 ⟨rfl, b2⟩))
  go_ret
  exact ⟨rfl, b1.trans (b2.mono b1.size)⟩
end Go.Proofs.Ytanpnibabnedbaa
