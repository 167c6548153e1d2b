/-
  Visible: what it answers of entries in order. .. and what follows from it.
-/
import Derived.Test.YtbdgdigpnfpnhaaBTell
import Derived.Test.YtbdgdigpnfpnhaaKH
import Derived.Deep.Cut
import Derived.Deep.CutRange
namespace Go.Proofs.Ytbdgdigpnfpnhaa.Q
open Go.RowKit

theorem EntsAt.drop {w : World} {a : Option Addr} {n c : Nat} {l : List Mm.Ent} (h : EntsAt w (.slice a n c) l) (r c' : Nat) : EntsAt w (.slice (a.map fun x => x.add (r * 4)) (n - r) c') (l.drop r) := by
  obtain ⟨⟨a', c2, e, hf⟩⟩ := h
  cases e
  refine ⟨⟨_, _, by rw [List.length_drop], fun h0 => ?_⟩⟩
  obtain ⟨b, off, rfl, hat⟩ := hf (fun e => h0 (by rw [e]; simp))
  have hadd : (⟨b, off, none⟩ : Addr).add (r * 4) = ⟨b, off + r * 4, none⟩ := by unfold Addr.add; split <;> simp_all
  refine ⟨b, off + r * 4, by show Option.some (Addr.add _ _) = _; rw [hadd], fun j hj => ?_⟩
  rw [List.length_drop] at hj
  have := hat (r + j) (by omega)
  rw [List.getElem_drop]
  rw [show off + r * 4 + j * 4 = off + (r + j) * 4 by rw [Nat.add_mul]; omega]
  exact this
theorem takeWhile_at {α : Type} (p : α → Bool) (l : List α) (j : Nat) (h : j < l.length) (h1 : ∀ x ∈ l.take j, p x = true) (h2 : p l[j] = false) : l.takeWhile p = l.take j := by
  have e : l = l.take j ++ l[j] :: l.drop (j + 1) := by rw [← List.drop_eq_getElem_cons h, List.take_append_drop]
  conv => lhs; rw [e]
  rw [List.takeWhile_append_of_pos h1, List.takeWhile_cons, h2]
  simp
theorem takeWhile_all {α : Type} (p : α → Bool) (l : List α) (h1 : ∀ x ∈ l, p x = true) : l.takeWhile p = l := by
  induction l with
  | nil => rfl
  | cons a r ih => rw [List.takeWhile_cons, h1 a (by simp), if_pos rfl, ih (fun x hx => h1 x (by simp [hx]))]
theorem own_someE {w : World} {base e size n : Nat} {v : Value} {xs : List Value} (h : w.ownsRow base e size v n xs) (h0 : n ≠ 0) : ∃ g cap, v = .slice (some ⟨g, 0, none⟩) n cap := by
  rcases h.2 with ⟨_, h1⟩ | ⟨g, cap, cur, rfl, _⟩
  · exact absurd h1 h0
  · exact ⟨g, cap, rfl⟩
theorem last_cell {w : World} {g n cap : Nat} {o : List Mm.Ent} {y : Mm.Ent} (h : EntsAt w (.slice (some ⟨g, 0, none⟩) n cap) (o ++ [y])) : w.cell? ⟨g, o.length * 4, none⟩ = some (str y.key) := by
  have := (h.cells o.length (by simp)).1
  rw [Nat.zero_add] at this
  simpa using this
/-- Is the key told already? -/
def toldB (out : List Mm.Ent) (x : Mm.Ent) : Bool := decide (out.getLast?.map (·.key) = some x.key)
theorem toldB_snoc (o : List Mm.Ent) (y x : Mm.Ent) : toldB (o ++ [y]) x = (y.key == x.key) := by
  have h : (o ++ [y]).getLast?.map (·.key) = some y.key := by simp
  by_cases e : y.key = x.key
  · rw [e]
    simp only [beq_self_eq_true]
    exact decide_eq_true (h.trans (by rw [e]))
  · rw [beq_eq_false_iff_ne.2 e]
    exact decide_eq_false (fun h2 => e (Option.some.inj (h.symm.trans h2)))
theorem tell_yes {seq : Int} {out : List Mm.Ent} {x : Mm.Ent} (h : x.seq ≤ seq) (ht : toldB out x = false) : Mm.tell seq out x = out ++ [x] := by
  unfold Mm.tell
  exact if_pos ⟨h, of_decide_eq_false ht⟩
theorem tell_no {seq : Int} {out : List Mm.Ent} {x : Mm.Ent} (h : ¬ x.seq ≤ seq ∨ toldB out x = true) : Mm.tell seq out x = out := by
  unfold Mm.tell
  refine if_neg (fun hc => ?_)
  rcases h with h | h
  · exact h hc.1
  · exact hc.2 (of_decide_eq_true h)

end Go.Proofs.Ytbdgdigpnfpnhaa.Q
namespace Go.Proofs.Ytbdgdigpnfpnhaa.Q
open Go.RowKit

theorem ents_cells {w : World} {ad : Addr} {k c : Nat} {B : List Mm.Ent} (h : EntsAt w (.slice (some ad) k c) B) (j : Nat) (u : Value) (hu : (ecs B)[j]? = some u) : w.cell? (ad.add j) = some u := by
  have hj : j < B.length * 4 := by
    have := (List.getElem?_eq_some_iff.1 hu).1
    rwa [ecs_length] at this
  obtain ⟨⟨a', c', e, hf⟩⟩ := h
  obtain ⟨b, off, ha, hat⟩ := hf (fun e => by rw [e] at hj; simp at hj)
  cases e
  cases ha
  have hadd : (⟨b, off, none⟩ : Addr).add j = ⟨b, off + j, none⟩ := by unfold Addr.add; split <;> simp_all
  rw [hadd, ← hu]
  obtain ⟨q, r, hr, rfl⟩ : ∃ q r, r < 4 ∧ j = q * 4 + r := ⟨j / 4, j % 4, by omega, by omega⟩
  have hq : q < B.length := by omega
  obtain ⟨e0, e1, e2, e3⟩ := ecs_get B q hq
  obtain ⟨c0, c1, c2, c3⟩ := hat q hq
  match r, hr with
  | 0, _ => rw [Nat.add_zero, e0]; exact c0
  | 1, _ => rw [← Nat.add_assoc, c1, e1]
  | 2, _ => rw [← Nat.add_assoc, c2, e2]
  | 3, _ => rw [← Nat.add_assoc, c3, e3]
theorem wpList_app_ents (w : World) {ops : Array Oper} {rest : List Oper} {o : Oper} {a : Act} {Q : Exit → Act → World → Prop} (hg : o.guard = none) (s x : Operand)
    (hop : o.op = .call { callee := .builtin .append, args := #[s, x], argTypes := #[23, 23] })
    (base g cap : Nat) (A B : List Mm.Ent) (n k c : Nat) (hn : n = A.length) (hk : k = B.length) (hs : a.eval s = .slice (some ⟨g, 0, none⟩) n cap) (hown : w.ownsRow base 38 4 (.slice (some ⟨g, 0, none⟩) n cap) n (ecs A))
    (ao : Option Addr) (hx : a.eval x = .slice ao k c) (hin : EntsAt w (.slice ao k c) B) (hno : ao = none → c = 0) (hroom : n + k ≤ 1000000) (hbase : base ≤ w.heap.size)
    (h : ∀ g' cap' w', w'.ownsRow base 38 4 (.slice (some ⟨g', 0, none⟩) (n + k) cap') (n + k) (ecs (A ++ B)) → w.grownBy w' (some g) → wpList Try.prog ops Q rest (a.put o.dst (.slice (some ⟨g', 0, none⟩) (n + k) cap')) w') :
    wpList Try.prog ops Q (o :: rest) a w := by
  obtain ⟨i0, hi, hz0, hz1, hz2⟩ := info_parts infoE
  by_cases hb0 : B = []
  · subst hb0
    subst hk
    have hnc : n ≤ cap := by
      rcases hown.2 with ⟨e, _⟩ | ⟨g', cap', cur, e, _, _, hnc, _⟩
      · cases e
      · simp only [Value.slice.injEq] at e; omega
    refine wpList_append_fits_any w hg s x 23 hop base 38 i0 4 Try.underlying23 hi hz1 g n cap (ecs A) hs hown ao 0 c [] hx rfl (fun e => ⟨rfl, hno e⟩) (fun ad _ j u hj => by simp at hj) (by simp) (by omega) ?_
    intro w' h1 h2
    refine h g cap w' ?_ h2
    rw [ecs_append]
    exact h1
  · have hsome : ∃ ad, ao = some ad := by
      obtain ⟨⟨a', c', e', hf⟩⟩ := hin
      obtain ⟨b, off, ha, _⟩ := hf hb0
      cases e'
      exact ⟨_, ha⟩
    obtain ⟨ad, rfl⟩ := hsome
    refine wpList_append_lies w hg s x 23 hop base 38 i0 _ 4 48 Try.underlying23 hi hz0 hz1 hz2 rfl (by decide) _ n (ecs A) hs hown ad k c (ecs B) hx (by rw [ecs_length, hk]) (fun j u hu => ents_cells hin j u hu) (ecs_one B) (by rw [hk]; exact List.length_pos_iff.2 hb0) (by unfold maxLen; omega) (by omega) hbase w.heap.size rfl ?_
    intro g' cap' w' h1 h2 _ _
    refine h g' cap' w' ?_ h2
    rw [ecs_append]
    exact h1

/-- What stands behind entries that are lent. -/
def behindE (i : Nat) : Mm.Ent := ⟨[98, 101, 104, 105, 110, 100], [], i, false⟩
def lentE (l : List Mm.Ent) (k : Nat) : List Mm.Ent := l ++ (List.range k).map behindE
theorem lentE_next (l : List Mm.Ent) (k : Nat) : lentE l (k + 1) = lentE l k ++ [behindE k] := by
  unfold lentE
  rw [List.range_succ, List.map_append, List.append_assoc]
  rfl
theorem lentE_len (l : List Mm.Ent) (k : Nat) : (lentE l k).length = l.length + k := by simp [lentE]

set_option maxRecDepth 100000 in
set_option maxHeartbeats 4000000 in
theorem lentEntries_any (w : World) (a : Option Addr) (c n : Nat) (l : List Mm.Ent) (h : EntsAt w (.slice a n c) l) (hn : n = l.length) (hno : a = none → c = 0) (hl : n ≤ 100000) :
    Calls Try.prog 26 #[.slice a n c] w fun e w' => ∃ g cap, e = .returned (.slice (some ⟨g, 0, none⟩) (n + 3) cap) ∧ w'.ownsRow w.heap.size 38 4 (.slice (some ⟨g, 0, none⟩) (n + 3) cap) (n + 3) (ecs (lentE l 3)) ∧ Below w.heap.size w w' := by
  obtain ⟨i0, hi, hz0, hz1, hz2⟩ := info_parts infoE
  have L0 : (w.alloc (.cells #[] 38)).ownsRow w.heap.size 38 4 (.slice (some ⟨w.heap.size, 0, none⟩) 0 0) 0 (ecs []) := World.ownsRow_lit (size := 4) (e := 38) (base := w.heap.size) w #[] 0 (Nat.le_refl _) (by unfold maxLen; omega) rfl
  have b0 : Below w.heap.size w (w.alloc (.cells #[] 38)) := (Below.refl _ _).alloc (Nat.le_refl _) _
  have HL0 := hide L0
  have HA := hide (h.later b0)
  have HN : Hid (n = l.length) := hn
  have HNO := hide hno
  clear L0 h hn b0 hno
  go_enter Try.func26, Try.ntmps26
  go_wp2_with (first
    | (at_builtin; refine wpList_app_ents _ rfl _ _ rfl w.heap.size w.heap.size 0 [] l 0 n c rfl HN.out rfl HL0.out a rfl HA.out HNO.out (by omega) (by simp) ?_; intro g1 cap1 w1 o1 h1))
  have B1 : Below w.heap.size w w1 := ((Below.refl _ _).alloc (Nat.le_refl _) _).grown h1 (by simp) (fun k hk => by cases hk; exact Nat.le_refl _)
  try rw [Nat.zero_add] at o1
  have O1 : w1.ownsRow w.heap.size 38 4 (.slice (some ⟨g1, 0, none⟩) n cap1) n (ecs (lentE l 0)) := by
    have : lentE l 0 = [] ++ l := by simp [lentE]
    rw [this]; exact o1
  clear HL0 HA o1 h1
  go_loopw [3, 4] (fun v i wr => ∃ (j g cap : Nat), j ≤ 3 ∧ i = .int .i64 (j : Int) ∧ v = .slice (some ⟨g, 0, none⟩) (n + j) cap ∧ wr.ownsRow w.heap.size 38 4 (.slice (some ⟨g, 0, none⟩) (n + j) cap) (n + j) (ecs (lentE l j)) ∧ Below w.heap.size w wr) (fun _ i _ => 3 - (intOf i).toNat)
  case atStart => exact ⟨0, g1, cap1, by omega, rfl, rfl, O1, B1⟩
  case round =>
    obtain ⟨j, g, cap, hj, rfl, rfl, o, bx⟩ := hrel
    clear O1 B1
    by_cases hlt : j < 3
    · have O := hide o
      have LE := lentE_next l j
      have HLE := hide LE
      have CN : Hid (∀ W : World, ∀ B, B = W.heap.size → ∀ i u, (ecs [behindE j])[i]? = some u → (W.alloc (.cells #[str [98, 101, 104, 105, 110, 100], str [], .int .i64 (j : Int), .bool false] 38)).cell? ((⟨B, 0, none⟩ : Addr).add i) = some u) := fun W B hB => ec_new W (behindE j) B hB
      have HL : Hid ((ecs [behindE j]).length = 1 * 4) := rfl
      have HO : Hid (∀ u ∈ ecs [behindE j], u.oneCell' = true) := ecs_one _
      have Z1 : Hid (n + j + 1 ≤ maxLen) := by show _ ≤ _; unfold maxLen; omega
      have Z2 : Hid ((n + j + 1) * 48 ≤ 140737488355328) := by show _ ≤ _; omega
      have i1 : (j : Int) < 3 := by omega
      clear o LE
      go_wp2_with (first
        | (at_builtin; refine wpList_append_lies _ rfl _ _ 23 rfl w.heap.size 38 i0 _ 4 48 Try.underlying23 hi hz0 hz1 hz2 rfl (by decide) _ (n + j) _ rfl (O.out.alloc _) ⟨wr.heap.size, 0, none⟩ 1 1 (ecs [behindE j]) rfl HL.out (CN.out _ _ rfl) HO.out (by decide) Z1.out Z2.out (by have := bx.size; simp; omega) _ rfl ?_; intro g7 cap7 w7 o7 h7 l7 lt7))
      have B7 : Below w.heap.size w w7 := (bx.alloc bx.size _).grown h7 (by have := bx.size; simp; omega) (fun k hk => (O.out.lt k hk).1)
      refine ⟨⟨j + 1, g7, cap7, by omega, by go_num, rfl, ?_, B7⟩, by simp [intOf]; omega⟩
      rw [HLE.out, ecs_append]
      exact o7
    · have e : j = 3 := by omega
      subst e
      go_wp2_with (fail)
      go_ret
      exact ⟨g, cap, rfl, o, bx⟩

theorem EntsAt.shape {w : World} {v : Value} {l : List Mm.Ent} (h : EntsAt w v l) : ∃ a c, v = .slice a l.length c := by
  obtain ⟨⟨a, c, e, _⟩⟩ := h
  exact ⟨a, c, e⟩
set_option maxRecDepth 100000 in
theorem keptEntries_any (w : World) (a : Option Addr) (c n : Nat) (l : List Mm.Ent) (h : EntsAt w (.slice a n c) l) (hn : n = l.length) (hno : a = none → c = 0) (hl : n ≤ 100000) (v : Value) (hv : EntsAt w v (lentE l 3)) :
    Calls Try.prog 31 #[v, .slice a n c] w fun e w' => e = .returned (.bool true) ∧ Below w.heap.size w w' := by
  have LE := hide (lentEntries_any w a c n l h hn hno hl)
  have SE : Hid (∀ wx u, Below w.heap.size w wx → EntsAt wx u (lentE l 3) → Calls Try.prog 20 #[v, u] wx fun e w' => e = .returned (.bool true) ∧ Below wx.heap.size wx w') := fun wx u hx hu => samee_any wx v u _ (hv.later hx) hu (by rw [lentE_len]; omega)
  have HN : Hid (n = l.length) := hn
  clear h hn hv
  go_enter Try.func31, Try.ntmps31
  go_wp2_with (first
    | (go_at_call 26; refine LE.out.mono ?_; rintro e w1 ⟨g, cap, rfl, o1, b1⟩; have e1 : EntsAt w1 (.slice (some ⟨g, 0, none⟩) (n + 3) cap) (lentE l 3) := EntsAt.own (by rw [lentE_len, ← HN.out]; exact o1); clear LE)
    | (go_at_call 20; refine (SE.out _ _ b1 e1).mono ?_; rintro e w2 ⟨rfl, b2⟩))
  go_ret
  exact ⟨rfl, b1.trans (b2.mono b1.size)⟩
end Go.Proofs.Ytbdgdigpnfpnhaa.Q
