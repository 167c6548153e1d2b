/-
  Add: an entry that may be, and that is not there, is put in its place; any other is refused, and nothing has turned.
-/
import Derived.Test.YtbdgdigpnfpnhaaMLink
namespace Go.Proofs.Ytbdgdigpnfpnhaa.Q.P
open Go.RowKit
end Go.Proofs.Ytbdgdigpnfpnhaa.Q.P
namespace Go.Proofs.Ytbdgdigpnfpnhaa.Q.Mm
theorem sorted_in {e : Ent} {ns : List Nd} (h : Sorted ns) (x : Nd) (hx : x.ent = e) (hth : ∀ y, (back e ns).head? = some y → ahead e y.ent = true) : Sorted (front e ns ++ x :: back e ns) := by
  have h' := h
  rw [← parts e ns] at h'
  unfold Sorted at h' ⊢
  obtain ⟨h1, h2, h3⟩ := List.pairwise_append.1 h'
  refine List.pairwise_append.2 ⟨h1, List.pairwise_cons.2 ⟨fun y hy => ?_, h2⟩, fun a ha y hy => ?_⟩
  · rw [hx]
    cases hb : back e ns with
    | nil => rw [hb] at hy; cases hy
    | cons z r =>
      have hz := hth z (by rw [hb]; rfl)
      rw [hb] at hy h2
      rcases List.mem_cons.1 hy with rfl | hy
      · exact hz
      · exact ahead_trans hz ((List.pairwise_cons.1 h2).1 y hy)
  · rcases List.mem_cons.1 hy with rfl | hy
    · rw [hx]; exact front_yes a ha
    · exact h3 a ha y hy
theorem nxt_zero {b : List Nd} (h : ∀ x ∈ b, 1 ≤ x.h) : nxt 0 b = b.head? := by
  cases b with
  | nil => rfl
  | cons x r =>
    have : on 0 x = true := decide_eq_true (h x (by simp))
    unfold nxt
    rw [List.find?_cons, this]; rfl
/-- Where the last one of a lane stands. -/
theorem last_split (k : Nat) : ∀ (a : List Nd) (d : Nd), on k d = true → ∃ P p Q, d :: a = P ++ p :: Q ∧ on k p = true ∧ (∀ y ∈ Q, on k y = false) ∧ lastL k d a = p := by
  intro a
  induction a with
  | nil => intro d hd; exact ⟨[], d, [], rfl, hd, by simp, rfl⟩
  | cons y a ih =>
    intro d hd
    cases hy : on k y with
    | true =>
      obtain ⟨P, p, Q, e1, e2, e3, e4⟩ := ih y hy
      exact ⟨d :: P, p, Q, by rw [e1]; rfl, e2, e3, by rw [lastL, hy, if_pos rfl]; exact e4⟩
    | false =>
      obtain ⟨P, p, Q, e1, e2, e3, e4⟩ := ih d hd
      cases P with
      | nil =>
        cases e1
        refine ⟨[], d, y :: a, rfl, hd, fun z hz => ?_, ?_⟩
        · rcases List.mem_cons.1 hz with rfl | hz
          · exact hy
          · exact e3 z hz
        · rw [lastL, hy, if_neg (by simp)]; exact e4
      | cons z P =>
        cases e1
        exact ⟨d :: y :: P, p, Q, rfl, e2, e3, by rw [lastL, hy, if_neg (by simp)]; exact e4⟩
end Go.Proofs.Ytbdgdigpnfpnhaa.Q.Mm
namespace Go.Proofs.Ytbdgdigpnfpnhaa.Q.P
open Go.RowKit
/-- The link of the last one of a lane. -/
theorem Chain.last {w : World} {hd : Mm.Nd} {a r : List Mm.Nd} (h : Chain w (hd :: (a ++ r))) (k : Nat) (hk : k < 12) (top : hd.h = 12) : w.cell? ⟨(Mm.lastL k hd a).blk, 5 + k, none⟩ = some (ptr (Mm.nxt k r)) ∧ w.frozen? ⟨(Mm.lastL k hd a).blk, 5 + k, none⟩ = false := by
  obtain ⟨P, p, Q, e1, e2, e3, e4⟩ := Mm.last_split k a hd (decide_eq_true (by omega))
  rw [e4]
  have h' : Chain w (P ++ p :: (Q ++ r)) := by
    have : hd :: (a ++ r) = P ++ p :: (Q ++ r) := by rw [← List.cons_append, e1]; simp
    rw [← this]; exact h
  have := h'.lane k hk e2
  rw [Mm.nxt_append, Mm.nxt_none.2 e3, Option.none_or] at this
  exact ⟨this, Joins.unfrozen_of_block h'.at _⟩
theorem last_mem (k : Nat) (hd : Mm.Nd) (a : List Mm.Nd) (top : hd.h = 12) (hk : k < 12) : Mm.lastL k hd a ∈ hd :: a := by
  obtain ⟨P, p, Q, e1, e2, e3, e4⟩ := Mm.last_split k a hd (decide_eq_true (by omega))
  rw [e4, e1]; simp

theorem may_bounds {e : Mm.Ent} (h : Mm.may e = true) : 1 ≤ e.seq ∧ e.seq ≤ 1073741824 ∧ e.key.length ≤ 512 ∧ e.value.length ≤ 4096 := by
  simp [Mm.may, Wl.mayBe] at h
  omega
theorem sclone_any (w : World) (s : Mm.Bs) (h : s.length ≤ 1000000) : Calls Try.prog 41 #[str s] w fun e w' => e = .returned (str s) ∧ Below w.heap.size w w' := by
  have C := Try.stringslite_Clone ⟨s.toArray⟩ w (by show s.toArray.size ≤ _; simp; omega)
  clear h
  go_enter Try.func41, Try.ntmps41
  go_wp2_with (go_at_call 72; refine C.mono ?_; rintro e w1 ⟨rfl, b1⟩)
  go_ret
  exact ⟨rfl, b1⟩

abbrev pathO2 (hd : Mm.Nd) (A : List Mm.Nd) : Obj := .cells #[pt hd A 0, pt hd A 1, pt hd A 2, pt hd A 3, pt hd A 4, pt hd A 5, pt hd A 6, pt hd A 7, pt hd A 8, pt hd A 9, pt hd A 10, pt hd A 11] 63
abbrev entO (e : Mm.Ent) : Obj := .cells #[str e.key, str e.value, .int .i64 e.seq, .bool e.del] 38

theorem ent_cells {w : World} {g : Nat} {e : Mm.Ent} (h : w.heap[g]? = some (entO e)) : w.cell? ⟨g, 0, none⟩ = some (str e.key) ∧ w.cell? ⟨g, 1, none⟩ = some (str e.value) ∧ w.cell? ⟨g, 2, none⟩ = some (.int .i64 e.seq) ∧ w.cell? ⟨g, 3, none⟩ = some (.bool e.del) :=
  ⟨Joins.cell_of_block h 0, Joins.cell_of_block h 1, Joins.cell_of_block h 2, Joins.cell_of_block h 3⟩

/-- How it stands when the new node n is in the lanes below k. wp: the block of the path. -/
structure Linking (w : World) (b : Nat) (hd : Mm.Nd) (A B : List Mm.Nd) (e : Mm.Ent) (c n wp : Nat) (to : Obj) (k : Nat) (wr : World) : Prop where
  chain : Chain wr (hd :: (A ++ nd n e c k :: B))
  tab : wr.heap[b]? = some to
  path : wr.heap[wp]? = some (pathO2 hd A)
  ent : wr.heap[w.heap.size]? = some (entO e)
  moved : Moved (tabS b hd (A ++ B)) w wr
theorem pathO2_get (hd : Mm.Nd) (A : List Mm.Nd) (k : Nat) (h : k < 12) : (#[pt hd A 0, pt hd A 1, pt hd A 2, pt hd A 3, pt hd A 4, pt hd A 5, pt hd A 6, pt hd A 7, pt hd A 8, pt hd A 9, pt hd A 10, pt hd A 11] : Array Value)[k]? = some (pt hd A k) := by
  match k, h with
  | 0, _ => rfl
  | 1, _ => rfl
  | 2, _ => rfl
  | 3, _ => rfl
  | 4, _ => rfl
  | 5, _ => rfl
  | 6, _ => rfl
  | 7, _ => rfl
  | 8, _ => rfl
  | 9, _ => rfl
  | 10, _ => rfl
  | 11, _ => rfl
theorem Linking.cells {w : World} {b : Nat} {hd : Mm.Nd} {A B : List Mm.Nd} {e : Mm.Ent} {c n wp : Nat} {to : Obj} {k : Nat} {wr : World} (h : Linking w b hd A B e c n wp to k wr) (hk : k < 12) (top : hd.h = 12) :
    wr.cell? ⟨wp, k, none⟩ = some (pt hd A k) ∧ wr.cell? ⟨(Mm.lastL k hd A).blk, 5 + k, none⟩ = some (ptr (Mm.nxt k B)) ∧ wr.frozen? ⟨(Mm.lastL k hd A).blk, 5 + k, none⟩ = false ∧ wr.cell? ⟨n, 5 + k, none⟩ = some (.pointer none) ∧ wr.frozen? ⟨n, 5 + k, none⟩ = false := by
  obtain ⟨h1, h2⟩ := h.chain.last k hk top
  have hb : wr.heap[n]? = some (ndObj (nd n e c k) B) := Chain.at (p := hd :: A) h.chain
  have e1 : Mm.nxt k (nd n e c k :: B) = Mm.nxt k B := by
    unfold Mm.nxt
    rw [List.find?_cons, on_nd, decide_eq_false (by omega : ¬ k < k)]
  rw [e1] at h1
  refine ⟨(Joins.cell_of_block h.path k).trans (pathO2_get hd A k hk), h1, h2, (Joins.cell_of_block hb (5 + k)).trans ((ndCells_lane _ _ k hk).trans ?_), Joins.unfrozen_of_block hb _⟩
  unfold lk
  rw [if_neg (by show ¬ k < k; omega)]
theorem Linking.step {w : World} {b : Nat} {hd : Mm.Nd} {A B : List Mm.Nd} {e : Mm.Ent} {c n wp : Nat} {to : Obj} {k : Nat} {wr : World} (h : Linking w b hd A B e c n wp to k wr) (hk : k < 12) (top : hd.h = 12)
    (ap : ((hd :: (A ++ B)).map (·.blk)).Nodup) (off : ∀ x ∈ hd :: (A ++ B), x.blk ≠ b) (low : ∀ x ∈ hd :: (A ++ B), x.blk < w.heap.size) (hn : w.heap.size < wp ∧ wp < n) (hb : b < w.heap.size) :
    Linking w b hd A B e c n wp to (k + 1) ((wr.setCell ⟨n, 5 + k, none⟩ (ptr (Mm.nxt k B))).setCell ⟨(Mm.lastL k hd A).blk, 5 + k, none⟩ (.pointer (some ⟨n, 0, none⟩))) := by
  have lm : Mm.lastL k hd A ∈ hd :: (A ++ B) := by
    have := last_mem k hd A top hk
    rw [← List.cons_append]
    exact List.mem_append.2 (.inl this)
  have l1 := low _ lm
  have l2 := off _ lm
  have far : ∀ i, i ≠ n → i ≠ (Mm.lastL k hd A).blk → ((wr.setCell ⟨n, 5 + k, none⟩ (ptr (Mm.nxt k B))).setCell ⟨(Mm.lastL k hd A).blk, 5 + k, none⟩ (.pointer (some ⟨n, 0, none⟩))).heap[i]? = wr.heap[i]? := fun i h1 h2 => (heap_setCell_other _ _ _ _ h2).trans (heap_setCell_other _ _ _ _ h1)
  refine ⟨h.chain.link hk top ?_, (far b (by omega) (fun e => l2 e.symm)).trans h.tab, (far wp (by omega) (by omega)).trans h.path, (far _ (by omega) (by omega)).trans h.ent, ?_⟩
  · rw [← List.cons_append, List.map_append, List.map_cons]
    rw [← List.cons_append, List.map_append] at ap
    rw [List.nodup_append] at ap ⊢
    obtain ⟨a1, a2, a3⟩ := ap
    have lo : ∀ i ∈ (B.map (·.blk)), i ≠ n := fun i hi => by
      obtain ⟨x, hx, rfl⟩ := List.mem_map.1 hi
      have := low x (by simp [hx])
      omega
    have lo2 : ∀ i ∈ ((hd :: A).map (·.blk)), i ≠ n := fun i hi => by
      obtain ⟨x, hx, rfl⟩ := List.mem_map.1 hi
      have := low x (by rw [← List.cons_append]; exact List.mem_append.2 (.inl hx))
      omega
    refine ⟨a1, List.nodup_cons.2 ⟨fun hm => lo n hm rfl, a2⟩, fun i hi j hj => ?_⟩
    rcases List.mem_cons.1 hj with rfl | hj
    · exact lo2 i hi
    · exact a3 i hi j hj
  · refine (h.moved.setCell (p := ⟨n, 5 + k, none⟩) (fun hh => ?_) _).setCell (p := ⟨(Mm.lastL k hd A).blk, 5 + k, none⟩) (fun _ => .inr (List.mem_map.2 ⟨_, lm, rfl⟩)) _
    exact absurd hh (by show ¬ n < _; omega)
theorem Linking.drew {w : World} {b : Nat} {hd : Mm.Nd} {A B : List Mm.Nd} {e : Mm.Ent} {c n wp : Nat} {to : Obj} {k : Nat} {wr wr' : World} (h : Linking w b hd A B e c n wp to k wr) (hh : wr'.heap = wr.heap) (ho : wr'.os = wr.os) (ht : wr'.tape = wr.tape) (hp : wr'.output = wr.output) : Linking w b hd A B e c n wp to k wr' :=
  ⟨h.chain.same fun x _ => by rw [hh], by rw [hh]; exact h.tab, by rw [hh]; exact h.path, by rw [hh]; exact h.ent, ⟨ho.trans h.moved.os, ht.trans h.moved.tape, hp.trans h.moved.output, by rw [hh]; exact h.moved.size, fun i hi hs => by rw [hh]; exact h.moved.block i hi hs⟩⟩

theorem tab_more {w : World} {b : Nat} {hv : Value} {hs : List Nat} {hd : Mm.Nd} {ns : List Mm.Nd} {e : Mm.Ent} {A B : List Mm.Nd} {n wp : Nat} {wr : World} (T : TabAt w b hv hs hd ns) (hm : Mm.may e = true) (hth : ∀ y, (Mm.back e ns).head? = some y → Mm.ahead e y.ent = true)
    (hA : A = Mm.front e ns) (hB : B = Mm.back e ns) (hn : w.heap.size ≤ n) (L : Linking w b hd A B e ns.length n wp (.cells (tabCells b hv hd ns.length (bytesOf ns)) 67 (0, 0)) (Mm.ht hs ns.length) wr) :
    TabAt (((wr.setCell ⟨b, 3, none⟩ (.int .i64 ((ns.length : Int) + 1))).setCell ⟨b, 4, none⟩ (.int .i64 ((bytesOf ns : Int) + ((List.length e.key : Int) + (List.length e.value : Int))))).drew) b hv hs hd (A ++ nd n e ns.length (Mm.ht hs ns.length) :: B)
    ∧ Moved (tabS b hd ns) w (((wr.setCell ⟨b, 3, none⟩ (.int .i64 ((ns.length : Int) + 1))).setCell ⟨b, 4, none⟩ (.int .i64 ((bytesOf ns : Int) + ((List.length e.key : Int) + (List.length e.value : Int))))).drew) := by
  have hns : ns = A ++ B := by rw [hA, hB, Mm.parts]
  have lt := T.chain.lt
  have hbz := (Array.getElem?_eq_some_iff.1 T.blk).1
  obtain ⟨b1, b2, b3, b4⟩ := may_bounds hm
  have far : ∀ i, i ≠ b → (((wr.setCell ⟨b, 3, none⟩ (.int .i64 ((ns.length : Int) + 1))).setCell ⟨b, 4, none⟩ (.int .i64 ((bytesOf ns : Int) + ((List.length e.key : Int) + (List.length e.value : Int))))).drew).heap[i]? = wr.heap[i]? := fun i hi => (heap_setCell_other _ _ _ _ hi).trans (heap_setCell_other _ _ _ _ hi)
  have mv : Moved (tabS b hd ns) w wr := by have := L.moved; rw [← hns] at this; exact this
  have hlen : (A ++ nd n e ns.length (Mm.ht hs ns.length) :: B).length = ns.length + 1 := by rw [hns]; simp; omega
  have hby : bytesOf (A ++ nd n e ns.length (Mm.ht hs ns.length) :: B) = bytesOf ns + (e.key.length + e.value.length) := by
    rw [hns]; simp [bytesOf]; omega
  have mem : ∀ x ∈ A ++ nd n e ns.length (Mm.ht hs ns.length) :: B, x ∈ ns ∨ x = nd n e ns.length (Mm.ht hs ns.length) := fun x hx => by
    rcases List.mem_append.1 hx with h | h
    · exact .inl (by rw [hns]; exact List.mem_append.2 (.inl h))
    · rcases List.mem_cons.1 h with h | h
      · exact .inr h
      · exact .inl (by rw [hns]; exact List.mem_append.2 (.inr h))
  have memh : ∀ x ∈ hd :: (A ++ nd n e ns.length (Mm.ht hs ns.length) :: B), x ∈ hd :: ns ∨ x = nd n e ns.length (Mm.ht hs ns.length) := fun x hx => by
    rcases List.mem_cons.1 hx with rfl | hx
    · exact .inl (by simp)
    · rcases mem x hx with h | h
      · exact .inl (by simp [h])
      · exact .inr h
  have ht := Mm.ht_ok T.hgood ns.length
  refine ⟨⟨?_, ?_, ?_, ?_, ?_, ?_, ?_, T.top, ?_, ?_, T.hgood⟩, ((mv.setCell (p := ⟨b, 3, none⟩) (fun _ => .inl rfl) _).setCell (p := ⟨b, 4, none⟩) (fun _ => .inl rfl) _).drew⟩
  · have h1 := heap_setCell_same wr b 3 _ _ (.int .i64 ((ns.length : Int) + 1)) L.tab
    have h2 := heap_setCell_same _ b 4 _ _ (.int .i64 ((bytesOf ns : Int) + ((List.length e.key : Int) + (List.length e.value : Int)))) h1
    refine Eq.trans h2 ?_
    rw [hlen, hby]
    simp [tabCells]
  · refine own_same T.row fun g hg => ?_
    obtain ⟨h1, h2⟩ := T.hoff g hg
    rw [far g h1]
    refine mv.block g (own_lt T.row g hg) ?_
    rintro (h | h)
    · exact h1 h
    · obtain ⟨x, hx, e⟩ := List.mem_map.1 h
      exact h2 x hx e
  · refine L.chain.same fun x hx => far _ ?_
    rcases memh x hx with h | h
    · exact T.off x h
    · subst h; show n ≠ b; omega
  · rw [hA, hB]; exact Mm.sorted_in T.sorted _ rfl hth
  · have ap := T.apart
    rw [hns] at ap
    rw [← List.cons_append, List.map_append, List.map_cons]
    rw [← List.cons_append, List.map_append] at ap
    rw [List.nodup_append] at ap ⊢
    obtain ⟨a1, a2, a3⟩ := ap
    have lo : ∀ x ∈ hd :: ns, x.blk ≠ n := fun x hx => by have := lt x hx; omega
    have lo1 : ∀ i ∈ (B.map (·.blk)), i ≠ n := fun i hi => by
      obtain ⟨x, hx, rfl⟩ := List.mem_map.1 hi
      exact lo x (by rw [hns]; simp [hx])
    have lo2 : ∀ i ∈ ((hd :: A).map (·.blk)), i ≠ n := fun i hi => by
      obtain ⟨x, hx, rfl⟩ := List.mem_map.1 hi
      exact lo x (by rw [hns, ← List.cons_append]; exact List.mem_append.2 (.inl hx))
    refine ⟨a1, List.nodup_cons.2 ⟨fun hm => lo1 n hm rfl, a2⟩, fun i hi j hj => ?_⟩
    rcases List.mem_cons.1 hj with rfl | hj
    · exact lo2 i hi
    · exact a3 i hi j hj
  · intro x hx
    rcases memh x hx with h | h
    · exact T.off x h
    · subst h; show n ≠ b; omega
  · intro g hg
    obtain ⟨h1, h2⟩ := T.hoff g hg
    have hz := own_lt T.row g hg
    refine ⟨h1, fun x hx => ?_⟩
    rcases memh x hx with h | h
    · exact h2 x h
    · subst h; show n ≠ g; omega
  · intro x hx
    rw [hlen]
    rcases mem x hx with h | h
    · obtain ⟨h1, h2, h3⟩ := T.tall x h
      exact ⟨h1, h2, by omega⟩
    · subst h; exact ⟨ht.1, ht.2, by show ns.length < _; omega⟩
  · intro x hx
    rcases mem x hx with h | h
    · exact T.good x h
    · subst h; exact ⟨b1, b2, b3, b4⟩

set_option maxRecDepth 100000 in
set_option maxHeartbeats 4000000 in
theorem add_ok (w : World) (b : Nat) (hv : Value) (hs : List Nat) (hd : Mm.Nd) (ns : List Mm.Nd) (T : TabAt w b hv hs hd ns) (e : Mm.Ent) (hm : Mm.may e = true) (hn : ns.length ≤ 100000) (hbytes : bytesOf ns ≤ 1000000000) (hh : hs.length ≤ 1000000)
    (hth : ∀ y, (Mm.back e ns).head? = some y → Mm.ahead e y.ent = true) :
    Calls Try.prog 15 #[.pointer (some ⟨b, 0, none⟩), entV e] w fun r w' => r = .returned (.int .i64 0) ∧ ∃ n, w.heap.size ≤ n ∧ TabAt w' b hv hs hd (Mm.front e ns ++ nd n e ns.length (Mm.ht hs ns.length) :: Mm.back e ns) ∧ Moved (tabS b hd ns) w w' := by
  obtain ⟨A, hA⟩ : ∃ A, A = Mm.front e ns := ⟨_, rfl⟩
  obtain ⟨B, hB⟩ : ∃ B, B = Mm.back e ns := ⟨_, rfl⟩
  have hns : ns = A ++ B := by rw [hA, hB, Mm.parts]
  obtain ⟨s1, s2, kb, vb⟩ := may_bounds hm
  have hth' := hide hth
  have HM := hide hm
  have HT := hide T
  have MD : Hid (∀ wx, Below w.heap.size w wx → Calls Try.prog 39 #[.pointer (some ⟨b, 0, none⟩)] wx fun r w' => r = .returned (.bool true) ∧ w' = wx) := fun wx hw => made_yes wx b (HT.out.later hw).cells.1
  have CK : Hid (∀ wx, Calls Try.prog 11 #[entV e] wx fun r w' => r = .returned (.int .i64 0) ∧ Below wx.heap.size wx w') := fun wx => by
    have := mcheck_any wx e (by omega) (by omega)
    rw [show Mm.checkE e = 0 by unfold Mm.checkE; rw [hm]; rfl] at this
    exact this
  have FD : Hid (∀ wx, Below w.heap.size w wx → Calls Try.prog 40 #[.pointer (some ⟨b, 0, none⟩), entV e] wx fun r w' => (∃ c : Int, r = .returned (.tuple #[.agg #[pt hd A 0, pt hd A 1, pt hd A 2, pt hd A 3, pt hd A 4, pt hd A 5, pt hd A 6, pt hd A 7, pt hd A 8, pt hd A 9, pt hd A 10, pt hd A 11], .int .i64 c])) ∧ Below wx.heap.size wx w') := fun wx hw => by
    have t := HT.out.later hw
    refine (find_any wx b hd ns t.cells.2.2.1 t.chain t.sorted t.top (by omega) e).mono ?_
    rintro r w' ⟨rfl, bb⟩
    exact ⟨⟨_, by rw [hA]; rfl⟩, bb⟩
  have SC : Hid (∀ wx (s : Mm.Bs), s.length ≤ 1000000 → Calls Try.prog 41 #[str s] wx fun e w' => e = .returned (str s) ∧ Below wx.heap.size wx w') := fun wx s hs => sclone_any wx s hs
  have HG : Hid (∀ wx, TabAt wx b hv hs hd ns → Calls Try.prog 42 #[.pointer (some ⟨b, 0, none⟩)] wx fun r w' => r = .returned (.int .i64 (Mm.ht hs ns.length : Int)) ∧ Below wx.heap.size wx w') := fun wx t => height_any wx b hv hs hd ns t (by omega)
  -- the first entry behind
  have c0 : Hid (∀ wx, Below w.heap.size w wx → wx.cell? ⟨(Mm.lastL 0 hd A).blk, 5, none⟩ = some (ptr B.head?)) := fun wx hw => by
    have t := HT.out.later hw
    have ch := t.chain
    rw [hns] at ch
    rw [← Mm.nxt_zero (fun x hx => (t.tall x (by rw [hns]; simp [hx])).1)]
    exact (ch.last 0 (by omega) t.top).1
  rw [← hA, ← hB]
  rw [← hB] at hth
  have HA := hide hA
  have HB := hide hB
  have HNS := hide hns
  clear hA hB hns T
  have B0 : Below w.heap.size w (w.alloc (entO e)) := (Below.refl _ _).alloc (Nat.le_refl _) _
  cases hB0 : B.head?
  case' none =>
    have C0 : Hid (∀ wx, Below w.heap.size w wx → wx.cell? ⟨(Mm.lastL 0 hd A).blk, 5, none⟩ = some (.pointer none)) := fun wx hw => by rw [c0.out wx hw, hB0]; rfl
    clear c0 hth hm
    go_enter Try.func15, Try.ntmps15
    go_wp2_with (first
      | (go_at_call 39; refine still (MD.out _ B0) ?_; clear MD)
      | (go_at_call 11; refine (CK.out _).mono ?_; rintro r w1 ⟨rfl, b1⟩; have B1 := B0.trans (b1.mono B0.size); have e1 := keepB b1 (World.alloc_heap_new w (entO e)); obtain ⟨f0, f1, f2, f3⟩ := ent_cells e1; clear CK)
      | (go_at_call 40; refine (FD.out _ B1).mono ?_; rintro r w2 ⟨⟨c, rfl⟩, b2⟩; have B2 := B1.trans (b2.mono B1.size); have z2 := B2.size; have x1 := fun o => C0.out (w2.alloc o) (B2.alloc z2 o); have e2 := keepB b2 e1; clear FD f0 f1 f2 f3))
    go_quiet (fail)
    obtain ⟨w3, hw3⟩ : ∃ w3, w3 = (w2.alloc (pathO2 hd A)).drewN nq := ⟨_, rfl⟩
    have B3 : Below (w2.alloc (pathO2 hd A)).heap.size (w2.alloc (pathO2 hd A)) w3 := by rw [hw3]; exact below_drewN (Below.refl _ _) _
    rw [← hw3]
    have e3 := keepB (((Below.refl _ w2).alloc (Nat.le_refl _) (pathO2 hd A)).trans (B3.mono (by simp))) e2
    obtain ⟨f0, f1, f2, f3⟩ := ent_cells e3
    have uf := Joins.unfrozen_of_block e3
    have uf0 := uf 0
    have uf1 := uf 1
    clear hw3 x1 C0 uf
    go_wp2_with (fail)
    have kb' : e.key.length ≤ 1000000 := by omega
    have vb' : e.value.length ≤ 1000000 := by omega
    have EH : Hid (∀ wx, Below w3.heap.size w3 wx → wx.heap[w.heap.size]? = some (entO e) ∧ wx.cell? ⟨w.heap.size, 0, none⟩ = some (str e.key) ∧ wx.cell? ⟨w.heap.size, 1, none⟩ = some (str e.value) ∧ wx.frozen? ⟨w.heap.size, 0, none⟩ = false ∧ wx.frozen? ⟨w.heap.size, 1, none⟩ = false) := fun wx hw => ⟨keepB hw e3, (ent_cells (keepB hw e3)).1, (ent_cells (keepB hw e3)).2.1, Joins.unfrozen_of_block (keepB hw e3) 0, Joins.unfrozen_of_block (keepB hw e3) 1⟩
    have D3 : Below w3.heap.size w3 w3.drew := (Below.refl _ _).drew
    have P1 := EH.out _ D3
    go_region_held3 (fun w' => w'.heap[w.heap.size]? = some (entO e) ∧ w'.cell? ⟨w.heap.size, 0, none⟩ = some (str e.key) ∧ w'.cell? ⟨w.heap.size, 1, none⟩ = some (str e.value) ∧ w'.frozen? ⟨w.heap.size, 0, none⟩ = false ∧ w'.frozen? ⟨w.heap.size, 1, none⟩ = false)
      (first | exact P1 | exact P2 | exact P3 | (rw [q0]; exact P3) | (rw [q1]; exact P3) | (rw [q0, q1]; exact P3) | (rw [q1, q0]; exact P3))
      (first
        | (go_at_call 41; have g := D3; refine (SC.out _ _ (by first | exact kb' | exact vb')).mono ?_; rintro r w4 ⟨rfl, b4⟩; have D4 := D3.trans (b4.mono D3.size); have P2 := EH.out _ D4; clear D3 g)
        | (go_at_call 41; have g := D4; refine (SC.out _ _ (by first | exact kb' | exact vb')).mono ?_; rintro r w5 ⟨rfl, b5⟩; have D5 := D4.trans (b5.mono D4.size); have P3 := EH.out _ D5; have q0 : w5.setCell ⟨w.heap.size, 0, none⟩ (str e.key) = w5 := setCell_id P3.1 rfl; have q1 : w5.setCell ⟨w.heap.size, 1, none⟩ (str e.value) = w5 := setCell_id P3.1 rfl; clear D4 g))
    have B5 : Below w.heap.size w w5 := B2.trans (((Below.refl _ w2).alloc (Nat.le_refl _) (pathO2 hd A)).trans ((B3.trans (D5.mono B3.size)).mono (by simp)) |>.mono z2)
    have e5 := P3.1
    have p5 := keepB (B3.trans (D5.mono B3.size)) (World.alloc_heap_new w2 (pathO2 hd A))
    have ws : w.heap.size < w2.heap.size := (Array.getElem?_eq_some_iff.1 e2).1
    have w25 : w2.heap.size < w5.heap.size := (Array.getElem?_eq_some_iff.1 p5).1
    clear P1 P2 P3 q0 q1 D5 EH f0 f1 f2 f3 uf0 uf1 e3 B3 e2 B2 z2 b2 e1 b1 B1 B0 SC
  case' some y =>
    have C0 : Hid (∀ wx, Below w.heap.size w wx → wx.cell? ⟨(Mm.lastL 0 hd A).blk, 5, none⟩ = some (.pointer (some ⟨y.blk, 0, none⟩))) := fun wx hw => by rw [c0.out wx hw, hB0]; rfl
    have ay := hth y hB0
    have YC : Hid (∀ wx, Below w.heap.size w wx → (wx.cell? ⟨y.blk, 0, none⟩ = some (str y.ent.key) ∧ wx.cell? ⟨y.blk, 1, none⟩ = some (str y.ent.value) ∧ wx.cell? ⟨y.blk, 2, none⟩ = some (.int .i64 y.ent.seq) ∧ wx.cell? ⟨y.blk, 3, none⟩ = some (.bool y.ent.del))) := fun wx hw => by
      have ch := (HT.out.later hw).chain
      obtain ⟨r, hr⟩ : ∃ r, B = y :: r := by
        cases B with
        | nil => cases hB0
        | cons z r => exact ⟨r, by cases hB0; rfl⟩
      rw [HNS.out, hr] at ch
      obtain ⟨q0, q1, q2, q3, _⟩ := Chain.cells (p := hd :: A) ch
      exact ⟨q0, q1, q2, q3⟩
    have AH : Hid (∀ wx : World, Calls Try.prog 13 #[entV e, entV y.ent] wx fun r w' => r = .returned (.bool true) ∧ Below wx.heap.size wx w') := fun wx => by
      have := ahead_any wx e y.ent
      rw [ay] at this
      exact this
    clear c0 hth hm ay
    go_enter Try.func15, Try.ntmps15
    go_wp2_with (first
      | (go_at_call 39; refine still (MD.out _ B0) ?_; clear MD)
      | (go_at_call 11; refine (CK.out _).mono ?_; rintro r w1 ⟨rfl, b1⟩; have B1 := B0.trans (b1.mono B0.size); have e1 := keepB b1 (World.alloc_heap_new w (entO e)); obtain ⟨f0, f1, f2, f3⟩ := ent_cells e1; clear CK)
      | (go_at_call 40; refine (FD.out _ B1).mono ?_; rintro r w2 ⟨⟨c, rfl⟩, b2⟩; have B2 := B1.trans (b2.mono B1.size); have z2 := B2.size; have x1 := fun o => C0.out (w2.alloc o) (B2.alloc z2 o); have e2 := keepB b2 e1; clear FD f0 f1 f2 f3))
    have B2p : Below w.heap.size w (w2.alloc (pathO2 hd A)).drew := (B2.alloc z2 _).drew
    have e2p : (w2.alloc (pathO2 hd A)).drew.heap[w.heap.size]? = some (entO e) := keepB ((Below.refl w2.heap.size w2).alloc (Nat.le_refl _) (pathO2 hd A)).drew e2
    have P1 : ((w2.alloc (pathO2 hd A)).drew.cell? ⟨y.blk, 0, none⟩ = some (str y.ent.key) ∧ (w2.alloc (pathO2 hd A)).drew.cell? ⟨y.blk, 1, none⟩ = some (str y.ent.value) ∧ (w2.alloc (pathO2 hd A)).drew.cell? ⟨y.blk, 2, none⟩ = some (.int .i64 y.ent.seq) ∧ (w2.alloc (pathO2 hd A)).drew.cell? ⟨y.blk, 3, none⟩ = some (.bool y.ent.del)) ∧ (w2.alloc (pathO2 hd A)).drew.cell? ⟨w.heap.size, 0, none⟩ = some (str e.key) ∧ (w2.alloc (pathO2 hd A)).drew.cell? ⟨w.heap.size, 1, none⟩ = some (str e.value) ∧ (w2.alloc (pathO2 hd A)).drew.cell? ⟨w.heap.size, 2, none⟩ = some (.int .i64 e.seq) ∧ (w2.alloc (pathO2 hd A)).drew.cell? ⟨w.heap.size, 3, none⟩ = some (.bool e.del) := ⟨YC.out _ B2p, ent_cells e2p⟩
    go_region_held3 (fun w' => (w'.cell? ⟨y.blk, 0, none⟩ = some (str y.ent.key) ∧ w'.cell? ⟨y.blk, 1, none⟩ = some (str y.ent.value) ∧ w'.cell? ⟨y.blk, 2, none⟩ = some (.int .i64 y.ent.seq) ∧ w'.cell? ⟨y.blk, 3, none⟩ = some (.bool y.ent.del)) ∧ w'.cell? ⟨w.heap.size, 0, none⟩ = some (str e.key) ∧ w'.cell? ⟨w.heap.size, 1, none⟩ = some (str e.value) ∧ w'.cell? ⟨w.heap.size, 2, none⟩ = some (.int .i64 e.seq) ∧ w'.cell? ⟨w.heap.size, 3, none⟩ = some (.bool e.del))
      (first | exact P1 | exact P2)
      (first | (go_at_call 13; refine (AH.out _).mono ?_; rintro r w3 ⟨rfl, b3⟩; have B3' := B2p.trans (b3.mono B2p.size); have e3' := keepB b3 e2p; have P2 := And.intro (YC.out _ B3') (ent_cells e3')))
    have B3 : Below (w2.alloc (pathO2 hd A)).heap.size (w2.alloc (pathO2 hd A)) w3 := (Below.refl (w2.alloc (pathO2 hd A)).heap.size (w2.alloc (pathO2 hd A))).drew.trans b3
    clear P1 P2 AH YC x1 C0 B3' e3' B2p e2p b3
    have e3 := keepB (((Below.refl _ w2).alloc (Nat.le_refl _) (pathO2 hd A)).trans (B3.mono (by simp))) e2
    obtain ⟨f0, f1, f2, f3⟩ := ent_cells e3
    have uf := Joins.unfrozen_of_block e3
    have uf0 := uf 0
    have uf1 := uf 1
    clear uf
    go_wp2_with (fail)
    have kb' : e.key.length ≤ 1000000 := by omega
    have vb' : e.value.length ≤ 1000000 := by omega
    have EH : Hid (∀ wx, Below w3.heap.size w3 wx → wx.heap[w.heap.size]? = some (entO e) ∧ wx.cell? ⟨w.heap.size, 0, none⟩ = some (str e.key) ∧ wx.cell? ⟨w.heap.size, 1, none⟩ = some (str e.value) ∧ wx.frozen? ⟨w.heap.size, 0, none⟩ = false ∧ wx.frozen? ⟨w.heap.size, 1, none⟩ = false) := fun wx hw => ⟨keepB hw e3, (ent_cells (keepB hw e3)).1, (ent_cells (keepB hw e3)).2.1, Joins.unfrozen_of_block (keepB hw e3) 0, Joins.unfrozen_of_block (keepB hw e3) 1⟩
    have D3 : Below w3.heap.size w3 w3.drew := (Below.refl _ _).drew
    have P1 := EH.out _ D3
    go_region_held3 (fun w' => w'.heap[w.heap.size]? = some (entO e) ∧ w'.cell? ⟨w.heap.size, 0, none⟩ = some (str e.key) ∧ w'.cell? ⟨w.heap.size, 1, none⟩ = some (str e.value) ∧ w'.frozen? ⟨w.heap.size, 0, none⟩ = false ∧ w'.frozen? ⟨w.heap.size, 1, none⟩ = false)
      (first | exact P1 | exact P2 | exact P3 | (rw [q0]; exact P3) | (rw [q1]; exact P3) | (rw [q0, q1]; exact P3) | (rw [q1, q0]; exact P3))
      (first
        | (go_at_call 41; have g := D3; refine (SC.out _ _ (by first | exact kb' | exact vb')).mono ?_; rintro r w4 ⟨rfl, b4⟩; have D4 := D3.trans (b4.mono D3.size); have P2 := EH.out _ D4; clear D3 g)
        | (go_at_call 41; have g := D4; refine (SC.out _ _ (by first | exact kb' | exact vb')).mono ?_; rintro r w5 ⟨rfl, b5⟩; have D5 := D4.trans (b5.mono D4.size); have P3 := EH.out _ D5; have q0 : w5.setCell ⟨w.heap.size, 0, none⟩ (str e.key) = w5 := setCell_id P3.1 rfl; have q1 : w5.setCell ⟨w.heap.size, 1, none⟩ (str e.value) = w5 := setCell_id P3.1 rfl; clear D4 g))
    have B5 : Below w.heap.size w w5 := B2.trans (((Below.refl _ w2).alloc (Nat.le_refl _) (pathO2 hd A)).trans ((B3.trans (D5.mono B3.size)).mono (by simp)) |>.mono z2)
    have e5 := P3.1
    have p5 := keepB (B3.trans (D5.mono B3.size)) (World.alloc_heap_new w2 (pathO2 hd A))
    have ws : w.heap.size < w2.heap.size := (Array.getElem?_eq_some_iff.1 e2).1
    have w25 : w2.heap.size < w5.heap.size := (Array.getElem?_eq_some_iff.1 p5).1
    clear P1 P2 P3 q0 q1 D5 EH f0 f1 f2 f3 uf0 uf1 e3 B3 e2 B2 z2 b2 e1 b1 B1 B0 SC
  all_goals
    have T5 := HT.out.later B5
    obtain ⟨_, _, _, c3, _⟩ := T5.cells
    obtain ⟨f0, f1, f2, f3⟩ := ent_cells e5
    have g0 := keepC (Below.refl w5.heap.size w5).drew f0
    have g1 := keepC (Below.refl w5.heap.size w5).drew f1
    have g2 := keepC (Below.refl w5.heap.size w5).drew f2
    have g3 := keepC (Below.refl w5.heap.size w5).drew f3
    have g4 := keepC (Below.refl w5.heap.size w5).drew c3
    go_wp2_with (fail)
    go_region
    obtain ⟨w6, hw6⟩ : ∃ w6, w6 = (w5.alloc (ndObj (nd w5.heap.size e ns.length 0) B)).drew := ⟨_, rfl⟩
    have b6 : Below w5.heap.size w5 w6 := by rw [hw6]; exact ((Below.refl _ _).alloc (Nat.le_refl _) _).drew
    have n6 : w6.heap[w5.heap.size]? = some (ndObj (nd w5.heap.size e ns.length 0) B) := by rw [hw6]; exact World.alloc_heap_new w5 _
    rw [show (w5.alloc (Obj.cells #[str e.key, str e.value, Value.int IntKind.i64 e.seq, Value.bool e.del, Value.int IntKind.i64 (ns.length : Int), Value.pointer none, Value.pointer none, Value.pointer none, Value.pointer none, Value.pointer none, Value.pointer none, Value.pointer none, Value.pointer none, Value.pointer none, Value.pointer none, Value.pointer none, Value.pointer none] 65)).drew = w6 from hw6.symm]
    have B6 := B5.trans (b6.mono B5.size)
    have T6 := HT.out.later B6
    have e6 := keepB b6 e5
    have p6 := keepB b6 p5
    clear hw6 g0 g1 g2 g3 g4 f0 f1 f2 f3 c3 T5 p5 e5 b6
    go_wp2_with (first
      | (go_at_call 42; refine (HG.out _ T6).mono ?_; rintro r w7 ⟨rfl, b7⟩; clear HG))
    have hH := Mm.ht_ok T6.hgood ns.length
    have LK : Linking w b hd A B e ns.length w5.heap.size w2.heap.size (.cells (tabCells b hv hd ns.length (bytesOf ns)) 67 (0, 0)) 0 w7 := by
      have ch := T6.chain
      rw [HNS.out] at ch
      have B7 := B6.trans (b7.mono B6.size)
      exact ⟨(Chain.begin (p := hd :: A) ch n6).later b7, keepB b7 T6.blk, keepB b7 p6, keepB b7 e6, Moved.below B7⟩
    have top := T6.top
    have ST : Hid (∀ k wr, k < 12 → Linking w b hd A B e ns.length w5.heap.size w2.heap.size (.cells (tabCells b hv hd ns.length (bytesOf ns)) 67 (0, 0)) k wr → Linking w b hd A B e ns.length w5.heap.size w2.heap.size (.cells (tabCells b hv hd ns.length (bytesOf ns)) 67 (0, 0)) (k + 1) ((wr.setCell ⟨w5.heap.size, 5 + k, none⟩ (ptr (Mm.nxt k B))).setCell ⟨(Mm.lastL k hd A).blk, 5 + k, none⟩ (.pointer (some ⟨w5.heap.size, 0, none⟩)))) := fun k wr hk L => by
      have t := HT.out
      refine L.step hk top ?_ ?_ ?_ ⟨ws, ?_⟩ (Array.getElem?_eq_some_iff.1 t.blk).1
      · rw [← HNS.out]; exact t.apart
      · rw [← HNS.out]; exact t.off
      · rw [← HNS.out]; exact t.chain.lt
      · exact w25
    generalize hHt : Mm.ht hs ns.length = H at *
    clear n6 T6 e6 p6 B6 b7 B5
    go_loopw [59] (fun i wr => ∃ k : Nat, k ≤ H ∧ i = .int .i64 k ∧ Hid (Linking w b hd A B e ns.length w5.heap.size w2.heap.size (.cells (tabCells b hv hd ns.length (bytesOf ns)) 67 (0, 0)) k wr)) (fun i _ => H - (intOf i).toNat)
    case atStart => exact ⟨0, Nat.zero_le _, rfl, LK⟩
    case round =>
      obtain ⟨k, hk, rfl, L⟩ := hrel
      clear LK
      by_cases hlt : k < H
      · obtain ⟨x1, x2, x3, x4, x5⟩ := L.out.cells (by omega) top
        have k12 : k < 12 := by omega
        have i12 : (k : Int) < 12 := by omega
        have L2 := hide (ST.out k wr k12 L.out)
        obtain ⟨pv, hpv⟩ : ∃ pv, ptr (Mm.nxt k B) = .pointer pv := by cases Mm.nxt k B <;> exact ⟨_, rfl⟩
        rw [hpv] at x2 L2
        have ne : (Mm.lastL k hd A).blk ≠ w5.heap.size := by
          have := HT.out.chain.lt (Mm.lastL k hd A) (by rw [HNS.out, ← List.cons_append]; exact List.mem_append.2 (.inl (last_mem k hd A top k12)))
          omega
        clear ST hpv L HT HNS HA HB
        go_wp2_with (fail)
        go_region
        go_wp2_with (fail)
        exact ⟨⟨k + 1, by omega, by go_num, L2.out.drew rfl rfl rfl rfl⟩, by simp [intOf]; omega⟩
      · obtain rfl : k = H := by omega
        have i3 : ¬ (k : Int) < (k : Int) := by omega
        have d3 := Joins.cell_of_block L.out.tab 3
        have d4 := Joins.cell_of_block L.out.tab 4
        have u3 := Joins.unfrozen_of_block L.out.tab 3
        have u4 := Joins.unfrozen_of_block L.out.tab 4
        obtain ⟨f0, f1, f2, f3⟩ := ent_cells L.out.ent
        have d3' : wr.cell? ⟨b, 3, none⟩ = some (.int .i64 (ns.length : Int)) := d3
        have d4' : wr.cell? ⟨b, 4, none⟩ = some (.int .i64 (bytesOf ns : Int)) := d4
        have bn : w.heap.size ≠ b := by
          have := (Array.getElem?_eq_some_iff.1 HT.out.blk).1
          omega
        have q1 : bytesOf ns ≤ 1000000000 := hbytes
        clear d3 d4 ST
        go_wp2_with (fail)
        go_region
        go_wp2_with (fail)
        go_ret
        have FIN := tab_more HT.out HM.out hth'.out HA.out HB.out (n := w5.heap.size) (wp := w2.heap.size) (by omega) (by rw [hHt]; exact L.out)
        exact ⟨rfl, w5.heap.size, by omega, FIN.1, FIN.2⟩
set_option maxRecDepth 100000 in
set_option maxHeartbeats 4000000 in
theorem add_bad (w : World) (b : Nat) (hv : Value) (hs : List Nat) (hd : Mm.Nd) (ns : List Mm.Nd) (T : TabAt w b hv hs hd ns) (e : Mm.Ent) (hm : Mm.may e = false) (hk : e.key.length ≤ 1000000) (hvl : e.value.length ≤ 1000000) :
    Calls Try.prog 15 #[.pointer (some ⟨b, 0, none⟩), entV e] w fun r w' => r = .returned (.int .i64 2) ∧ Below w.heap.size w w' := by
  have B0 : Below w.heap.size w (w.alloc (entO e)) := (Below.refl _ _).alloc (Nat.le_refl _) _
  have MD := hide (made_yes (w.alloc (entO e)) b (T.later B0).cells.1)
  have CK : Hid (∀ wx, Calls Try.prog 11 #[entV e] wx fun r w' => r = .returned (.int .i64 2) ∧ Below wx.heap.size wx w') := fun wx => by
    have := mcheck_any wx e hk hvl
    rw [show Mm.checkE e = 2 by unfold Mm.checkE; rw [hm]; rfl] at this
    exact this
  clear T hm hk hvl
  go_enter Try.func15, Try.ntmps15
  go_wp2_with (first
    | (go_at_call 39; refine still MD.out ?_; clear MD)
    | (go_at_call 11; refine (CK.out _).mono ?_; rintro r w1 ⟨rfl, b1⟩; have B1 := B0.trans (b1.mono B0.size); clear CK))
  go_ret
  exact ⟨rfl, B1⟩

set_option maxRecDepth 100000 in
set_option maxHeartbeats 4000000 in
theorem add_there (w : World) (b : Nat) (hv : Value) (hs : List Nat) (hd : Mm.Nd) (ns : List Mm.Nd) (T : TabAt w b hv hs hd ns) (e : Mm.Ent) (hm : Mm.may e = true) (hn : ns.length ≤ 100000) (y : Mm.Nd) (hy : (Mm.back e ns).head? = some y) (ha : Mm.ahead e y.ent = false) :
    Calls Try.prog 15 #[.pointer (some ⟨b, 0, none⟩), entV e] w fun r w' => r = .returned (.int .i64 9) ∧ Below w.heap.size w w' := by
  obtain ⟨A, hA⟩ : ∃ A, A = Mm.front e ns := ⟨_, rfl⟩
  obtain ⟨r, hr⟩ : ∃ r, Mm.back e ns = y :: r := by
    cases hb : Mm.back e ns with
    | nil => rw [hb] at hy; cases hy
    | cons z r => rw [hb] at hy; exact ⟨r, by cases hy; rfl⟩
  have hns : ns = A ++ y :: r := by rw [hA, ← hr, Mm.parts]
  obtain ⟨s1, s2, kb, vb⟩ := may_bounds hm
  have HT := hide T
  have MD : Hid (∀ wx, Below w.heap.size w wx → Calls Try.prog 39 #[.pointer (some ⟨b, 0, none⟩)] wx fun r w' => r = .returned (.bool true) ∧ w' = wx) := fun wx hw => made_yes wx b (HT.out.later hw).cells.1
  have CK : Hid (∀ wx, Calls Try.prog 11 #[entV e] wx fun r w' => r = .returned (.int .i64 0) ∧ Below wx.heap.size wx w') := fun wx => by
    have := mcheck_any wx e (by omega) (by omega)
    rw [show Mm.checkE e = 0 by unfold Mm.checkE; rw [hm]; rfl] at this
    exact this
  have FD : Hid (∀ wx, Below w.heap.size w wx → Calls Try.prog 40 #[.pointer (some ⟨b, 0, none⟩), entV e] wx fun r w' => (∃ c : Int, r = .returned (.tuple #[.agg #[pt hd A 0, pt hd A 1, pt hd A 2, pt hd A 3, pt hd A 4, pt hd A 5, pt hd A 6, pt hd A 7, pt hd A 8, pt hd A 9, pt hd A 10, pt hd A 11], .int .i64 c])) ∧ Below wx.heap.size wx w') := fun wx hw => by
    have t := HT.out.later hw
    refine (find_any wx b hd ns t.cells.2.2.1 t.chain t.sorted t.top (by omega) e).mono ?_
    rintro r w' ⟨rfl, bb⟩
    exact ⟨⟨_, by rw [hA]; rfl⟩, bb⟩
  have C0 : Hid (∀ wx, Below w.heap.size w wx → wx.cell? ⟨(Mm.lastL 0 hd A).blk, 5, none⟩ = some (.pointer (some ⟨y.blk, 0, none⟩))) := fun wx hw => by
    have t := HT.out.later hw
    have ch := t.chain
    rw [hns] at ch
    have := (ch.last 0 (by omega) t.top).1
    rw [Mm.nxt_zero (fun x hx => (t.tall x (by rw [hns]; exact List.mem_append.2 (.inr hx))).1)] at this
    exact this
  have YC : Hid (∀ wx, Below w.heap.size w wx → (wx.cell? ⟨y.blk, 0, none⟩ = some (str y.ent.key) ∧ wx.cell? ⟨y.blk, 1, none⟩ = some (str y.ent.value) ∧ wx.cell? ⟨y.blk, 2, none⟩ = some (.int .i64 y.ent.seq) ∧ wx.cell? ⟨y.blk, 3, none⟩ = some (.bool y.ent.del))) := fun wx hw => by
    have ch := (HT.out.later hw).chain
    rw [hns] at ch
    obtain ⟨q0, q1, q2, q3, _⟩ := Chain.cells (p := hd :: A) ch
    exact ⟨q0, q1, q2, q3⟩
  have AH : Hid (∀ wx : World, Calls Try.prog 13 #[entV e, entV y.ent] wx fun r w' => r = .returned (.bool false) ∧ Below wx.heap.size wx w') := fun wx => by
    have := ahead_any wx e y.ent
    rw [ha] at this
    exact this
  have B0 : Below w.heap.size w (w.alloc (entO e)) := (Below.refl _ _).alloc (Nat.le_refl _) _
  clear hm ha hy hr hns hA T HT s1 s2 kb vb hn
  go_enter Try.func15, Try.ntmps15
  go_wp2_with (first
    | (go_at_call 39; refine still (MD.out _ B0) ?_; clear MD)
    | (go_at_call 11; refine (CK.out _).mono ?_; rintro r w1 ⟨rfl, b1⟩; have B1 := B0.trans (b1.mono B0.size); have e1 := keepB b1 (World.alloc_heap_new w (entO e)); obtain ⟨f0, f1, f2, f3⟩ := ent_cells e1; clear CK)
    | (go_at_call 40; refine (FD.out _ B1).mono ?_; rintro r w2 ⟨⟨c, rfl⟩, b2⟩; have B2 := B1.trans (b2.mono B1.size); have z2 := B2.size; have x1 := fun o => C0.out (w2.alloc o) (B2.alloc z2 o); have e2 := keepB b2 e1; clear FD f0 f1 f2 f3))
  have B2p : Below w.heap.size w (w2.alloc (pathO2 hd A)).drew := (B2.alloc z2 _).drew
  have e2p : (w2.alloc (pathO2 hd A)).drew.heap[w.heap.size]? = some (entO e) := keepB ((Below.refl w2.heap.size w2).alloc (Nat.le_refl _) (pathO2 hd A)).drew e2
  have P1 : ((w2.alloc (pathO2 hd A)).drew.cell? ⟨y.blk, 0, none⟩ = some (str y.ent.key) ∧ (w2.alloc (pathO2 hd A)).drew.cell? ⟨y.blk, 1, none⟩ = some (str y.ent.value) ∧ (w2.alloc (pathO2 hd A)).drew.cell? ⟨y.blk, 2, none⟩ = some (.int .i64 y.ent.seq) ∧ (w2.alloc (pathO2 hd A)).drew.cell? ⟨y.blk, 3, none⟩ = some (.bool y.ent.del)) ∧ (w2.alloc (pathO2 hd A)).drew.cell? ⟨w.heap.size, 0, none⟩ = some (str e.key) ∧ (w2.alloc (pathO2 hd A)).drew.cell? ⟨w.heap.size, 1, none⟩ = some (str e.value) ∧ (w2.alloc (pathO2 hd A)).drew.cell? ⟨w.heap.size, 2, none⟩ = some (.int .i64 e.seq) ∧ (w2.alloc (pathO2 hd A)).drew.cell? ⟨w.heap.size, 3, none⟩ = some (.bool e.del) := ⟨YC.out _ B2p, ent_cells e2p⟩
  go_region_held3 (fun w' => (w'.cell? ⟨y.blk, 0, none⟩ = some (str y.ent.key) ∧ w'.cell? ⟨y.blk, 1, none⟩ = some (str y.ent.value) ∧ w'.cell? ⟨y.blk, 2, none⟩ = some (.int .i64 y.ent.seq) ∧ w'.cell? ⟨y.blk, 3, none⟩ = some (.bool y.ent.del)) ∧ w'.cell? ⟨w.heap.size, 0, none⟩ = some (str e.key) ∧ w'.cell? ⟨w.heap.size, 1, none⟩ = some (str e.value) ∧ w'.cell? ⟨w.heap.size, 2, none⟩ = some (.int .i64 e.seq) ∧ w'.cell? ⟨w.heap.size, 3, none⟩ = some (.bool e.del))
    (first | exact P1 | exact P2)
    (first | (go_at_call 13; refine (AH.out _).mono ?_; rintro r w3 ⟨rfl, b3⟩; have B3' := B2p.trans (b3.mono B2p.size); have e3' := keepB b3 e2p; have P2 := And.intro (YC.out _ B3') (ent_cells e3')))
  go_wp2_with (fail)
  go_ret
  exact ⟨rfl, B3'⟩
end Go.Proofs.Ytbdgdigpnfpnhaa.Q.P
