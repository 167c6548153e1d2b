/-
  The search of a memtable: of each lane the last entry ahead of the one that is looked for, and how many entries were looked at.
-/
import Derived.Test.YtbdgdigpnfpnhaaMRep
namespace Go.Proofs.Ytbdgdigpnfpnhaa.Q.P
open Go.RowKit

abbrev pt (hd : Mm.Nd) (a : List Mm.Nd) (k : Nat) : Value := .pointer (some ⟨(Mm.lastL k hd a).blk, 0, none⟩)
def pathV (hd : Mm.Nd) (a : List Mm.Nd) : Value := .agg #[pt hd a 0, pt hd a 1, pt hd a 2, pt hd a 3, pt hd a 4, pt hd a 5, pt hd a 6, pt hd a 7, pt hd a 8, pt hd a 9, pt hd a 10, pt hd a 11]
abbrev pathO : Obj := .cells #[.pointer none, .pointer none, .pointer none, .pointer none, .pointer none, .pointer none, .pointer none, .pointer none, .pointer none, .pointer none, .pointer none, .pointer none] 63

theorem setCell_id {w : World} {g i : Nat} {cs : Array Value} {t : TypeId} {v : Value} (hb : w.heap[g]? = some (.cells cs t (0, 0))) (hv : cs[i]? = some v) : w.setCell ⟨g, i, none⟩ v = w := by
  have hg := (Array.getElem?_eq_some_iff.1 hb).1
  have hi := (Array.getElem?_eq_some_iff.1 hv).1
  have hc : cs.setIfInBounds i v = cs := by
    apply Array.ext_getElem?
    intro l
    by_cases hl : i = l
    · subst hl; rw [Array.getElem?_setIfInBounds_self_of_lt hi, hv]
    · rw [Array.getElem?_setIfInBounds_ne hl]
  have h1 := heap_setCell_same w g i cs t v hb
  rw [hc] at h1
  have h2 : (w.setCell ⟨g, i, none⟩ v).heap = w.heap := by
    apply Array.ext_getElem?
    intro l
    by_cases hl : l = g
    · subst hl; rw [h1, hb]
    · exact heap_setCell_other w _ l v hl
  have h3 : w.setCell ⟨g, i, none⟩ v = { w with heap := (w.setCell ⟨g, i, none⟩ v).heap } := rfl
  rw [h3, h2]

/-- What the search keeps of its own block: the lanes K and above are filled. -/
def PathAt (w : World) (B : Nat) (hd : Mm.Nd) (a : List Mm.Nd) (K : Nat) : Prop := ∃ cs : Array Value, w.heap[B]? = some (.cells cs 63 (0, 0)) ∧ cs.size = 12 ∧ ∀ l, K ≤ l → l < 12 → cs[l]? = some (pt hd a l)

theorem PathAt.put {w : World} {B : Nat} {hd : Mm.Nd} {a : List Mm.Nd} {k : Nat} (h : PathAt w B hd a (k + 1)) (hk : k < 12) {x : Mm.Nd} (hx : Mm.lastL k hd a = x) : PathAt (w.setCell ⟨B, k, none⟩ (.pointer (some ⟨x.blk, 0, none⟩))) B hd a k := by
  obtain ⟨cs, h1, h2, h3⟩ := h
  refine ⟨_, heap_setCell_same w B k cs _ _ h1, by simpa using h2, fun l hl hl2 => ?_⟩
  by_cases e : k = l
  · subst e; rw [Array.getElem?_setIfInBounds_self_of_lt (by omega), ← hx]
  · rw [Array.getElem?_setIfInBounds_ne e]; exact h3 l (by omega) hl2
theorem PathAt.later {w w' : World} {B : Nat} {hd : Mm.Nd} {a : List Mm.Nd} {k : Nat} (h : PathAt w B hd a k) (hb : Below w.heap.size w w') : PathAt w' B hd a k := by
  obtain ⟨cs, h1, h2, h3⟩ := h
  exact ⟨cs, keepB hb h1, h2, h3⟩

set_option maxRecDepth 100000 in
set_option maxHeartbeats 4000000 in
theorem find_any (w : World) (b : Nat) (hd : Mm.Nd) (ns : List Mm.Nd) (hc : w.cell? ⟨b, 2, none⟩ = some (.pointer (some ⟨hd.blk, 0, none⟩))) (ch : Chain w (hd :: ns)) (so : Mm.Sorted ns) (top : hd.h = 12) (hn : ns.length ≤ 1000000) (e : Mm.Ent) :
    Calls Try.prog 40 #[.pointer (some ⟨b, 0, none⟩), entV e] w fun r w' => r = .returned (.tuple #[pathV hd (Mm.front e ns), .int .i64 (Mm.costs (Mm.back e ns) 12 (Mm.front e ns) : Int)]) ∧ Below w.heap.size w w' := by
  have HP : Hid (ns = Mm.front e ns ++ Mm.back e ns) := (Mm.parts e ns).symm
  have HF : Hid (∀ y ∈ Mm.front e ns, Mm.ahead y.ent e = true) := Mm.front_yes
  have HB : Hid (∀ y ∈ Mm.back e ns, Mm.ahead y.ent e = false) := Mm.back_not so
  have HL : Hid (Mm.costs (Mm.back e ns) 12 (Mm.front e ns) ≤ 2000000) := by
    show _ ≤ _
    have h1 := Mm.costs_le (Mm.back e ns) 12 (Mm.front e ns)
    have h2 : ns.length = (Mm.front e ns).length + (Mm.back e ns).length := by rw [← List.length_append, Mm.parts]
    omega
  generalize Mm.front e ns = A at *
  generalize Mm.back e ns = B at *
  obtain ⟨C, hC⟩ : ∃ C, C = Mm.costs B 12 A := ⟨_, rfl⟩
  have HC : Hid (C = Mm.costs B 12 A) := hC
  rw [← hC] at HL ⊢
  have CH : Hid (∀ wx, Below w.heap.size w wx → Chain wx (hd :: (A ++ B))) := fun wx hw => by rw [← HP.out]; exact ch.later hw
  have AH : Hid (∀ (wx : World) (x : Mm.Ent), Calls Try.prog 13 #[entV x, entV e] wx fun r w' => r = .returned (.bool (Mm.ahead x e)) ∧ Below wx.heap.size wx w') := fun wx x => ahead_any wx x e
  have hbz : b < w.heap.size := World.block_lt_of_cell? w _ hc
  have S0 : PathAt ((w.alloc (.cells #[str e.key, str e.value, .int .i64 e.seq, .bool e.del] 38)).alloc pathO) (w.heap.size + 1) hd A 12 := by
    have := World.alloc_heap_new (w.alloc (.cells #[str e.key, str e.value, .int .i64 e.seq, .bool e.del] 38)) pathO
    rw [World.size_alloc] at this
    exact ⟨_, this, rfl, fun l h1 h2 => by omega⟩
  have B0 : Below w.heap.size w ((w.alloc (.cells #[str e.key, str e.value, .int .i64 e.seq, .bool e.del] 38)).alloc pathO) := ((Below.refl _ _).alloc (Nat.le_refl _) _).alloc (by simp) _
  have E0 : ((w.alloc (.cells #[str e.key, str e.value, .int .i64 e.seq, .bool e.del] 38)).alloc pathO).heap[w.heap.size]? = some (.cells #[str e.key, str e.value, .int .i64 e.seq, .bool e.del] 38 (0, 0)) := (Below.heap_alloc _ _ _ (by simp)).trans (World.alloc_heap_new w _)
  have c0 := keepC (Below.mono B0 (Nat.le_refl _)) hc
  clear ch so hn hC hc HP
  go_enter Try.func40, Try.ntmps40
  go_wp2_with (fail)
  go_loopw [5, 6, 7] (fun s a i wr => ∃ (K st : Nat) (P Q : List Mm.Nd) (x : Mm.Nd) (j : Int), K ≤ 12 ∧ i = .int .i64 j ∧ Hid (j = (K : Int) - 1) ∧ s = .int .i64 (st : Int) ∧ a = .pointer (some ⟨x.blk, 0, none⟩) ∧ Hid (hd :: A = P ++ x :: Q) ∧ K ≤ x.h ∧ Hid (st + Mm.costs B K Q = C) ∧ Below w.heap.size w wr ∧ wr.heap[w.heap.size]? = some (.cells #[str e.key, str e.value, .int .i64 e.seq, .bool e.del] 38 (0, 0)) ∧ PathAt wr (w.heap.size + 1) hd A K) (fun _ _ i _ => (intOf i + 1).toNat)
  case atStart => exact ⟨12, 0, [], A, hd, 11, by omega, rfl, rfl, rfl, rfl, rfl, by omega, by show _ = _; rw [HC.out]; omega, B0, E0, S0⟩
  case round =>
    obtain ⟨K, st, P, Q, x, i, hK, rfl, HI, rfl, rfl, HZ, hx, HS, bw, ew, pw⟩ := hrel
    clear B0 E0 S0 c0
    cases K with
    | zero =>
      obtain rfl : i = -1 := HI.out
      have HE : Hid (st = C) := by have := HS.out; rw [Mm.costs] at this; exact this
      obtain ⟨cs, h1, h2, h3⟩ := pw
      have ecs : cs = #[pt hd A 0, pt hd A 1, pt hd A 2, pt hd A 3, pt hd A 4, pt hd A 5, pt hd A 6, pt hd A 7, pt hd A 8, pt hd A 9, pt hd A 10, pt hd A 11] := by
        apply Array.ext_getElem?
        intro l
        by_cases hl : l < 12
        · rw [h3 l (Nat.zero_le _) hl]
          match l, hl with
          | 0, _ => rfl
          | 1, _ => rfl
          | 2, _ => rfl
          | 3, _ => rfl
          | 4, _ => rfl
          | 5, _ => rfl
          | 6, _ => rfl
          | 7, _ => rfl
          | 8, _ => rfl
          | 9, _ => rfl
          | 10, _ => rfl
          | 11, _ => rfl
        · rw [Array.getElem?_eq_none (by omega), Array.getElem?_eq_none (by simp; omega)]
      rw [ecs] at h1
      have y0 := Joins.cell_of_block h1 0
      have y1 := Joins.cell_of_block h1 1
      have y2 := Joins.cell_of_block h1 2
      have y3 := Joins.cell_of_block h1 3
      have y4 := Joins.cell_of_block h1 4
      have y5 := Joins.cell_of_block h1 5
      have y6 := Joins.cell_of_block h1 6
      have y7 := Joins.cell_of_block h1 7
      have y8 := Joins.cell_of_block h1 8
      have y9 := Joins.cell_of_block h1 9
      have y10 := Joins.cell_of_block h1 10
      have y11 := Joins.cell_of_block h1 11
      have uf := Joins.unfrozen_of_block h1
      clear h2 h3 ecs HC HF HB HL CH AH
      go_wp2_with (fail)
      rw [setCell_id h1 rfl, setCell_id h1 rfl, setCell_id h1 rfl, setCell_id h1 rfl, setCell_id h1 rfl, setCell_id h1 rfl, setCell_id h1 rfl, setCell_id h1 rfl, setCell_id h1 rfl, setCell_id h1 rfl, setCell_id h1 rfl, setCell_id h1 rfl]
      refine bodyPost_ret (v := .tuple #[pathV hd A, .int .i64 (st : Int)]) (by simp [results, Try.results40, go_sem, y0, y1, y2, y3, y4, y5, y6, y7, y8, y9, y10, y11, pathV]) rfl ?_
      exact ⟨by rw [HE.out], bw⟩
    | succ k =>
      obtain rfl : i = (k : Int) := by have := HI.out; omega
      have k12 : k < 12 := by omega
      have l0 : wr.cell? ⟨x.blk, 5 + k, none⟩ = some (ptr (Mm.nxt k (Q ++ B))) := by
        have chw := CH.out _ bw
        have zx : hd :: (A ++ B) = P ++ x :: (Q ++ B) := by rw [← List.cons_append, HZ.out]; simp
        rw [zx] at chw
        exact chw.lane k k12 (decide_eq_true (by omega))
      have HS2 : Hid (st + (Mm.cnt k Q + Mm.one k B + Mm.costs B k (Mm.rest k Q)) = C) := HS.out
      have hx2 : k < x.h := hx
      clear HI HS hx hK
      go_wp2_with (fail)
      go_loopw [5, 6, 8] (fun s a n wy => ∃ (st : Nat) (P Q : List Mm.Nd) (x : Mm.Nd), s = .int .i64 (st : Int) ∧ a = .pointer (some ⟨x.blk, 0, none⟩) ∧ n = ptr (Mm.nxt k (Q ++ B)) ∧ Hid (hd :: A = P ++ x :: Q) ∧ k < x.h ∧ Hid (st + (Mm.cnt k Q + Mm.one k B + Mm.costs B k (Mm.rest k Q)) = C) ∧ Below w.heap.size w wy ∧ wy.heap[w.heap.size]? = some (.cells #[str e.key, str e.value, .int .i64 e.seq, .bool e.del] 38 (0, 0)) ∧ PathAt wy (w.heap.size + 1) hd A (k + 1)) (fun s _ _ _ => C + 1 - (intOf s).toNat)
      case atStart => exact ⟨st, P, Q, x, rfl, rfl, rfl, HZ, hx2, HS2, bw, ew, pw⟩
      case round =>
        clear l0 HZ hx2 HS2 bw ew pw
        obtain ⟨st, P, Q, x, rfl, rfl, rfl, HZ, hx, HS, bw, ew, pw⟩ := hrel
        have ec0 := Joins.cell_of_block ew 0
        have ec1 := Joins.cell_of_block ew 1
        have ec2 := Joins.cell_of_block ew 2
        have ec3 := Joins.cell_of_block ew 3
        have zx : hd :: (A ++ B) = P ++ x :: (Q ++ B) := by rw [← List.cons_append, HZ.out]; simp
        have stC : st ≤ C := by have := HS.out; omega
        have stL : st ≤ 2000000 := by have := HL.out; omega
        cases hq : Mm.nxt k Q with
        | some y =>
          obtain ⟨Q1, Q2, eQ, oy, h1⟩ := Mm.nxt_some hq
          have en : Mm.nxt k (Q ++ B) = some y := by rw [Mm.nxt_append, hq]; rfl
          rw [en]
          have zy : hd :: A = (P ++ x :: Q1) ++ y :: Q2 := by rw [HZ.out, eQ]; simp
          have zyB : hd :: (A ++ B) = (P ++ x :: Q1) ++ y :: (Q2 ++ B) := by rw [← List.cons_append, zy]; simp
          have ay : Mm.ahead y.ent e = true := HF.out y (by
            have : y ∈ (P ++ x :: Q1) ++ y :: Q2 := by simp
            cases P with
            | nil => cases zy; simp
            | cons z P => cases zy; simp)
          have HR : Hid (st + 1 + (Mm.cnt k Q2 + Mm.one k B + Mm.costs B k (Mm.rest k Q2)) = C) := by
            show _ = _
            have := HS.out
            rw [eQ, Mm.cnt_move oy h1, Mm.rest_move oy] at this
            omega
          have HZ2 : Hid (hd :: A = (P ++ x :: Q1) ++ y :: Q2) := zy
          have hy : k < y.h := of_decide_eq_true oy
          have KC : Hid (∀ wx, Below wr.heap.size wr wx → (wx.cell? ⟨y.blk, 0, none⟩ = some (str y.ent.key) ∧ wx.cell? ⟨y.blk, 1, none⟩ = some (str y.ent.value) ∧ wx.cell? ⟨y.blk, 2, none⟩ = some (.int .i64 y.ent.seq) ∧ wx.cell? ⟨y.blk, 3, none⟩ = some (.bool y.ent.del)) ∧ wx.cell? ⟨w.heap.size, 0, none⟩ = some (str e.key) ∧ wx.cell? ⟨w.heap.size, 1, none⟩ = some (str e.value) ∧ wx.cell? ⟨w.heap.size, 2, none⟩ = some (.int .i64 e.seq) ∧ wx.cell? ⟨w.heap.size, 3, none⟩ = some (.bool e.del)) := fun wx hw => by
            have ch := CH.out _ bw
            rw [zyB] at ch
            obtain ⟨q0, q1, q2, q3, _⟩ := (ch.later hw).cells
            exact ⟨⟨q0, q1, q2, q3⟩, keepC hw ec0, keepC hw ec1, keepC hw ec2, keepC hw ec3⟩
          have LN : Hid (∀ wx, Below wr.heap.size wr wx → wx.cell? ⟨y.blk, 5 + k, none⟩ = some (ptr (Mm.nxt k (Q2 ++ B)))) := fun wx hw => by
            have ch := CH.out _ bw
            rw [zyB] at ch
            exact (ch.later hw).lane k k12 oy
          have A1 : Hid (Calls Try.prog 13 #[entV y.ent, entV e] wr.drew fun r w' => r = .returned (.bool true) ∧ Below wr.drew.heap.size wr.drew w') := by
            have := AH.out wr.drew y.ent
            rw [ay] at this
            exact this
          have P1 := KC.out wr.drew (Below.refl _ _).drew
          clear hq en zy zyB zx ay eQ h1 oy HS hx ec0 ec1 ec2 ec3 HF HB CH AH HC HL
          rw [show ptr (some y) = .pointer (some ⟨y.blk, 0, none⟩) from rfl]
          go_wp2_with (fail)
          go_region_held3 (fun w' => (w'.cell? ⟨y.blk, 0, none⟩ = some (str y.ent.key) ∧ w'.cell? ⟨y.blk, 1, none⟩ = some (str y.ent.value) ∧ w'.cell? ⟨y.blk, 2, none⟩ = some (.int .i64 y.ent.seq) ∧ w'.cell? ⟨y.blk, 3, none⟩ = some (.bool y.ent.del)) ∧ w'.cell? ⟨w.heap.size, 0, none⟩ = some (str e.key) ∧ w'.cell? ⟨w.heap.size, 1, none⟩ = some (str e.value) ∧ w'.cell? ⟨w.heap.size, 2, none⟩ = some (.int .i64 e.seq) ∧ w'.cell? ⟨w.heap.size, 3, none⟩ = some (.bool e.del))
            (first | exact P1 | exact P2)
            (first | (go_at_call 13; refine A1.out.mono ?_; rintro r w1 ⟨rfl, b1⟩; have b2 := (Below.refl wr.heap.size wr).drew.trans b1; have P2 := KC.out _ b2; have l1 := LN.out _ b2))
          go_wp2_with (fail)
          exact ⟨⟨st + 1, _, Q2, y, by go_num, rfl, rfl, HZ2, hy, HR, bw.trans (b2.mono bw.size), keepB b2 ew, pw.later b2⟩, by simp [intOf]; omega⟩
        | none =>
          have hno := Mm.nxt_none.1 hq
          have HX : Hid (Mm.lastL k hd A = x) := Mm.lastL_at HZ.out (decide_eq_true hx) hno
          have hx3 : k ≤ x.h := by omega
          cases hb : Mm.nxt k B with
          | none =>
            have en : Mm.nxt k (Q ++ B) = none := by rw [Mm.nxt_append, hq, hb]; rfl
            rw [en, show ptr none = .pointer none from rfl]
            have HR : Hid (st + Mm.costs B k Q = C) := by
              show _ = _
              have := HS.out
              rw [Mm.cnt_none hno, Mm.rest_none hno, show Mm.one k B = 0 by unfold Mm.one; rw [Mm.any_none (Mm.nxt_none.1 hb)]; rfl] at this
              omega
            have uf : ∀ j, wr.frozen? ⟨w.heap.size + 1, j, none⟩ = false := by
              obtain ⟨cs, q1, _, _⟩ := pw
              exact Joins.unfrozen_of_block q1
            have uc : ∃ u, wr.cell? ⟨w.heap.size + 1, k, none⟩ = some u := by
              obtain ⟨cs, q1, q2, _⟩ := pw
              exact ⟨cs[k], (Joins.cell_of_block q1 k).trans (Array.getElem?_eq_getElem (by omega))⟩
            obtain ⟨u, uc⟩ := uc
            have uf1 := uf k
            clear hq hb en hno HS hx ec0 ec1 ec2 ec3 HF HB CH AH HC HL zx uf stL stC
            go_wp2_with (fail)
            exact ⟨⟨k, st, P, Q, x, _, by omega, rfl, rfl, rfl, rfl, HZ, hx3, HR, bw.setCell (by show w.heap.size ≤ w.heap.size + 1; omega) _, (heap_setCell_other wr _ _ _ (by show w.heap.size ≠ w.heap.size + 1; omega)).trans ew, pw.put k12 HX.out⟩, by simp [intOf]⟩
          | some y =>
            obtain ⟨B1, B2, eB, oy, h1⟩ := Mm.nxt_some hb
            have en : Mm.nxt k (Q ++ B) = some y := by rw [Mm.nxt_append, hq, hb]; rfl
            rw [en, show ptr (some y) = .pointer (some ⟨y.blk, 0, none⟩) from rfl]
            have zyB : hd :: (A ++ B) = (hd :: (A ++ B1)) ++ y :: B2 := by rw [eB]; simp
            have ay : Mm.ahead y.ent e = false := HB.out y (by rw [eB]; simp)
            have HR : Hid (st + 1 + Mm.costs B k Q = C) := by
              show _ = _
              have := HS.out
              rw [Mm.cnt_none hno, Mm.rest_none hno, show Mm.one k B = 1 by unfold Mm.one; rw [List.any_eq_true.2 ⟨y, by rw [eB]; simp, oy⟩]; rfl] at this
              omega
            have KC : Hid (∀ wx, Below wr.heap.size wr wx → (wx.cell? ⟨y.blk, 0, none⟩ = some (str y.ent.key) ∧ wx.cell? ⟨y.blk, 1, none⟩ = some (str y.ent.value) ∧ wx.cell? ⟨y.blk, 2, none⟩ = some (.int .i64 y.ent.seq) ∧ wx.cell? ⟨y.blk, 3, none⟩ = some (.bool y.ent.del)) ∧ wx.cell? ⟨w.heap.size, 0, none⟩ = some (str e.key) ∧ wx.cell? ⟨w.heap.size, 1, none⟩ = some (str e.value) ∧ wx.cell? ⟨w.heap.size, 2, none⟩ = some (.int .i64 e.seq) ∧ wx.cell? ⟨w.heap.size, 3, none⟩ = some (.bool e.del)) := fun wx hw => by
              have ch := CH.out _ bw
              rw [zyB] at ch
              obtain ⟨q0, q1, q2, q3, _⟩ := (ch.later hw).cells
              exact ⟨⟨q0, q1, q2, q3⟩, keepC hw ec0, keepC hw ec1, keepC hw ec2, keepC hw ec3⟩
            have A1 : Hid (Calls Try.prog 13 #[entV y.ent, entV e] wr.drew fun r w' => r = .returned (.bool false) ∧ Below wr.drew.heap.size wr.drew w') := by
              have := AH.out wr.drew y.ent
              rw [ay] at this
              exact this
            have P1 := KC.out wr.drew (Below.refl _ _).drew
            have PU : Hid (∀ wx, Below wr.heap.size wr wx → wx.frozen? ⟨w.heap.size + 1, k, none⟩ = false ∧ ∃ u, wx.cell? ⟨w.heap.size + 1, k, none⟩ = some u) := fun wx hw => by
              obtain ⟨cs, q1, q2, _⟩ := pw.later hw
              exact ⟨Joins.unfrozen_of_block q1 k, cs[k], (Joins.cell_of_block q1 k).trans (Array.getElem?_eq_getElem (by omega))⟩
            clear hq hb en hno HS hx ec0 ec1 ec2 ec3 HF HB CH AH HC HL zx zyB ay eB h1 oy stC
            go_wp2_with (fail)
            go_region_held3 (fun w' => (w'.cell? ⟨y.blk, 0, none⟩ = some (str y.ent.key) ∧ w'.cell? ⟨y.blk, 1, none⟩ = some (str y.ent.value) ∧ w'.cell? ⟨y.blk, 2, none⟩ = some (.int .i64 y.ent.seq) ∧ w'.cell? ⟨y.blk, 3, none⟩ = some (.bool y.ent.del)) ∧ w'.cell? ⟨w.heap.size, 0, none⟩ = some (str e.key) ∧ w'.cell? ⟨w.heap.size, 1, none⟩ = some (str e.value) ∧ w'.cell? ⟨w.heap.size, 2, none⟩ = some (.int .i64 e.seq) ∧ w'.cell? ⟨w.heap.size, 3, none⟩ = some (.bool e.del))
              (first | exact P1 | exact P2)
              (first | (go_at_call 13; refine A1.out.mono ?_; rintro r w1 ⟨rfl, b1⟩; have b2 := (Below.refl wr.heap.size wr).drew.trans b1; have P2 := KC.out _ b2; obtain ⟨uf1, u, uc⟩ := PU.out _ b2))
            go_wp2_with (fail)
            have B2' := bw.trans (b2.mono bw.size)
            exact ⟨⟨k, st + 1, P, Q, x, _, by omega, rfl, rfl, by go_num, rfl, HZ, hx3, HR, B2'.setCell (by show w.heap.size ≤ w.heap.size + 1; omega) _, (heap_setCell_other w1 _ _ _ (by show w.heap.size ≠ w.heap.size + 1; omega)).trans (keepB b2 ew), (pw.later b2).put k12 HX.out⟩, by simp [intOf]⟩
end Go.Proofs.Ytbdgdigpnfpnhaa.Q.P
