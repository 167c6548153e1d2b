/-
  Filters are made and asked as the document says: the walk.
-/
import Derived.Test.YtanpnibabnedbaaBmLives
import Derived.Test.YtanpnibabnedbaaBmBothW
import Derived.Test.YtanpnibabnedbaaBmRef3
import Derived.Test.YtanpnibabnedbaaBmRef4
import Derived.Test.YtanpnibabnedbaaBmKit
import Derived.Test.YtanpnibabnedbaaKApart
namespace Go.Proofs.Ytanpnibabnedbaa.bloomCalls
open Go.RowKit
open Go.Proofs.Ytanpnibabnedbaa

/-- What Of answers. -/
def okD (d : Int) : Bool := decide (1 ≤ d) && decide (d ≤ 16)
def ofE (d : Int) : Int := if okD d = true then 0 else 2
def ofL (l : List ByteArray) (d : Int) : List UInt8 := if okD d = true then Bm.filt (keysOf l) d.toNat else []

theorem of_any (w : World) (a : Option Addr) (n cap : Nat) (l : List ByteArray) (d : Int) (hn : n = l.length) (h : TextsIn w (.slice a n cap) l) (hl : n ≤ 200) (hs : ∀ s ∈ l, s.size ≤ 600) :
    Calls Try.prog 7 #[.slice a n cap, .int .i64 d] w fun e w' => ∃ ad m cp, e = .returned (.tuple #[.slice ad m cp, .int .i64 (ofE d)]) ∧ m = (ofL l d).length ∧ Ext w.heap.size w (.slice none 0 0) w' (.slice ad m cp) (ofL l d) := by
  by_cases hd : okD d = true
  · have hd' : 1 ≤ d ∧ d ≤ 16 := by simpa [okD] using hd
    obtain ⟨k, rfl⟩ : ∃ k : Nat, d = k := ⟨d.toNat, by omega⟩
    have e1 : ofE (k : Int) = 0 := by unfold ofE; rw [if_pos hd]
    have e2 : ofL l (k : Int) = Bm.filt (keysOf l) k := by unfold ofL; rw [if_pos hd, Int.toNat_natCast]
    rw [e1, e2]
    refine (of_ok w _ l k h (by omega) (fun s hm => by have := hs s hm; omega) (by omega) (by omega)).mono ?_
    rintro e w' ⟨m, rfl, hm, x⟩
    exact ⟨_, m, _, rfl, hm, x⟩
  · have hd' : d < 1 ∨ 16 < d := by
      simp [okD] at hd
      omega
    have e1 : ofE d = 2 := by unfold ofE; rw [if_neg hd]
    have e2 : ofL l d = [] := by unfold ofL; rw [if_neg hd]
    rw [e1, e2]
    refine (of_bad w a n cap d (by omega) hd').mono ?_
    rintro e w' ⟨rfl, rfl⟩
    exact ⟨none, 0, 0, rfl, rfl, ext_nil (World.grownBy.refl _ _)⟩
theorem rof_any (w : World) (a : Option Addr) (n cap : Nat) (l : List ByteArray) (d : Int) (hn : n = l.length) (h : TextsIn w (.slice a n cap) l) (hl : n ≤ 200) (hs : ∀ s ∈ l, s.size ≤ 600) :
    Calls Try.prog 15 #[.slice a n cap, .int .i64 d] w fun e w' => ∃ v, e = .returned (.tuple #[v, .int .i64 (ofE d)]) ∧ BytesIn w' v (ofL l d) ∧ Below w.heap.size w w' := by
  by_cases hd : okD d = true
  · have hd' : 1 ≤ d ∧ d ≤ 16 := by simpa [okD] using hd
    obtain ⟨k, rfl⟩ : ∃ k : Nat, d = k := ⟨d.toNat, by omega⟩
    have e1 : ofE (k : Int) = 0 := by unfold ofE; rw [if_pos hd]
    have e2 : ofL l (k : Int) = Bm.filt (keysOf l) k := by unfold ofL; rw [if_pos hd, Int.toNat_natCast]
    rw [e1, e2]
    exact rof_ok w _ l k h (by omega) (fun s hm => by have := hs s hm; omega) (by omega) (by omega)
  · have hd' : d < 1 ∨ 16 < d := by
      simp [okD] at hd
      omega
    have e1 : ofE d = 2 := by unfold ofE; rw [if_neg hd]
    have e2 : ofL l d = [] := by unfold ofL; rw [if_neg hd]
    rw [e1, e2]
    refine (rof_bad w a n cap d (by omega) hd').mono ?_
    rintro e w' ⟨rfl, rfl⟩
    exact ⟨_, rfl, ⟨⟨none, 0, rfl, fun h => absurd rfl h⟩, by decide⟩, Below.refl _ _⟩

set_option maxRecDepth 100000 in
set_option maxHeartbeats 3200000 in
/-- What is no question: too much of something. -/
theorem walk_big (w : World) (v : Value) (l : List ByteArray) (d : Int) (a1 a2 : Option Addr) (n1 c1 n2 c2 : Nat) (key : ByteArray) (h : TextsIn w v l) (hbig : smallB l = false ∨ 4000 < n1 ∨ 4000 < n2 ∨ 600 < key.size) :
    Calls Try.prog 4 #[v, .int .i64 d, .slice a1 n1 c1, .slice a2 n2 c2, .string key] w fun e w' => e = .returned (.bool true) ∧ Below w.heap.size w w' := by
  have LV := hide (lives_any w)
  have SM : Hid (∀ wx, Below w.heap.size w wx → Calls Try.prog 12 #[v] wx fun e w' => e = .returned (.bool (smallB l)) ∧ w' = wx) := fun wx hw => small_any wx v l (h.later hw)
  clear h
  cases hs : smallB l
  · rw [hs] at SM
    clear hbig hs
    go_enter Try.func4, Try.ntmps4
    go_wp2_with (first
      | (go_at_call 9; refine LV.out.mono ?_; rintro e w1 ⟨rfl, b1⟩; clear LV)
      | (go_at_call 12; refine (SM.out _ b1).mono ?_; rintro e w2 ⟨rfl, rfl⟩; clear SM))
    go_ret
    exact ⟨rfl, b1⟩
  · rw [hs] at SM hbig
    have hb2 : 4000 < n1 ∨ 4000 < n2 ∨ 600 < key.size := by
      rcases hbig with h | h
      · cases h
      · exact h
    clear hbig hs
    by_cases h1 : 4000 < n1
    · have i1 : (n1 : Int) > 4000 := by omega
      clear hb2
      go_enter Try.func4, Try.ntmps4
      go_wp2_with (first
        | (go_at_call 9; refine LV.out.mono ?_; rintro e w1 ⟨rfl, b1⟩; clear LV)
        | (go_at_call 12; refine (SM.out _ b1).mono ?_; rintro e w2 ⟨rfl, rfl⟩; clear SM))
      go_ret
      exact ⟨rfl, b1⟩
    · have i1 : ¬ (n1 : Int) > 4000 := by omega
      by_cases h2 : 4000 < n2
      · have i2 : (n2 : Int) > 4000 := by omega
        clear hb2
        go_enter Try.func4, Try.ntmps4
        go_wp2_with (first
          | (go_at_call 9; refine LV.out.mono ?_; rintro e w1 ⟨rfl, b1⟩; clear LV)
          | (go_at_call 12; refine (SM.out _ b1).mono ?_; rintro e w2 ⟨rfl, rfl⟩; clear SM))
        go_ret
        exact ⟨rfl, b1⟩
      · have i2 : ¬ (n2 : Int) > 4000 := by omega
        have i3 : (key.size : Int) > 600 := by omega
        clear hb2
        go_enter Try.func4, Try.ntmps4
        go_wp2_with (first
          | (go_at_call 9; refine LV.out.mono ?_; rintro e w1 ⟨rfl, b1⟩; clear LV)
          | (go_at_call 12; refine (SM.out _ b1).mono ?_; rintro e w2 ⟨rfl, rfl⟩; clear SM))
        go_ret
        exact ⟨rfl, b1⟩

theorem cut_bytes {w : World} {base g n cap : Nat} {l : List UInt8} (h : w.ownsRow base 5 1 (.slice (some ⟨g, 0, none⟩) (n + 3) cap) (n + 3) (bc (lentB l))) (hn : n = l.length) (hl : n ≤ 100000) : BytesIn w (.slice (some ⟨g, 0, none⟩) n cap) l := by
  have o := own_shrink (xs := l) (ys := [201, 202, 203]) (n := n) h hn (by omega)
  subst hn
  exact bytes_of_own o (by omega)
theorem cut_texts {w : World} {base g n cap : Nat} {l : List ByteArray} (h : w.ownsRow base 9 1 (.slice (some ⟨g, 0, none⟩) (n + 3) cap) (n + 3) (scs (lentS l))) (hn : n = l.length) : TextsIn w (.slice (some ⟨g, 0, none⟩) n cap) l := by
  have t := texts_of_own h (by rw [lentS_length, hn])
  have := bloomBoth.texts_take (n := n) (l := lentS l) (by rw [lentS_length, ← hn]; exact t) (by rw [lentS_length]; omega)
  rwa [show (lentS l).take n = l from by unfold lentS; rw [hn]; simp] at this

theorem own_capS {w : World} {base g n cap : Nat} {xs : List Value} (h : w.ownsRow base 9 1 (.slice (some ⟨g, 0, none⟩) n cap) n xs) : n ≤ cap := by
  rcases h.2 with ⟨e, _⟩ | ⟨g', cap', cur, e, hb', _, hnc, _⟩
  · cases e
  · simp only [Value.slice.injEq, Option.some.injEq, Addr.mk.injEq, and_true, true_and] at e
    omega

theorem four (w W : World) (base : Nat) (v0 v1 v2 v3 : Value) (l0 l1 l2 l3 : List UInt8) (h0 : w.ownsRow base 5 1 v0 l0.length (bc l0)) (h1 : w.ownsRow base 5 1 v1 l1.length (bc l1)) (h2 : w.ownsRow base 5 1 v2 l2.length (bc l2)) (h3 : w.ownsRow base 5 1 v3 l3.length (bc l3))
    (z0 : l0.length ≤ 140737488355328) (z1 : l1.length ≤ 140737488355328) (z2 : l2.length ≤ 140737488355328) (z3 : l3.length ≤ 140737488355328)
    (A0 A1 A2 A3 A4 : Nat) (d2 : Lies v2 A0 A1) (d3 : Lies v3 A1 A2) (d0 : Lies v0 A2 A3) (d1 : Lies v1 A3 A4) (m2 : A1 ≤ A2) (m3 : A2 ≤ A3) (m4 : A3 ≤ A4) (m5 : A4 ≤ w.heap.size) (hbase : base ≤ w.heap.size) (hW : Below base W w) :
    Calls Try.prog 24 #[.slice (some ⟨w.heap.size, 0, none⟩) 4 4] (w.alloc (.cells #[v0, v1, v2, v3] 22)) fun e w' => e = .returned (.bool true) ∧ Below base W w' := by
  have c4 : ∀ k, k < 4 → k = 0 ∨ k = 1 ∨ k = 2 ∨ k = 3 := fun k hk => by omega
  refine (apart_vals (w.alloc (.cells #[v0, v1, v2, v3] 22)) base w.heap.size 4 [(v0, l0), (v1, l1), (v2, l2), (v3, l3)] (by simp) ?_ ?_ ?_ ?_ ?_ (by simp; omega)).mono ?_
  · intro k hk
    rw [cell_of_row _ w.heap.size k _ _ _ (heap_alloc_new w _)]
    rcases c4 k hk with rfl | rfl | rfl | rfl <;> rfl
  · intro k hk
    rcases c4 k hk with rfl | rfl | rfl | rfl
    · exact h0.alloc _
    · exact h1.alloc _
    · exact h2.alloc _
    · exact h3.alloc _
  · intro k hk
    rcases c4 k hk with rfl | rfl | rfl | rfl
    · exact z0
    · exact z1
    · exact z2
    · exact z3
  · intro i k hi hk hik hne e
    rcases c4 i hi with rfl | rfl | rfl | rfl <;> rcases c4 k hk with rfl | rfl | rfl | rfl <;> first | omega | skip
    all_goals
      obtain ⟨g, hg⟩ := Option.ne_none_iff_exists'.mp hne
      have hg2 := e.symm.trans hg
      simp only [List.getElem_cons_zero, List.getElem_cons_succ] at hg hg2
      first
        | (have := d0 g hg; have := d1 g hg2; omega)
        | (have := d0 g hg; have := d2 g hg2; omega)
        | (have := d0 g hg; have := d3 g hg2; omega)
        | (have := d1 g hg; have := d2 g hg2; omega)
        | (have := d1 g hg; have := d3 g hg2; omega)
        | (have := d2 g hg; have := d3 g hg2; omega)
  · intro k hk e
    rcases c4 k hk with rfl | rfl | rfl | rfl
    · have := d0 _ e; omega
    · have := d1 _ e; omega
    · have := d2 _ e; omega
    · have := d3 _ e; omega
  · rintro e w' ⟨rfl, b⟩
    exact ⟨rfl, (hW.alloc hbase _).trans b⟩

set_option maxRecDepth 100000 in
set_option maxHeartbeats 6400000 in
theorem walk_ok (w : World) (a0 a1 a2 : Option Addr) (L n1 n2 ca c1 c2 : Nat) (l : List ByteArray) (la lb : List UInt8) (d : Int) (key : ByteArray) (hL : L = l.length) (h1 : n1 = la.length) (h2 : n2 = lb.length) (h : TextsIn w (.slice a0 L ca) l) (ha : BytesIn w (.slice a1 n1 c1) la) (hb : BytesIn w (.slice a2 n2 c2) lb) (na : a1 = none → c1 = 0) (nb : a2 = none → c2 = 0) (hs : smallB l = true) (s1 : n1 ≤ 4000) (s2 : n2 ≤ 4000) (s3 : key.size ≤ 600) :
    Calls Try.prog 4 #[.slice a0 L ca, .int .i64 d, .slice a1 n1 c1, .slice a2 n2 c2, .string key] w fun e w' => e = .returned (.bool true) ∧ Below w.heap.size w w' := by
  have LV := hide (lives_any w)
  have SM : Hid (∀ wx, Below w.heap.size w wx → Calls Try.prog 12 #[.slice a0 L ca] wx fun e w' => e = .returned (.bool true) ∧ w' = wx) := fun wx hw => by rw [← hs]; exact small_any wx _ l (h.later hw)
  have sl := (smallB_iff l).mp hs
  have LT : Hid (∀ wx, Below w.heap.size w wx → Calls Try.prog 13 #[.slice a0 L ca] wx fun e w' => ∃ g cp, e = .returned (.slice (some ⟨g, 0, none⟩) (L + 3) cp) ∧ w'.ownsRow wx.heap.size 9 1 (.slice (some ⟨g, 0, none⟩) (L + 3) cp) (L + 3) (scs (lentS l)) ∧ Below wx.heap.size wx w') := fun wx hw => lentTexts_any wx a0 L ca l hL (h.later hw) (by omega)
  have LA : Hid (∀ wx, Below w.heap.size w wx → Calls Try.prog 14 #[.slice a1 n1 c1] wx fun e w' => ∃ g cap, e = .returned (.slice (some ⟨g, 0, none⟩) (n1 + 3) cap) ∧ Ext wx.heap.size wx (.slice none 0 0) w' (.slice (some ⟨g, 0, none⟩) (n1 + 3) cap) (lentB la)) := fun wx hw => by
    rw [h1] at ha ⊢
    exact lentBytes_any wx a1 c1 la (ha.later hw) na (by omega)
  have LB : Hid (∀ wx, Below w.heap.size w wx → Calls Try.prog 14 #[.slice a2 n2 c2] wx fun e w' => ∃ g cap, e = .returned (.slice (some ⟨g, 0, none⟩) (n2 + 3) cap) ∧ Ext wx.heap.size wx (.slice none 0 0) w' (.slice (some ⟨g, 0, none⟩) (n2 + 3) cap) (lentB lb)) := fun wx hw => by
    rw [h2] at hb ⊢
    exact lentBytes_any wx a2 c2 lb (hb.later hw) nb (by omega)
  obtain ⟨fE, hfE⟩ : ∃ x, x = ofE d := ⟨_, rfl⟩
  obtain ⟨fL, hfL⟩ : ∃ x, x = ofL l d := ⟨_, rfl⟩
  obtain ⟨bE, hbE⟩ : ∃ x, x = bothE la lb := ⟨_, rfl⟩
  obtain ⟨bL, hbL⟩ : ∃ x, x = bothL la lb := ⟨_, rfl⟩
  obtain ⟨hB, hhB⟩ : ∃ x, x = (Bm.ok la && Bm.has la key.data.toList) := ⟨_, rfl⟩
  obtain ⟨kE, hkE⟩ : ∃ x, x = okE la := ⟨_, rfl⟩
  obtain ⟨H, hH⟩ : ∃ x, x = Bm.hash key.data.toList := ⟨_, rfl⟩
  have zf : fL.length ≤ 140737488355328 := by
    rw [hfL]; unfold ofL
    split
    · rename_i hd
      have hd' : 1 ≤ d ∧ d ≤ 16 := by simpa [okD] using hd
      have : l.length * d.toNat ≤ 200 * 16 := Nat.mul_le_mul sl.1 (by omega)
      rw [Bm.filt_length]; unfold Bm.bytes; simp [keysOf]; omega
    · decide
  have zb : bL.length ≤ 140737488355328 := by
    rw [hbL]; unfold bothL
    split
    · split
      · rename_i hf
        have hfl : la.length = lb.length := by unfold fits at hf; simp at hf; exact hf.1
        rw [Bm.both_length la lb hfl]; omega
      · decide
    · decide
  have OF : Hid (∀ wx g cp, TextsIn wx (.slice (some ⟨g, 0, none⟩) L cp) l → Calls Try.prog 7 #[.slice (some ⟨g, 0, none⟩) L cp, .int .i64 d] wx fun e w' => ∃ ad cp, e = .returned (.tuple #[.slice ad fL.length cp, .int .i64 fE]) ∧ Ext wx.heap.size wx (.slice none 0 0) w' (.slice ad fL.length cp) fL) := fun wx g cp hx => by
    rw [hfE, hfL]
    refine (of_any wx _ L cp l d hL hx (by omega) sl.2).mono ?_
    rintro e w' ⟨ad, m, cp, rfl, rfl, x⟩
    exact ⟨ad, cp, rfl, x⟩
  have RO : Hid (∀ wx, Below w.heap.size w wx → Calls Try.prog 15 #[.slice a0 L ca, .int .i64 d] wx fun e w' => ∃ v, e = .returned (.tuple #[v, .int .i64 fE]) ∧ BytesIn w' v fL ∧ Below wx.heap.size wx w') := fun wx hw => by rw [hfE, hfL]; exact rof_any wx _ L ca l d hL (h.later hw) (by omega) sl.2
  have HA : Hid (∀ wx g cp, n1 ≤ cp → BytesIn wx (.slice (some ⟨g, 0, none⟩) n1 cp) la → Calls Try.prog 8 #[.slice (some ⟨g, 0, none⟩) n1 cp, .string key] wx fun e w' => e = .returned (.tuple #[.bool hB, .int .i64 kE]) ∧ Below wx.heap.size wx w') := fun wx g cp hc hx => by
    rw [h1] at hx hc ⊢; rw [hhB, hkE]; exact has_any wx _ cp la key hx hc (by omega)
  have RH : Hid (∀ wx, Below w.heap.size w wx → Calls Try.prog 16 #[.slice a1 n1 c1, .string key] wx fun e w' => e = .returned (.tuple #[.bool hB, .int .i64 kE]) ∧ Below wx.heap.size wx w') := fun wx hw => by
    rw [h1] at ha ⊢; rw [hhB, hkE]; exact rhas_any wx a1 c1 la key (ha.later hw) (by omega) (by omega)
  have BO : Hid (∀ wx g1 g2 p1 p2, BytesIn wx (.slice (some ⟨g1, 0, none⟩) n1 p1) la → BytesIn wx (.slice (some ⟨g2, 0, none⟩) n2 p2) lb → Calls Try.prog 17 #[.slice (some ⟨g1, 0, none⟩) n1 p1, .slice (some ⟨g2, 0, none⟩) n2 p2] wx fun e w' => ∃ ad cp, e = .returned (.tuple #[.slice ad bL.length cp, .int .i64 bE]) ∧ Ext wx.heap.size wx (.slice none 0 0) w' (.slice ad bL.length cp) bL) := fun wx g1 g2 p1 p2 x1 x2 => by
    rw [h1] at x1 ⊢; rw [h2] at x2 ⊢; rw [hbE, hbL]
    refine (both_any wx _ _ p1 p2 la lb x1 x2).mono ?_
    rintro e w' ⟨v, rfl, x⟩
    obtain ⟨ad, cp, rfl⟩ := x.shape
    exact ⟨ad, cp, rfl, x⟩
  have RB : Hid (∀ wx, Below w.heap.size w wx → Calls Try.prog 18 #[.slice a1 n1 c1, .slice a2 n2 c2] wx fun e w' => ∃ v, e = .returned (.tuple #[v, .int .i64 bE]) ∧ BytesIn w' v bL ∧ Below wx.heap.size wx w') := fun wx hw => by
    rw [h1] at ha ⊢; rw [h2] at hb ⊢; rw [hbE]
    refine (rboth_any wx a1 a2 c1 c2 la lb (ha.later hw) (hb.later hw) na (by omega)).mono ?_
    rintro e w' ⟨v, rfl, x⟩
    rw [← hbL] at x
    exact ⟨v, rfl, bytes_of_own x.own zb, x.below (Nat.le_refl _) (by simp [Value.ownBlock])⟩
  have SB : Hid (∀ m wx v u, BytesIn wx v m → BytesIn wx u m → Calls Try.prog 19 #[v, u] wx fun e w' => e = .returned (.bool true) ∧ Below wx.heap.size wx w') := fun m wx v u hv hu => by
    have := same_any wx v u _ _ hv hu
    rwa [decide_eq_true rfl] at this
  have CH : Hid (∀ wx g cp, BytesIn wx (.slice (some ⟨g, 0, none⟩) n1 cp) la → Calls Try.prog 11 #[.slice (some ⟨g, 0, none⟩) n1 cp] wx fun e w' => e = .returned (.int .i64 kE) ∧ w' = wx) := fun wx g cp hx => by rw [h1] at hx ⊢; rw [hkE]; exact check_any wx _ cp la hx
  have RC : Hid (∀ wx, Below w.heap.size w wx → Calls Try.prog 20 #[.slice a1 n1 c1] wx fun e w' => e = .returned (.int .i64 kE) ∧ w' = wx) := fun wx hw => by rw [h1] at ha ⊢; rw [hkE]; exact rcheck_any wx _ c1 la (ha.later hw)
  have HS : Hid (∀ wx, Calls Try.prog 10 #[.string key] wx fun e w' => e = .returned (.int .u64 (H : Int)) ∧ w' = wx) := fun wx => by rw [hH]; exact hash_any wx key (by omega)
  have RS : Hid (∀ wx, Calls Try.prog 21 #[.string key] wx fun e w' => e = .returned (.int .u64 (H : Int)) ∧ w' = wx) := fun wx => by rw [hH]; exact rhash_any wx key (by omega)
  have KT : Hid (∀ wx g cp, Below w.heap.size w wx → TextsIn wx (.slice (some ⟨g, 0, none⟩) (L + 3) cp) (lentS l) → Calls Try.prog 22 #[.slice (some ⟨g, 0, none⟩) (L + 3) cp, .slice a0 L ca] wx fun e w' => e = .returned (.bool true) ∧ Below wx.heap.size wx w') := fun wx g cp hw hx => keptTexts_any wx _ a0 L ca l hL g cp rfl hx (h.later hw) (by omega)
  have KA : Hid (∀ wx v, Below w.heap.size w wx → BytesIn wx v (lentB la) → Calls Try.prog 23 #[v, .slice a1 n1 c1] wx fun e w' => e = .returned (.bool true) ∧ Below wx.heap.size wx w') := fun wx v hw hx => by rw [h1] at ha ⊢; exact keptBytes_any wx v la hx a1 c1 (ha.later hw) na (by omega)
  have KB : Hid (∀ wx v, Below w.heap.size w wx → BytesIn wx v (lentB lb) → Calls Try.prog 23 #[v, .slice a2 n2 c2] wx fun e w' => e = .returned (.bool true) ∧ Below wx.heap.size wx w') := fun wx v hw hx => by rw [h2] at hb ⊢; exact keptBytes_any wx v lb hx a2 c2 (hb.later hw) nb (by omega)
  have LL : Hid (n1 + 3 = (lentB la).length ∧ n2 + 3 = (lentB lb).length ∧ L + 3 = (lentS l).length ∧ n1 = la.length ∧ n2 = lb.length ∧ L = l.length) := ⟨by rw [lentB_length, h1], by rw [lentB_length, h2], by rw [lentS_length, hL], h1, h2, hL⟩
  have ZA : Hid ((lentB la).length ≤ 140737488355328 ∧ (lentB lb).length ≤ 140737488355328 ∧ fL.length ≤ 140737488355328 ∧ bL.length ≤ 140737488355328) := ⟨by rw [lentB_length]; omega, by rw [lentB_length]; omega, zf, zb⟩
  have SZ : Hid (n1 ≤ 100000 ∧ n2 ≤ 100000) := ⟨by omega, by omega⟩
  have Lle : L ≤ 200 := by omega
  have j1 : ¬ (n1 : Int) > 4000 := by omega
  have j2 : ¬ (n2 : Int) > 4000 := by omega
  have j3 : ¬ (key.size : Int) > 600 := by omega
  have q1 : (fE != fE) = false := by simp
  have q2 : (kE != kE) = false := by simp
  have q3 : (bE != bE) = false := by simp
  have q4 : (hB != hB) = false := by simp
  have q5 : ((H : Int) != (H : Int)) = false := by simp
  clear hfE hfL hbE hbL hhB hkE hH zf zb sl hs h ha hb hL h1 h2 na nb
  go_enter Try.func4, Try.ntmps4
  go_wp2_with (first
    | (go_at_call 9; refine LV.out.mono ?_; rintro e w1 ⟨rfl, B1⟩; clear LV)
    | (go_at_call 12; refine (SM.out _ B1).mono ?_; rintro e w1' ⟨rfl, rfl⟩; clear SM)
    | (go_at_call 13; refine (LT.out _ B1).mono ?_; rintro e w2 ⟨g2, k2, rfl, o2, b2⟩; have B2 := B1.trans (b2.mono B1.size); have kk2 := own_capS o2; have i2 : (L : Int) ≤ (k2 : Int) := (by omega); have O2 := hide o2; clear LT o2)
    | (have gate := LA; go_at_call 14; refine (gate.out _ B2).mono ?_; rintro e w3 ⟨g3, k3, rfl, x3⟩; have b3 : Below w2.heap.size w2 w3 := x3.below (Nat.le_refl _) (by simp [Value.ownBlock]); have B3 := B2.trans (b3.mono B2.size); have O3 : Hid (w3.ownsRow w.heap.size 5 1 (.slice (some ⟨g3, 0, none⟩) (n1 + 3) k3) (n1 + 3) (bc (lentB la))) := own_base (by have := x3.own; rw [← LL.out.1] at this; exact this) B2.size; have D3 := hide (ext_lies x3); have kk3 := (own_cap O3.out).1; have i3 : (n1 : Int) ≤ (k3 : Int) := (by omega); have Y3 : Hid (n1 ≤ k3) := (by show _ ≤ _; omega); clear LA gate x3)
    | (have gate := LB; go_at_call 14; refine (gate.out _ B3).mono ?_; rintro e w4 ⟨g4, k4, rfl, x4⟩; have b4 : Below w3.heap.size w3 w4 := x4.below (Nat.le_refl _) (by simp [Value.ownBlock]); have B4 := B3.trans (b4.mono B3.size); have O4 : Hid (w4.ownsRow w.heap.size 5 1 (.slice (some ⟨g4, 0, none⟩) (n2 + 3) k4) (n2 + 3) (bc (lentB lb))) := own_base (by have := x4.own; rw [← LL.out.2.1] at this; exact this) B3.size; have D4 := hide (ext_lies x4); have kk4 := (own_cap O4.out).1; have i4 : (n2 : Int) ≤ (k4 : Int) := (by omega); have T4 := hide (own_laterS (own_laterS O2.out b3) b4); have P4 := hide (own_later O3.out b4); clear LB gate x4 O2 O3)
    | (go_at_call 7; refine (OF.out _ _ _ (cut_texts T4.out LL.out.2.2.2.2.2)).mono ?_; rintro e w5 ⟨a5, k5, rfl, x5⟩; have b5 : Below w4.heap.size w4 w5 := x5.below (Nat.le_refl _) (by simp [Value.ownBlock]); have B5 := B4.trans (b5.mono B4.size); have F5 : Hid (w5.ownsRow w.heap.size 5 1 (.slice a5 fL.length k5) fL.length (bc fL)) := own_base x5.own B4.size; have D5 := hide (ext_lies x5); have T5 := hide (own_laterS T4.out b5); have P5 := hide (own_later P4.out b5); have S5 := hide (own_later O4.out b5); clear OF x5 T4 P4 O4)
    | (go_at_call 15; refine (RO.out _ B5).mono ?_; rintro e w6 ⟨v6, rfl, u6, b6⟩; have B6 := B5.trans (b6.mono B5.size); have U6 := hide u6; have F6 := hide (own_later F5.out b6); have T6 := hide (own_laterS T5.out b6); have P6 := hide (own_later P5.out b6); have S6 := hide (own_later S5.out b6); clear RO u6 F5 T5 P5 S5)
    | (go_at_call 8; refine (HA.out _ _ _ Y3.out (cut_bytes P6.out LL.out.2.2.2.1 SZ.out.1)).mono ?_; rintro e w7 ⟨rfl, b7⟩; have B7 := B6.trans (b7.mono B6.size); clear HA)
    | (go_at_call 16; refine (RH.out _ B7).mono ?_; rintro e w8 ⟨rfl, b8⟩; have B8 := B7.trans (b8.mono B7.size); have b68 := b7.trans (b8.mono b7.size); have U8 := hide (U6.out.later b68); have F8 := hide (own_later F6.out b68); have T8 := hide (own_laterS T6.out b68); have P8 := hide (own_later P6.out b68); have S8 := hide (own_later S6.out b68); clear RH U6 F6 T6 P6 S6))
  have W1 := hide (cut_bytes (own_later P8.out (Below.refl _ _).drew) LL.out.2.2.2.1 SZ.out.1)
  have W2 := hide (cut_bytes (own_later S8.out (Below.refl _ _).drew) LL.out.2.2.2.2.1 SZ.out.2)
  go_region_held3 (fun _ => True)
    (trivial)
    (first
      | (go_at_call 17; refine (BO.out _ _ _ _ _ W1.out W2.out).mono ?_; rintro e w9 ⟨a9, k9, rfl, x9⟩; have b9 : Below w8.heap.size w8 w9 := (Below.refl _ _).drew.trans (x9.below (Nat.le_refl _) (by simp [Value.ownBlock]))))
  have B9 := B8.trans (b9.mono B8.size)
  have D9 : Hid (Lies (.slice a9 bL.length k9) w8.heap.size w9.heap.size) := fun g hg => x9.own.lt g hg
  have G9 : Hid (w9.ownsRow w.heap.size 5 1 (.slice a9 bL.length k9) bL.length (bc bL)) := own_base x9.own B8.size
  have U9 := hide (U8.out.later b9)
  have F9 := hide (own_later F8.out b9)
  have T9 := hide (own_laterS T8.out b9)
  have P9 := hide (own_later P8.out b9)
  have S9 := hide (own_later S8.out b9)
  have DM : Hid (w3.heap.size ≤ w4.heap.size ∧ w4.heap.size ≤ w5.heap.size ∧ w5.heap.size ≤ w8.heap.size ∧ w8.heap.size ≤ w9.heap.size) := ⟨b4.size, b5.size, Nat.le_trans b6.size b68.size, b9.size⟩
  clear x9 U8 F8 T8 P8 S8 BO W1 W2 b9 b2 b3 b4 b5 b6 b7 b8 b68 B2 B3 B4 B5 B6 B7 B8 kk2 kk3 kk4 i2 i4
  go_wp2_with (first
    | (go_at_call 18; refine (RB.out _ B9).mono ?_; rintro e w10 ⟨v10, rfl, u10, b10⟩; have B10 := B9.trans (b10.mono B9.size); have V10 := hide u10; have U10 := hide (U9.out.later b10); have F10 := hide (own_later F9.out b10); have K10 := b10; clear RB u10 U9)
    | (have gate := F10; go_at_call 19; refine (SB.out fL _ _ _ (bytes_of_own gate.out ZA.out.2.2.1) U10.out).mono ?_; rintro e w11 ⟨rfl, b11⟩; have K11 := K10.trans (b11.mono K10.size); have B11 := B9.trans (K11.mono B9.size); have G11 := hide (own_later G9.out K11); have V11 := hide (V10.out.later b11); clear gate F10 U10 V10 B10 K10 b10)
    | (have gate := G11; go_at_call 19; refine (SB.out bL _ _ _ (bytes_of_own gate.out ZA.out.2.2.2) V11.out).mono ?_; rintro e w12 ⟨rfl, b12⟩; have K12 := K11.trans (b12.mono K11.size); have B12 := B9.trans (K12.mono B9.size); clear gate G11 V11 K11 B11 b11 b12)
    | (go_at_call 11; refine (CH.out _ _ _ (cut_bytes (own_later P9.out K12) LL.out.2.2.2.1 SZ.out.1)).mono ?_; rintro e w13 ⟨rfl, rfl⟩; clear CH)
    | (go_at_call 20; refine (RC.out _ B12).mono ?_; rintro e w13 ⟨rfl, rfl⟩; clear RC)
    | (go_at_call 10; refine (HS.out _).mono ?_; rintro e w13 ⟨rfl, rfl⟩; clear HS)
    | (go_at_call 21; refine (RS.out _).mono ?_; rintro e w13 ⟨rfl, rfl⟩; clear RS)
    | (go_at_call 22; refine (KT.out _ _ _ B12 (texts_of_own (own_laterS T9.out K12) LL.out.2.2.1)).mono ?_; rintro e w14 ⟨rfl, b14⟩; have K14 := K12.trans (b14.mono K12.size); have B14 := B9.trans (K14.mono B9.size); clear KT b14)
    | (have gate := KA; go_at_call 23; refine (gate.out _ _ B14 (bytes_of_own (by rw [← LL.out.1]; exact own_later P9.out K14) ZA.out.1)).mono ?_; rintro e w15 ⟨rfl, b15⟩; have K15 := K14.trans (b15.mono K14.size); have B15 := B9.trans (K15.mono B9.size); clear KA gate b15)
    | (have gate := KB; go_at_call 23; refine (gate.out _ _ B15 (bytes_of_own (by rw [← LL.out.2.1]; exact own_later S9.out K15) ZA.out.2.1)).mono ?_; rintro e w16 ⟨rfl, b16⟩; have K16 := K15.trans (b16.mono K15.size); have B16 := B9.trans (K16.mono B9.size); clear KB gate b16))
  refine (four w16 w w.heap.size _ _ _ _ fL bL (lentB la) (lentB lb) (own_later F9.out K16) (own_later G9.out K16) (by rw [← LL.out.1]; exact own_later P9.out K16) (by rw [← LL.out.2.1]; exact own_later S9.out K16) ZA.out.2.2.1 ZA.out.2.2.2 ZA.out.1 ZA.out.2.1 w2.heap.size w3.heap.size w4.heap.size w5.heap.size w9.heap.size D3.out D4.out D5.out (fun g hg => ⟨Nat.le_trans DM.out.2.2.1 (D9.out g hg).1, (D9.out g hg).2⟩) DM.out.1 DM.out.2.1 (Nat.le_trans DM.out.2.2.1 DM.out.2.2.2) K16.size B16.size B16).mono ?_
  rintro e w17 ⟨rfl, B17⟩
  clear F9 G9 P9 S9 D3 D4 D5 D9 DM K16 K15 K14 K12 T9 B16
  go_wp2_with (fail)
  go_ret
  exact ⟨rfl, B17⟩

theorem walk (w : World) (a0 a1 a2 : Option Addr) (ca c1 c2 : Nat) (l : List ByteArray) (la lb : List UInt8) (d : Int) (key : ByteArray) (h : TextsIn w (.slice a0 l.length ca) l) (ha : BytesIn w (.slice a1 la.length c1) la) (hb : BytesIn w (.slice a2 lb.length c2) lb) (na : a1 = none → c1 = 0) (nb : a2 = none → c2 = 0) :
    Calls Try.prog 4 #[.slice a0 l.length ca, .int .i64 d, .slice a1 la.length c1, .slice a2 lb.length c2, .string key] w fun e w' => e = .returned (.bool true) ∧ Below w.heap.size w w' := by
  by_cases hbig : smallB l = false ∨ 4000 < la.length ∨ 4000 < lb.length ∨ 600 < key.size
  · exact walk_big w _ l d a1 a2 _ c1 _ c2 key h hbig
  · have hs : smallB l = true := by cases h : smallB l; exact absurd (.inl h) hbig; rfl
    have h3 : ¬ (4000 < la.length ∨ 4000 < lb.length ∨ 600 < key.size) := fun h => hbig (.inr h)
    exact walk_ok w a0 a1 a2 _ _ _ ca c1 c2 l la lb d key rfl rfl rfl h ha hb na nb hs (by omega) (by omega) (by omega)
end Go.Proofs.Ytanpnibabnedbaa.bloomCalls
