/-
  readFile: the version that a file's edits make, or that they make none. .. and what follows from it.
-/
import Derived.Test.YtlhnjloimhcpfabGreatDoorYX
import Derived.Test.YtlhnjloimhcpfabGreatDoorYDec
import Derived.Test.YtlhnjloimhcpfabGreatDoorYO
import Derived.Test.YtlhnjloimhcpfabGreatDoorFA
import Derived.Test.YtlhnjloimhcpfabGreatDoorYK
namespace Go.Proofs.YtlhnjloimhcpfabGreatDoor
open Go.RowKit Go.Maps Go.Sort

theorem yscn_sizes : ∀ (n : Nat) (l : List UInt8), l.length ≤ n → (scn l).1.length ≤ l.length ∧ ∀ r ∈ (scn l).1, r.length ≤ l.length
  | 0, l, h => by
    have : l = [] := List.eq_nil_of_length_eq_zero (by omega)
    subst this
    rw [scn_nil]
    simp
  | n + 1, l, h => by
    by_cases h0 : l = []
    · subst h0; rw [scn_nil]; simp
    · by_cases he : rdE l = 0
      · have hN := rdN_pos he
        have hr : (rdR l).length ≤ l.length := by
          unfold rdR
          rw [if_pos he]
          unfold opnL
          split
          · rw [List.length_take, List.length_take, List.length_drop]; omega
          · simp
        have ih := yscn_sizes n (l.drop (rdN l)) (by rw [List.length_drop]; omega)
        rw [scn_good l he]
        rw [List.length_drop] at ih
        refine ⟨by rw [List.length_cons]; omega, fun r hm => ?_⟩
        rcases List.mem_cons.1 hm with rfl | hm
        · exact hr
        · have := ih.2 r hm; omega
      · rw [scn_bad l h0 he]; simp
theorem yscn_few (l : List UInt8) : (scn l).1.length ≤ l.length := (yscn_sizes _ l (Nat.le_refl _)).1
theorem yscn_short (l : List UInt8) : ∀ r ∈ (scn l).1, r.length ≤ l.length := (yscn_sizes _ l (Nat.le_refl _)).2

/-- What readFile answers. -/
def FileOut (base : Nat) (L : List UInt8) (w' : World) (ta : Option Addr) (tn tc : Nat) (lo se ne E : Int) : Prop :=
  (∃ v, Mf.fileV L = some v ∧ E = 0 ∧ tn = v.tabs.length ∧ lo = v.log ∧ se = v.seq ∧ ne = v.next ∧ w'.ownsRow base 43 5 (.slice ta tn tc) tn (mcs v.tabs)) ∨ (Mf.fileV L = none ∧ E = 6 ∧ ta = none ∧ tn = 0 ∧ tc = 0 ∧ lo = 0 ∧ se = 0 ∧ ne = 0)

/-- What the loop over the records holds: the version so far in its block, its tables, the records, the answer's block. -/
structure RfIn (w wr : World) (B : Nat) (a2 : Option Addr) (n c2 : Nat) (rs : List (List UInt8)) (vs : List Value) (v : Mf.Vn) (ta : Option Addr) (tc : Nat) : Prop where
  bel : Below w.heap.size w wr
  res : wr.heap[w.heap.size]? = some (vO (.slice none 0 0) 0 0 0)
  ver : wr.heap[B]? = some (vO (.slice ta v.tabs.length tc) v.log v.seq v.next)
  own : wr.ownsRow w.heap.size 43 5 (.slice ta v.tabs.length tc) v.tabs.length (mcs v.tabs)
  off : (Value.slice ta v.tabs.length tc).ownBlock ≠ some B ∧ (Value.slice ta v.tabs.length tc).ownBlock ≠ some w.heap.size
  recs : Recs w.heap.size wr (.slice a2 n c2) rs vs
  roff : (Value.slice a2 n c2).ownBlock ≠ some B ∧ ∀ k (hk : k < vs.length), (vs[k]).ownBlock ≠ some B
  hi : w.heap.size < B
theorem RfIn.later {w wr wx : World} {B : Nat} {a2 : Option Addr} {n c2 : Nat} {rs : List (List UInt8)} {vs : List Value} {v : Mf.Vn} {ta : Option Addr} {tc : Nat} (h : RfIn w wr B a2 n c2 rs vs v ta tc) (hb : Below wr.heap.size wr wx) : RfIn w wx B a2 n c2 rs vs v ta tc :=
  ⟨h.bel.trans (hb.mono h.bel.size), (hb.block _ (Array.getElem?_eq_some_iff.1 h.res).1).trans h.res, (hb.block _ (Array.getElem?_eq_some_iff.1 h.ver).1).trans h.ver,
   h.own.kept ⟨hb.os, hb.tape, hb.output, hb.size, fun i hi _ => hb.block i hi⟩ (none_kept _), h.off, h.recs.later hb, h.roff, h.hi⟩
theorem RfIn.mts {w wr : World} {B : Nat} {a2 : Option Addr} {n c2 : Nat} {rs : List (List UInt8)} {vs : List Value} {v : Mf.Vn} {ta : Option Addr} {tc : Nat} (h : RfIn w wr B a2 n c2 rs vs v ta tc) : MtsAt wr (.slice ta v.tabs.length tc) v.tabs := MtsAt.own h.own
end Go.Proofs.YtlhnjloimhcpfabGreatDoor
namespace Go.Proofs.YtlhnjloimhcpfabGreatDoor
open Go.RowKit Go.Maps Go.Sort

theorem rf_start {w w0 w2 w3 : World} {a2 : Option Addr} {n c2 : Nat} {rs : List (List UInt8)} {vs : List Value} (h0 : w0.heap[w.heap.size]? = some (vO (.slice none 0 0) 0 0 0)) (B0 : Below w.heap.size w w0) (b2 : Below w0.heap.size w0 w2) (b3 : Below w2.heap.size w2 w3) (hr : Recs w0.heap.size w2 (.slice a2 n c2) rs vs) :
    RfIn w (w3.alloc (vO (.slice none 0 0) 1 0 1)) w3.heap.size a2 n c2 rs vs Mf.first none 0 := by
  have s0 := (Array.getElem?_eq_some_iff.1 h0).1
  have b23 := b2.trans (b3.mono b2.size)
  have b2x : Below w0.heap.size w0 (w3.alloc (vO (.slice none 0 0) 1 0 1)) := b23.trans ((Below.refl _ _).alloc b23.size _)
  have b3x : Below w2.heap.size w2 (w3.alloc (vO (.slice none 0 0) 1 0 1)) := b3.trans ((Below.refl _ _).alloc b3.size _)
  refine ⟨B0.trans (b2x.mono B0.size), (b2x.block _ s0).trans h0, World.alloc_heap_new w3 _, World.ownsRow_nil _ _ _ _, ⟨(fun e => by cases e), (fun e => by cases e)⟩, (hr.later b3x).mono B0.size, ⟨fun e => ?_, fun k hk e => ?_⟩, ?_⟩
  · have := (hr.row.lt _ e).2
    have := b3.size
    omega
  · have hk' : k < rs.length := by rw [← hr.len]; exact hk
    have := ((hr.own k hk hk').lt _ e).2
    have := b3.size
    omega
  · have := b23.size
    omega

/-- The next version is stored into its block. -/
theorem RfIn.store {w wx : World} {B : Nat} {a2 : Option Addr} {n c2 : Nat} {rs : List (List UInt8)} {vs : List Value} {v u : Mf.Vn} {ta ga : Option Addr} {tc gc : Nat} (h : RfIn w wx B a2 n c2 rs vs v ta tc) (ho : wx.ownsRow (B + 1) 43 5 (.slice ga u.tabs.length gc) u.tabs.length (mcs u.tabs)) :
    RfIn w ((((wx.setCell ⟨B, 0, none⟩ (.slice ga u.tabs.length gc)).setCell ⟨B, 1, none⟩ (.int .i64 u.log)).setCell ⟨B, 2, none⟩ (.int .i64 u.seq)).setCell ⟨B, 3, none⟩ (.int .i64 u.next)) B a2 n c2 rs vs u ga gc := by
  obtain ⟨P6, G6⟩ := store4 h.ver (.slice ga u.tabs.length gc) (.int .i64 u.log) (.int .i64 u.seq) (.int .i64 u.next)
  generalize ((((wx.setCell ⟨B, 0, none⟩ (.slice ga u.tabs.length gc)).setCell ⟨B, 1, none⟩ (.int .i64 u.log)).setCell ⟨B, 2, none⟩ (.int .i64 u.seq)).setCell ⟨B, 3, none⟩ (.int .i64 u.next)) = W6 at P6 G6 ⊢
  have hhi := h.hi
  have ob : (Value.slice ga u.tabs.length gc).ownBlock ≠ some B := fun e => by have := (ho.lt _ e).1; omega
  have oc : (Value.slice ga u.tabs.length gc).ownBlock ≠ some w.heap.size := fun e => by have := (ho.lt _ e).1; omega
  refine ⟨h.bel.grown G6 h.bel.size (fun k hk => by cases hk; omega), (G6.block _ (Array.getElem?_eq_some_iff.1 h.res).1 (by intro e; cases e; omega)).trans h.res, P6, own_lift (ho.kept G6 (.inr ob)) (by omega), ⟨ob, oc⟩, h.recs.kept G6 (.inr h.roff.1) (fun k hk => .inr (h.roff.2 k hk)), h.roff, h.hi⟩

set_option maxRecDepth 100000 in
set_option maxHeartbeats 4000000 in
theorem readFile_any (w : World) (b : Nat) (k : Vf.Bs) (L : List UInt8)
    (RD : ∀ wx, Below w.heap.size w wx → Calls Tryz.prog 7 #[.pointer (some ⟨b, 0, none⟩), str k] wx fun e w' => ∃ v', e = .returned (.tuple #[v', .int .i64 0]) ∧ w'.ownsRow wx.heap.size 5 1 v' L.length (bc L) ∧ Below wx.heap.size wx w') (hL : L.length ≤ 1000000000) :
    Calls Tryz.prog 43 #[.pointer (some ⟨b, 0, none⟩), str k] w fun e w' => ∃ ta tn tc lo se ne E, e = .returned (.tuple #[vv (.slice ta tn tc) lo se ne, .int .i64 E]) ∧ Hid (FileOut w.heap.size L w' ta tn tc lo se ne E) ∧ Below w.heap.size w w' := by
  obtain ⟨W0, hW0⟩ : ∃ W0, W0 = w.alloc (vO (.slice none 0 0) 0 0 0) := ⟨_, rfl⟩
  have HW := hide hW0
  have HB0 : Hid (Below w.heap.size w W0) := by show Below _ _ _; rw [hW0]; exact (Below.refl _ _).alloc (Nat.le_refl _) _
  have HP0 : Hid (W0.heap[w.heap.size]? = some (vO (.slice none 0 0) 0 0 0)) := by show _ = _; rw [hW0]; exact World.alloc_heap_new w _
  obtain ⟨LL, hLL⟩ : ∃ l, l = L.length := ⟨_, rfl⟩
  have RD1 : Hid (Calls Tryz.prog 7 #[.pointer (some ⟨b, 0, none⟩), str k] W0 fun e w' => ∃ a c, e = .returned (.tuple #[.slice a LL c, .int .i64 0]) ∧ Hid (w'.ownsRow W0.heap.size 5 1 (.slice a LL c) L.length (bc L)) ∧ Below W0.heap.size W0 w') := by
    refine (RD W0 HB0.out).mono ?_
    rintro e w' ⟨v', rfl, o, b'⟩
    obtain ⟨a, c, rfl⟩ := row_shp o
    subst hLL
    exact ⟨a, c, rfl, o, b'⟩
  have hsl : Hid ((scn L).1.length ≤ L.length) := yscn_few L
  obtain ⟨rs, hrs⟩ : ∃ rs, rs = (scn L).1 := ⟨_, rfl⟩
  obtain ⟨N2, hN2⟩ : ∃ N, N = (scn L).2.1 := ⟨_, rfl⟩
  obtain ⟨E2, hE2⟩ : ∃ E, E = (scn L).2.2 := ⟨_, rfl⟩
  obtain ⟨n, hn⟩ : ∃ n, n = rs.length := ⟨_, rfl⟩
  have SC : Hid (∀ wx a0 c0, Below W0.heap.size W0 wx → Hid (wx.ownsRow W0.heap.size 5 1 (.slice a0 LL c0) L.length (bc L)) → Calls Tryz.prog 70 #[.slice a0 LL c0] wx fun e w' => ∃ a vs c, e = .returned (.tuple #[.slice a n c, .int .i64 (N2 : Int), .int .i64 E2]) ∧ Hid (Recs W0.heap.size w' (.slice a n c) rs vs) ∧ Below wx.heap.size wx w') := fun wx a0 c0 hx ho => by
    have ho' := ho.out
    subst hLL
    refine (fscan_any wx a0 c0 L (bytes_of_own ho' (by omega)) ?_ hL).mono ?_
    · rcases ho'.2 with ⟨e, h0⟩ | ⟨g, cap, cur, e, _, _, hnc, _⟩
      · simp only [Value.slice.injEq] at e; omega
      · simp only [Value.slice.injEq] at e; omega
    · rintro e w' ⟨v, vs, rfl, h1, h2⟩
      obtain ⟨a, c, rfl, _⟩ := h1.shape
      rw [← hrs, ← hn, ← hN2, ← hE2]
      rw [← hrs, ← hn] at h1
      exact ⟨a, vs, c, rfl, h1.mono hx.size, h2⟩
  have HFV : Hid (Mf.fileV L = if E2 = 6 ∨ rs = [] then none else Mf.run Mf.first rs) := by show _ = _; rw [hE2, hrs]; rfl
  have hrl : n ≤ 1000000000 := by rw [hn, hrs]; have := hsl.out; omega
  have HRL : Hid (∀ r ∈ rs, r.length ≤ 1000000000) := fun r hr => by rw [hrs] at hr; have := yscn_short L r hr; omega
  have HN : Hid (n = rs.length) := hn
  have FV := hide first_any
  rw [hW0] at RD1
  clear RD hsl hrs hN2 hE2 hn hLL hL hW0
  by_cases he6 : E2 = 6
  · have HF : Hid (Mf.fileV L = none) := by show _ = _; rw [HFV.out, if_pos (.inl he6)]
    subst he6
    clear HFV FV HRL HN
    go_enter Tryz.func43, Tryz.ntmps43
    go_wp2_with (first
      | (go_at_call 7; refine RD1.out.mono ?_; rintro e w1 ⟨a1, c1, rfl, o1, b1⟩; rw [← HW.out] at b1 o1; clear RD1)
      | (go_at_call 70; refine (SC.out _ _ _ b1 o1).mono ?_; rintro e w2 ⟨a2, vs2, c2, rfl, R2, b2⟩; have b12 := b1.trans (b2.mono b1.size); have p2 := (b12.block _ (Array.getElem?_eq_some_iff.1 HP0.out).1).trans HP0.out; obtain ⟨y0, y1, y2, y3, u0, u1, u2, u3, lt2⟩ := slot4 p2; clear SC R2 o1))
    obtain ⟨P5, G5⟩ := store4 p2 (.slice none 0 0) (.int .i64 0) (.int .i64 0) (.int .i64 0)
    have D1 := HB0.out.trans (b12.mono HB0.out.size)
    have B5 : Below w.heap.size w _ := D1.grown G5 D1.size (fun k hk => by cases hk; exact Nat.le_refl _)
    generalize ((((w2.setCell ⟨w.heap.size, 0, none⟩ (.slice none 0 0)).setCell ⟨w.heap.size, 1, none⟩ (.int .i64 0)).setCell ⟨w.heap.size, 2, none⟩ (.int .i64 0)).setCell ⟨w.heap.size, 3, none⟩ (.int .i64 0)) = W5 at P5 B5 ⊢
    obtain ⟨q0, q1, q2, q3, _⟩ := slot4 P5
    refine bodyPost_ret (v := .tuple #[vv (.slice none 0 0) 0 0 0, .int .i64 6]) (by simp [results, Tryz.results43, go_sem, q0, q1, q2, q3]) rfl ?_
    exact ⟨_, _, _, _, _, _, _, rfl, .inr ⟨HF.out, rfl, rfl, rfl, rfl, rfl, rfl, rfl⟩, B5⟩
  by_cases hn0 : n = 0
  · have HF : Hid (Mf.fileV L = none) := by show _ = _; rw [HFV.out, if_pos (.inr (List.eq_nil_of_length_eq_zero (by have := HN.out; omega)))]
    have i6 : (E2 == 6) = false := by simpa using he6
    subst hn0
    clear HFV FV HRL HN he6
    go_enter Tryz.func43, Tryz.ntmps43
    go_wp2_with (first
      | (go_at_call 7; refine RD1.out.mono ?_; rintro e w1 ⟨a1, c1, rfl, o1, b1⟩; rw [← HW.out] at b1 o1; clear RD1)
      | (go_at_call 70; refine (SC.out _ _ _ b1 o1).mono ?_; rintro e w2 ⟨a2, vs2, c2, rfl, R2, b2⟩; have b12 := b1.trans (b2.mono b1.size); have p2 := (b12.block _ (Array.getElem?_eq_some_iff.1 HP0.out).1).trans HP0.out; obtain ⟨y0, y1, y2, y3, u0, u1, u2, u3, lt2⟩ := slot4 p2; clear SC R2 o1))
    obtain ⟨P5, G5⟩ := store4 p2 (.slice none 0 0) (.int .i64 0) (.int .i64 0) (.int .i64 0)
    have D1 := HB0.out.trans (b12.mono HB0.out.size)
    have B5 : Below w.heap.size w _ := D1.grown G5 D1.size (fun k hk => by cases hk; exact Nat.le_refl _)
    generalize ((((w2.setCell ⟨w.heap.size, 0, none⟩ (.slice none 0 0)).setCell ⟨w.heap.size, 1, none⟩ (.int .i64 0)).setCell ⟨w.heap.size, 2, none⟩ (.int .i64 0)).setCell ⟨w.heap.size, 3, none⟩ (.int .i64 0)) = W5 at P5 B5 ⊢
    obtain ⟨q0, q1, q2, q3, _⟩ := slot4 P5
    refine bodyPost_ret (v := .tuple #[vv (.slice none 0 0) 0 0 0, .int .i64 6]) (by simp [results, Tryz.results43, go_sem, q0, q1, q2, q3]) rfl ?_
    exact ⟨_, _, _, _, _, _, _, rfl, .inr ⟨HF.out, rfl, rfl, rfl, rfl, rfl, rfl, rfl⟩, B5⟩
  have i6 : (E2 == 6) = false := by simpa using he6
  have in0 : ((n : Int) == 0) = false := by simpa using hn0
  have HF : Hid (Mf.fileV L = Mf.run Mf.first rs) := by
    show _ = _
    rw [HFV.out, if_neg (fun h => ?_)]
    rcases h with h | h
    · exact he6 h
    · have := HN.out; rw [h] at this; exact hn0 this
  clear HFV he6
  go_enter Tryz.func43, Tryz.ntmps43
  go_wp2_with (first
    | (go_at_call 7; refine RD1.out.mono ?_; rintro e w1 ⟨a1, c1, rfl, o1, b1⟩; rw [← HW.out] at b1 o1; clear RD1)
    | (go_at_call 70; refine (SC.out _ _ _ b1 o1).mono ?_; rintro e w2 ⟨a2, vs2, c2, rfl, R2, b2⟩; have HB12 := hide (b1.trans (b2.mono b1.size)); clear SC o1 b1 b2)
    | (go_at_call 40; refine (FV.out _).mono ?_; rintro e w3 ⟨rfl, b3⟩; clear FV))
  have HS := hide (rf_start HP0.out HB0.out HB12.out b3 R2.out)
  generalize w3.alloc (vO (.slice none 0 0) 1 0 1) = wX at HS ⊢
  generalize w3.heap.size = B at HS ⊢
  clear HB12 b3 R2 HB0 HP0 HW
  go_loopw [43] (fun i wr => ∃ (j : Nat) (v : Mf.Vn) (ta : Option Addr) (tc : Nat), j ≤ n ∧ i = .int .i64 j ∧ Hid (Mf.run Mf.first (rs.take j) = some v) ∧ Hid (RfIn w wr B a2 n c2 rs vs2 v ta tc)) (fun i _ => n - (intOf i).toNat)
  case atStart => exact ⟨0, Mf.first, none, 0, Nat.zero_le _, rfl, rfl, HS⟩
  case round =>
    obtain ⟨j, v, ta, tc, hj, rfl, HU, HR⟩ := hrel
    clear HS
    have HM : Hid (Mf.may v = true) := Mf.run_may _ _ _ Mf.first_may HU.out
    obtain ⟨N, hN⟩ : ∃ N, N = v.tabs.length := ⟨_, rfl⟩
    by_cases hlt : j < n
    · have jl : j < rs.length := by have := HN.out; omega
      have jv : j < vs2.length := by rw [HR.out.recs.len]; exact jl
      obtain ⟨g2, rfl⟩ : ∃ g, a2 = some ⟨g, 0, none⟩ := by
        rcases HR.out.recs.row.2 with ⟨e, h0⟩ | ⟨g, cap, cur, e, _⟩
        · omega
        · cases e; exact ⟨g, rfl⟩
      have rw2 := HR.out.recs.row
      rw [← HN.out] at rw2
      have cx : wr.cell? ⟨g2, j, none⟩ = some vs2[j] := by rw [rw2.cellAt j (by omega), List.getElem?_eq_getElem jv]
      clear rw2
      have ox := HR.out.recs.own j jv jl
      have rl := HRL.out rs[j] (List.getElem_mem jl)
      obtain ⟨ra, rc, hsh⟩ := row_shp ox
      rw [hsh] at cx ox
      have rcap : rs[j].length ≤ rc ∧ ((ra = none ∧ rc = 0) ∨ ∃ B off, ra = some ⟨B, off, none⟩) := by
        rcases ox.2 with ⟨e, h0⟩ | ⟨g, cap, cur, e, _, _, hnc, _⟩
        · simp only [Value.slice.injEq] at e; exact ⟨by omega, .inl ⟨e.1, e.2.2⟩⟩
        · simp only [Value.slice.injEq] at e; exact ⟨by omega, .inr ⟨g, 0, e.1⟩⟩
      have DC := ydecode_any wr ra rc rs[j] (bytes_of_own ox (by omega)) rcap.1 rl rcap.2
      have HNX : Hid (Mf.decOk rs[j] = true ∧ Mf.goes v (Mf.decX rs[j]) = true → Mf.run Mf.first (rs.take (j + 1)) = some (Mf.behind v (Mf.decX rs[j]))) := fun hg => Mf.run_next HU.out jl hg
      have HNO : Hid (¬ (Mf.decOk rs[j] = true ∧ Mf.goes v (Mf.decX rs[j]) = true) → Mf.fileV L = none) := fun hg => by rw [HF.out]; exact Mf.run_none HU.out jl hg
      generalize rs[j] = r at DC HNX HNO cx rl
      obtain ⟨R, hR⟩ : ∃ R, R = r.length := ⟨_, rfl⟩
      rw [← hR] at DC cx
      have BE : Hid (∀ wx (x : Mf.Ed) ya yc za zc, Hid (RfIn w wx B (some ⟨g2, 0, none⟩) n c2 rs vs2 v ta tc) → IzAt wx (.slice ya x.drops.length yc) x.drops → MtsAt wx (.slice za x.adds.length zc) x.adds → x.drops.length ≤ 1024 → x.adds.length ≤ 1024 → (∀ y ∈ x.drops, i64r y) → (∀ y ∈ x.adds, MtFit y) → Calls Tryz.prog 30 #[vv (.slice ta N tc) v.log v.seq v.next, ev (.slice ya x.drops.length yc) (.slice za x.adds.length zc) x.log x.seq x.next] wx fun r w' => ∃ ga gn gc x' y' z' g, r = .returned (.tuple #[vv (.slice ga gn gc) x' y' z', .bool g]) ∧ BehindIn wx w' v x ga gn gc x' y' z' g) := fun wx x ya yc za zc hx h1 h2 l1 l2 f1 f2 => by
        have mf := Mf.may_fit HM.out
        have := behind_any wx ta ya za tc yc zc v x hx.out.mts h1 h2 (by omega) (by omega) (by omega) mf.2 f1 f2
        rw [← hN] at this
        exact this
      have p0 := slot4 HR.out.ver
      clear hR rcap ox hsh jv jl HU HRL
      have HN1 := hide hN
      rw [← hN] at p0
      obtain ⟨p0, p1, p2, p3, _⟩ := p0
      clear hN
      cases hd : Mf.decOk r with
      | false =>
        have HFN : Hid (Mf.fileV L = none) := HNO.out (fun h => by rw [hd] at h; cases h.1)
        have DC' : Hid (Calls Tryz.prog 71 #[.slice ra R rc] wr fun e w' => e = .returned (.tuple #[ev (.slice none 0 0) (.slice none 0 0) 0 0 0, .int .i64 5]) ∧ Below wr.heap.size wr w') := by
          refine DC.mono ?_
          rintro e w' ⟨hh, bb⟩
          rcases hh.out with ⟨hf, _⟩ | ⟨_, rfl⟩
          · rw [hd] at hf; cases hf
          · exact ⟨rfl, bb⟩
        have BE' : Hid (∀ wx, Hid (RfIn w wx B (some ⟨g2, 0, none⟩) n c2 rs vs2 v ta tc) → Calls Tryz.prog 30 #[vv (.slice ta N tc) v.log v.seq v.next, ev (.slice none 0 0) (.slice none 0 0) 0 0 0] wx fun r w' => ∃ ga gn gc x' y' z' g, r = .returned (.tuple #[vv (.slice ga gn gc) x' y' z', .bool g]) ∧ Below wx.heap.size wx w') := fun wx hx => by
          refine (BE.out wx ⟨[], [], 0, 0, 0⟩ none 0 none 0 hx (IzAt.nil _ _ _) (MtsAt.nil _ _ _) (by decide) (by decide) (by simp) (by simp)).mono ?_
          rintro r w' ⟨ga, gn, gc, x', y', z', g, rfl, bi⟩
          exact ⟨ga, gn, gc, x', y', z', g, rfl, bi.bel⟩
        clear DC BE hd HNX HNO HF HM
        go_wp2_with (first
          | (go_at_call 71; refine DC'.out.mono ?_; rintro e w4 ⟨rfl, b4⟩; have b4x := b4.alloc b4.size (eO (.slice none 0 0) (.slice none 0 0) 0 0 0); obtain ⟨m0, m1, m2, m3, m4, _⟩ := slot5 (World.alloc_heap_new w4 (eO (.slice none 0 0) (.slice none 0 0) 0 0 0)); have HR4 := hide (HR.out.later b4x); have pp := slot4 HR4.out.ver; rw [← HN1.out] at pp; clear p0 p1 p2 p3; obtain ⟨p0, p1, p2, p3, _⟩ := pp; clear DC' b4 b4x HR)
          | (go_at_call 30; refine (BE'.out _ HR4).mono ?_; rintro e w5 ⟨ga, gn, gc, x', y', z', g, rfl, b5⟩; have b5x := b5.alloc b5.size (vO (.slice ga gn gc) x' y' z'); have HR5 := hide (HR4.out.later b5x); obtain ⟨y0, y1, y2, y3, u0, u1, u2, u3, lt2⟩ := slot4 HR5.out.res; clear BE' b5 b5x HR4))
        obtain ⟨P5, G5⟩ := store4 HR5.out.res (.slice none 0 0) (.int .i64 0) (.int .i64 0) (.int .i64 0)
        have B5 : Below w.heap.size w _ := HR5.out.bel.grown G5 HR5.out.bel.size (fun k hk => by cases hk; exact Nat.le_refl _)
        generalize (((((w5.alloc (vO (.slice ga gn gc) x' y' z')).setCell ⟨w.heap.size, 0, none⟩ (.slice none 0 0)).setCell ⟨w.heap.size, 1, none⟩ (.int .i64 0)).setCell ⟨w.heap.size, 2, none⟩ (.int .i64 0)).setCell ⟨w.heap.size, 3, none⟩ (.int .i64 0)) = W5 at P5 B5 ⊢
        obtain ⟨q0, q1, q2, q3, _⟩ := slot4 P5
        refine bodyPost_ret (v := .tuple #[vv (.slice none 0 0) 0 0 0, .int .i64 6]) (by simp [results, Tryz.results43, go_sem, q0, q1, q2, q3]) rfl ?_
        exact ⟨_, _, _, _, _, _, _, rfl, .inr ⟨HFN.out, rfl, rfl, rfl, rfl, rfl, rfl, rfl⟩, B5⟩
      | true =>
        obtain ⟨fd, fa, ff⟩ := Mf.decX_fit hd
        have fi : ∀ y ∈ (Mf.decX r).drops, i64r y := Mf.decX_drops hd
        obtain ⟨x, hx⟩ : ∃ x, x = Mf.decX r := ⟨_, rfl⟩
        rw [← hx] at fd fa ff fi DC HNX HNO
        have DC' : Hid (Calls Tryz.prog 71 #[.slice ra R rc] wr fun e w' => ∃ ya yc za zc, e = .returned (.tuple #[ev (.slice ya x.drops.length yc) (.slice za x.adds.length zc) x.log x.seq x.next, .int .i64 0]) ∧ Hid (IzAt w' (.slice ya x.drops.length yc) x.drops ∧ MtsAt w' (.slice za x.adds.length zc) x.adds) ∧ Below wr.heap.size wr w') := by
          refine DC.mono ?_
          rintro e w' ⟨hh, bb⟩
          rcases hh.out with ⟨_, da, dc, aa, ac, rfl, o1, o2⟩ | ⟨hf, _⟩
          · exact ⟨da, dc, aa, ac, rfl, ⟨IzAt.own o1, MtsAt.own o2⟩, bb⟩
          · rw [hd] at hf; cases hf
        cases hg : Mf.goes v x with
        | false =>
          have HFN : Hid (Mf.fileV L = none) := HNO.out (fun h => by rw [hg] at h; cases h.2)
          have BE' : Hid (∀ wx ya yc za zc, Hid (RfIn w wx B (some ⟨g2, 0, none⟩) n c2 rs vs2 v ta tc) → Hid (IzAt wx (.slice ya x.drops.length yc) x.drops ∧ MtsAt wx (.slice za x.adds.length zc) x.adds) → Calls Tryz.prog 30 #[vv (.slice ta N tc) v.log v.seq v.next, ev (.slice ya x.drops.length yc) (.slice za x.adds.length zc) x.log x.seq x.next] wx fun r w' => ∃ ga gn gc x' y' z', r = .returned (.tuple #[vv (.slice ga gn gc) x' y' z', .bool false]) ∧ Below wx.heap.size wx w') := fun wx ya yc za zc h1 h2 => by
            refine (BE.out wx x ya yc za zc h1 h2.out.1 h2.out.2 fd fa fi ff).mono ?_
            rintro r w' ⟨ga, gn, gc, x', y', z', g, rfl, bi⟩
            obtain rfl : g = false := bi.goes.trans hg
            exact ⟨ga, gn, gc, x', y', z', rfl, bi.bel⟩
          obtain ⟨M, hM⟩ : ∃ M, M = x.drops.length := ⟨_, rfl⟩
          obtain ⟨K, hK⟩ : ∃ K, K = x.adds.length := ⟨_, rfl⟩
          rw [← hM, ← hK] at DC' BE'
          clear DC BE hd hg hx HNX HNO HF HM fd fa ff fi hM hK
          go_wp2_with (first
            | (go_at_call 71; refine DC'.out.mono ?_; rintro e w4 ⟨ya, yc, za, zc, rfl, HY, b4⟩; have b0x := (Below.refl w4.heap.size w4).alloc (Nat.le_refl _) (eO (.slice ya M yc) (.slice za K zc) x.log x.seq x.next); have b4x := b4.alloc b4.size (eO (.slice ya M yc) (.slice za K zc) x.log x.seq x.next); have HY4 := hide (And.intro (HY.out.1.later b0x) (HY.out.2.later b0x)); obtain ⟨m0, m1, m2, m3, m4, _⟩ := slot5 (World.alloc_heap_new w4 (eO (.slice ya M yc) (.slice za K zc) x.log x.seq x.next)); have HR4 := hide (HR.out.later b4x); have pp := slot4 HR4.out.ver; rw [← HN1.out] at pp; clear p0 p1 p2 p3; obtain ⟨p0, p1, p2, p3, _⟩ := pp; clear DC' b4 b4x b0x HR HY)
            | (go_at_call 30; refine (BE'.out _ _ _ _ _ HR4 HY4).mono ?_; rintro e w5 ⟨ga, gn, gc, x', y', z', rfl, b5⟩; have b5x := b5.alloc b5.size (vO (.slice ga gn gc) x' y' z'); have HR5 := hide (HR4.out.later b5x); obtain ⟨y0, y1, y2, y3, u0, u1, u2, u3, lt2⟩ := slot4 HR5.out.res; clear BE' b5 b5x HR4))
          obtain ⟨P5, G5⟩ := store4 HR5.out.res (.slice none 0 0) (.int .i64 0) (.int .i64 0) (.int .i64 0)
          have B5 : Below w.heap.size w _ := HR5.out.bel.grown G5 HR5.out.bel.size (fun k hk => by cases hk; exact Nat.le_refl _)
          generalize (((((w5.alloc (vO (.slice ga gn gc) x' y' z')).setCell ⟨w.heap.size, 0, none⟩ (.slice none 0 0)).setCell ⟨w.heap.size, 1, none⟩ (.int .i64 0)).setCell ⟨w.heap.size, 2, none⟩ (.int .i64 0)).setCell ⟨w.heap.size, 3, none⟩ (.int .i64 0)) = W5 at P5 B5 ⊢
          obtain ⟨q0, q1, q2, q3, _⟩ := slot4 P5
          refine bodyPost_ret (v := .tuple #[vv (.slice none 0 0) 0 0 0, .int .i64 6]) (by simp [results, Tryz.results43, go_sem, q0, q1, q2, q3]) rfl ?_
          exact ⟨_, _, _, _, _, _, _, rfl, .inr ⟨HFN.out, rfl, rfl, rfl, rfl, rfl, rfl, rfl⟩, B5⟩
        | true =>
          have HNX2 := hide (HNX.out ⟨hd, hg⟩)
          obtain ⟨u, hu⟩ : ∃ u, u = Mf.behind v x := ⟨_, rfl⟩
          have ul : u.log = x.log := by rw [hu]; rfl
          have us : u.seq = x.seq := by rw [hu]; rfl
          have un : u.next = x.next := by rw [hu]; rfl
          have BE' : Hid (∀ wx ya yc za zc, Hid (RfIn w wx B (some ⟨g2, 0, none⟩) n c2 rs vs2 v ta tc) → Hid (IzAt wx (.slice ya x.drops.length yc) x.drops ∧ MtsAt wx (.slice za x.adds.length zc) x.adds) → Calls Tryz.prog 30 #[vv (.slice ta N tc) v.log v.seq v.next, ev (.slice ya x.drops.length yc) (.slice za x.adds.length zc) x.log x.seq x.next] wx fun r w' => ∃ ga gc, r = .returned (.tuple #[vv (.slice ga u.tabs.length gc) u.log u.seq u.next, .bool true]) ∧ Hid (w'.ownsRow wx.heap.size 43 5 (.slice ga u.tabs.length gc) u.tabs.length (mcs u.tabs)) ∧ Below wx.heap.size wx w') := fun wx ya yc za zc h1 h2 => by
            refine (BE.out wx x ya yc za zc h1 h2.out.1 h2.out.2 fd fa fi ff).mono ?_
            rintro r w' ⟨ga, gn, gc, x', y', z', g, rfl, bi⟩
            have hg1 : g = true := bi.goes.trans hg
            obtain ⟨rfl, rfl, rfl⟩ := bi.num hg1
            have o := bi.own hg1
            have ut : u.tabs = Mf.newTabs v x := by rw [hu]; rfl
            rw [← ut] at o
            obtain rfl := own_len o
            subst hg1
            exact ⟨ga, gc, by rw [ul, us, un], own_lift o (by omega), bi.bel⟩
          rw [← hu] at HNX2
          obtain ⟨M, hM⟩ : ∃ M, M = x.drops.length := ⟨_, rfl⟩
          obtain ⟨K, hK⟩ : ∃ K, K = x.adds.length := ⟨_, rfl⟩
          obtain ⟨U, hU⟩ : ∃ U, U = u.tabs.length := ⟨_, rfl⟩
          have HU1 := hide hU
          rw [← hM, ← hK] at DC' BE'
          rw [← hU] at BE'
          clear DC BE hd hg hx HNX HNO HF HM fd fa ff fi hM hK hu ul us un hU
          go_wp2_with (first
            | (go_at_call 71; refine DC'.out.mono ?_; rintro e w4 ⟨ya, yc, za, zc, rfl, HY, b4⟩; have b0x := (Below.refl w4.heap.size w4).alloc (Nat.le_refl _) (eO (.slice ya M yc) (.slice za K zc) x.log x.seq x.next); have b4x := b4.alloc b4.size (eO (.slice ya M yc) (.slice za K zc) x.log x.seq x.next); have HY4 := hide (And.intro (HY.out.1.later b0x) (HY.out.2.later b0x)); obtain ⟨m0, m1, m2, m3, m4, _⟩ := slot5 (World.alloc_heap_new w4 (eO (.slice ya M yc) (.slice za K zc) x.log x.seq x.next)); have HR4 := hide (HR.out.later b4x); have pp := slot4 HR4.out.ver; rw [← HN1.out] at pp; clear p0 p1 p2 p3; obtain ⟨p0, p1, p2, p3, _⟩ := pp; clear DC' b4 b4x b0x HR HY)
            | (go_at_call 30; refine (BE'.out _ _ _ _ _ HR4 HY4).mono ?_; rintro e w5 ⟨ga, gc, rfl, HO, b5⟩; have b5x := b5.alloc b5.size (vO (.slice ga U gc) u.log u.seq u.next); have HO5 := hide ((own_lift HO.out (Nat.lt_of_lt_of_le (Array.getElem?_eq_some_iff.1 HR4.out.ver).1 (Nat.le_refl _))).alloc (vO (.slice ga U gc) u.log u.seq u.next)); obtain ⟨n0, n1, n2, n3, _⟩ := slot4 (World.alloc_heap_new w5 (vO (.slice ga U gc) u.log u.seq u.next)); have HR5 := hide (HR4.out.later b5x); have pp := slot4 HR5.out.ver; rw [← HN1.out] at pp; clear p0 p1 p2 p3; obtain ⟨p0, p1, p2, p3, f0, f1, f2, f3, _⟩ := pp; clear BE' b5 b5x HR4 HO))
          have HE := HR5.out.store (u := u) (ga := ga) (gc := gc) (by rw [← HU1.out]; exact HO5.out)
          rw [← HU1.out] at HE
          exact ⟨⟨j + 1, u, ga, gc, by omega, by go_num, HNX2, HE⟩, by simp [intOf]; omega⟩
    · have i3 : ¬ (j : Int) < (n : Int) := by omega
      have HFN : Hid (Mf.fileV L = some v) := by
        show _ = _
        have := HU.out
        rw [List.take_of_length_le (by have := HN.out; omega)] at this
        rw [HF.out, this]
      clear hN
      obtain ⟨y0, y1, y2, y3, u0, u1, u2, u3, lt2⟩ := slot4 HR.out.res
      obtain ⟨z0, z1, z2, z3, _⟩ := slot4 HR.out.ver
      clear HU HF HRL HN hrl hlt
      go_wp2_with (fail)
      obtain ⟨P5, G5⟩ := store4 HR.out.res (.slice ta v.tabs.length tc) (.int .i64 v.log) (.int .i64 v.seq) (.int .i64 v.next)
      have B5 : Below w.heap.size w _ := HR.out.bel.grown G5 HR.out.bel.size (fun k hk => by cases hk; exact Nat.le_refl _)
      have O5 := HR.out.own.kept G5 (.inr HR.out.off.2)
      generalize ((((wr.setCell ⟨w.heap.size, 0, none⟩ (.slice ta v.tabs.length tc)).setCell ⟨w.heap.size, 1, none⟩ (.int .i64 v.log)).setCell ⟨w.heap.size, 2, none⟩ (.int .i64 v.seq)).setCell ⟨w.heap.size, 3, none⟩ (.int .i64 v.next)) = W5 at P5 B5 O5 ⊢
      obtain ⟨q0, q1, q2, q3, _⟩ := slot4 P5
      refine bodyPost_ret (v := .tuple #[vv (.slice ta v.tabs.length tc) v.log v.seq v.next, .int .i64 0]) (by simp [results, Tryz.results43, go_sem, q0, q1, q2, q3]) rfl ?_
      exact ⟨_, _, _, _, _, _, _, rfl, .inl ⟨v, HFN.out, rfl, rfl, rfl, rfl, rfl, O5⟩, B5⟩
end Go.Proofs.YtlhnjloimhcpfabGreatDoor
namespace Go.Proofs.YtlhnjloimhcpfabGreatDoor
open Go.RowKit

set_option maxRecDepth 100000 in
set_option maxHeartbeats 1000000 in
theorem ynumberOf_any (w : World) (n : Nat) (h1 : 1 ≤ n) (h2 : n < 100) : Calls Tryz.prog 42 #[str (Mf.nm n)] w fun e w' => e = .returned (.int .i64 (n : Int)) ∧ Below w.heap.size w w' := by
  have TP : Hid (Calls Tryz.prog 69 #[str (Mf.nm n), .string ⟨#[109, 97, 110, 105, 102, 101, 115, 116, 45]⟩] w fun e w' => e = .returned (str [48, 48, 48, 48, Wl.dig (n / 10), Wl.dig n]) ∧ w' = w) := by
    have := Tryz.strings_TrimPrefix ⟨(Mf.nm n).toArray⟩ ⟨#[109, 97, 110, 105, 102, 101, 115, 116, 45]⟩ w
    rw [show (⟨(Mf.nm n).toArray⟩ : ByteArray).data.toList = Mf.nm n from rfl, show (⟨#[109, 97, 110, 105, 102, 101, 115, 116, 45]⟩ : ByteArray).data.toList = [109, 97, 110, 105, 102, 101, 115, 116, 45] from rfl, ytrim n h2] at this
    exact this
  have AT : Hid (Calls Tryz.prog 68 #[str [48, 48, 48, 48, Wl.dig (n / 10), Wl.dig n]] w fun e w' => e = .returned (.tuple #[.int .i64 (n : Int), .nilIface]) ∧ Below w.heap.size w w') := by
    refine (Tryz.strconv_Atoi ⟨[48, 48, 48, 48, Wl.dig (n / 10), Wl.dig n].toArray⟩ n (by show 6 ≤ 18; decide) (yatoi n h2) w).mono ?_
    rintro e w' ⟨rfl, t, rfl⟩
    exact ⟨rfl, Joins.below_bytesWorld _ _ _ _ (Nat.le_refl _)⟩
  have NM : Hid (∀ wx, Calls Tryz.prog 20 #[.int .i64 (n : Int)] wx fun e w' => e = .returned (str (Mf.nm n)) ∧ Below wx.heap.size wx w') := fun wx => nameOf_any wx n h2
  have be : (!Mf.nm n == Mf.nm n) = false := by simp
  have i1 : ¬ (n : Int) < 1 := by omega
  have i2 : ¬ (n : Int) > 999999 := by omega
  generalize hs : Mf.nm n = s at TP NM be
  generalize [48, 48, 48, 48, Wl.dig (n / 10), Wl.dig n] = q at TP AT
  clear hs
  go_enter Tryz.func42, Tryz.ntmps42
  go_wp2_with (first
    | (go_at_call 69; refine TP.out.mono ?_; rintro e w1 ⟨rfl, rfl⟩)
    | (go_at_call 68; refine AT.out.mono ?_; rintro e w2 ⟨rfl, b2⟩)
    | (go_at_call 20; refine (NM.out _).mono ?_; rintro e w3 ⟨rfl, b3⟩))
  go_ret
  exact ⟨rfl, b2.trans (b3.mono b2.size)⟩

theorem FileOut.kept {base R : Nat} {L : List UInt8} {w w' : World} {ta : Option Addr} {tn tc : Nat} {lo se ne E : Int} (h : FileOut base L w ta tn tc lo se ne E) (hg : w.grownBy w' (some R)) (hR : R < base) : FileOut base L w' ta tn tc lo se ne E := by
  rcases h with ⟨v, h1, h2, h3, h4, h5, h6, o⟩ | h
  · refine .inl ⟨v, h1, h2, h3, h4, h5, h6, o.kept hg ?_⟩
    cases ho : (Value.slice ta tn tc).ownBlock with
    | none => exact .inl rfl
    | some g => exact .inr (by have := (o.lt g ho).1; simp; omega)
  · exact .inr h
theorem FileOut.later {base : Nat} {L : List UInt8} {w w' : World} {ta : Option Addr} {tn tc : Nat} {lo se ne E : Int} (h : FileOut base L w ta tn tc lo se ne E) (hb : Below w.heap.size w w') : FileOut base L w' ta tn tc lo se ne E := by
  rcases h with ⟨v, h1, h2, h3, h4, h5, h6, o⟩ | h
  · exact .inl ⟨v, h1, h2, h3, h4, h5, h6, o.kept (row := none) ⟨hb.os, hb.tape, hb.output, hb.size, fun i hi _ => hb.block i hi⟩ (none_kept _)⟩
  · exact .inr h
theorem FileOut.lift {base base' : Nat} {L : List UInt8} {w : World} {ta : Option Addr} {tn tc : Nat} {lo se ne E : Int} (h : FileOut base L w ta tn tc lo se ne E) (hb : base' ≤ base) : FileOut base' L w ta tn tc lo se ne E := by
  rcases h with ⟨v, h1, h2, h3, h4, h5, h6, o⟩ | h
  · exact .inl ⟨v, h1, h2, h3, h4, h5, h6, own_lift o hb⟩
  · exact .inr h

section
variable {P : Nat → Prop} {base : Nat}
set_option maxRecDepth 100000 in
set_option maxHeartbeats 2000000 in
theorem read_there (w : World) (b : Nat) (σ : Vf.St) (h : FsK P base w b σ) (hs : σ.steps ≤ 90000000) (k : Nat) (h1 : 1 ≤ k) (h2 : k < 100) (hm : Vf.findE σ Mf.cur = 0) (hc : Vf.read σ Mf.cur = frm (Mf.nm k)) (hf : Vf.findE σ (Mf.nm k) = 0) (hL : (Vf.read σ (Mf.nm k)).length ≤ 1000000000) :
    Calls Tryz.prog 19 #[.pointer (some ⟨b, 0, none⟩)] w fun e w' => ∃ ta tn tc lo se ne E, e = .returned (.tuple #[vv (.slice ta tn tc) lo se ne, .int .i64 (k : Int), .int .i64 E]) ∧ Hid (FileOut w.heap.size (Vf.read σ (Mf.nm k)) w' ta tn tc lo se ne E) ∧ Below w.heap.size w w' := by
  obtain ⟨W0, hW0⟩ : ∃ W0, W0 = w.alloc (vO (.slice none 0 0) 0 0 0) := ⟨_, rfl⟩
  have HW := hide hW0
  have HB0 : Hid (Below w.heap.size w W0) := by show Below _ _ _; rw [hW0]; exact (Below.refl _ _).alloc (Nat.le_refl _) _
  have HP0 : Hid (W0.heap[w.heap.size]? = some (vO (.slice none 0 0) 0 0 0)) := by show _ = _; rw [hW0]; exact World.alloc_heap_new w _
  have RD1 : Hid (Calls Tryz.prog 7 #[.pointer (some ⟨b, 0, none⟩), str Mf.cur] W0 fun e w' => ∃ a c, e = .returned (.tuple #[.slice a 27 c, .int .i64 0]) ∧ Hid (w'.ownsRow W0.heap.size 5 1 (.slice a 27 c) 27 (bc (frm (Mf.nm k)))) ∧ Below W0.heap.size W0 w') := by
    have := readf_k (h.later HB0.out) hs Mf.cur (by decide)
    rw [hm, hc, frm_length, Mf.nm_length] at this
    refine this.mono ?_
    rintro e w' ⟨v', rfl, o, b'⟩
    obtain ⟨a, c, rfl⟩ := row_shp o
    exact ⟨a, c, rfl, o, b'⟩
  have FR : Hid (∀ wx a c, Hid (wx.ownsRow W0.heap.size 5 1 (.slice a 27 c) 27 (bc (frm (Mf.nm k)))) → Calls Tryz.prog 41 #[.slice a 27 c] wx fun e w' => ∃ va vn vc, e = .returned (.tuple #[.slice va vn vc, .int .i64 27, .int .i64 0]) ∧ (convert 33 9 (.slice va vn vc)).run Tryz.prog w' = .ok (str (Mf.nm k)) w' ∧ Below wx.heap.size wx w') := fun wx a c ho => by
    have hl : (frm (Mf.nm k)).length = 27 := by rw [frm_length, Mf.nm_length]
    have o := ho.out
    obtain ⟨r1, r2, r3⟩ := read_frm (Mf.nm k) [] (by rw [Mf.nm_length]; decide)
    rw [List.append_nil] at r1 r2 r3
    have := fread_any wx a c (frm (Mf.nm k)) (by rw [hl]; exact bytes_of_own (by rw [hl]; exact o) (by omega)) (by
      rcases o.2 with ⟨e, h0⟩ | ⟨g, cap, cur, e, _, _, hnc, _⟩
      · cases h0
      · simp only [Value.slice.injEq] at e; omega)
    rw [hl, r1, r2, r3, Mf.nm_length] at this
    refine this.mono ?_
    rintro e w' ⟨v, rfl, x⟩
    obtain ⟨va, vc, rfl⟩ := x.shape
    exact ⟨va, _, vc, rfl, x.str, x.below (Nat.le_refl _) (by simp [Value.ownBlock])⟩
  have NO : Hid (∀ wx, Calls Tryz.prog 42 #[str (Mf.nm k)] wx fun e w' => e = .returned (.int .i64 (k : Int)) ∧ Below wx.heap.size wx w') := fun wx => ynumberOf_any wx k h1 h2
  have NM : Hid (∀ wx, Calls Tryz.prog 20 #[.int .i64 (k : Int)] wx fun e w' => e = .returned (str (Mf.nm k)) ∧ Below wx.heap.size wx w') := fun wx => nameOf_any wx k h2
  have RF : Hid (∀ wx, Below W0.heap.size W0 wx → Calls Tryz.prog 43 #[.pointer (some ⟨b, 0, none⟩), str (Mf.nm k)] wx fun e w' => ∃ ta tn tc lo se ne E, e = .returned (.tuple #[vv (.slice ta tn tc) lo se ne, .int .i64 E]) ∧ Hid (FileOut wx.heap.size (Vf.read σ (Mf.nm k)) w' ta tn tc lo se ne E) ∧ Below wx.heap.size wx w') := fun wx hx => by
    have bx := HB0.out.trans (hx.mono HB0.out.size)
    refine readFile_any wx b (Mf.nm k) (Vf.read σ (Mf.nm k)) (fun wy hy => ?_) hL
    have := readf_k (h.later (bx.trans (hy.mono bx.size))) hs (Mf.nm k) (by rw [Mf.nm_length]; decide)
    rw [hf] at this
    exact this
  have ik : ((k : Int) == 0) = false := by simp; omega
  unfold Mf.cur at RD1
  rw [hW0] at RD1
  generalize Mf.nm k = f at FR NO NM RF RD1 ⊢
  clear h hs hm hc hf hL hW0 h1 h2
  go_enter Tryz.func19, Tryz.ntmps19
  go_wp2_with (first
    | (go_at_call 7; refine RD1.out.mono ?_; rintro e w1 ⟨a1, c1, rfl, o1, b1⟩; rw [← HW.out] at b1 o1; clear RD1)
    | (go_at_call 41; refine (FR.out _ _ _ o1).mono ?_; rintro e w2 ⟨va, vn, vc, rfl, cv, b2⟩; have HB2 := hide (b1.trans (b2.mono b1.size)); clear FR o1 b1 b2)
    | (go_at_call 42; refine (NO.out _).mono ?_; rintro e w3 ⟨rfl, b3⟩; have HB3 := hide (HB2.out.trans (b3.mono HB2.out.size)); clear NO b3 HB2 cv)
    | (go_at_call 20; refine (NM.out _).mono ?_; rintro e w4 ⟨rfl, b4⟩; have HB4 := hide (HB3.out.trans (b4.mono HB3.out.size)); clear NM b4 HB3)
    | (go_at_call 43; refine (RF.out _ HB4.out).mono ?_; rintro e w5 ⟨ta, tn, tc, lo, se, ne, E, rfl, HO, b5⟩; have b5x := b5.alloc b5.size (vO (.slice ta tn tc) lo se ne); have HO5 := hide (HO.out.later ((Below.refl w5.heap.size w5).alloc (Nat.le_refl _) (vO (.slice ta tn tc) lo se ne))); have HB5 := hide (HB4.out.trans (b5x.mono HB4.out.size)); have p5 := (HB5.out.block _ (Array.getElem?_eq_some_iff.1 HP0.out).1).trans HP0.out; obtain ⟨y0, y1, y2, y3, u0, u1, u2, u3, lt2⟩ := slot4 p5; have HP5 := hide p5; obtain ⟨z0, z1, z2, z3, _⟩ := slot4 (World.alloc_heap_new w5 (vO (.slice ta tn tc) lo se ne)); clear RF HO b5 b5x p5))
  obtain ⟨P6, G6⟩ := store4 HP5.out (.slice ta tn tc) (.int .i64 lo) (.int .i64 se) (.int .i64 ne)
  have s4 : w.heap.size < w4.heap.size := Nat.lt_of_lt_of_le (Array.getElem?_eq_some_iff.1 HP0.out).1 HB4.out.size
  have O6 := (HO5.out.kept G6 s4).lift (base' := w.heap.size) (by omega)
  have D1 := HB0.out.trans (HB5.out.mono HB0.out.size)
  have B6 : Below w.heap.size w _ := D1.grown G6 D1.size (fun k hk => by cases hk; exact Nat.le_refl _)
  generalize (((((w5.alloc (vO (.slice ta tn tc) lo se ne)).setCell ⟨w.heap.size, 0, none⟩ (.slice ta tn tc)).setCell ⟨w.heap.size, 1, none⟩ (.int .i64 lo)).setCell ⟨w.heap.size, 2, none⟩ (.int .i64 se)).setCell ⟨w.heap.size, 3, none⟩ (.int .i64 ne)) = W6 at P6 B6 O6 ⊢
  obtain ⟨q0, q1, q2, q3, _⟩ := slot4 P6
  refine bodyPost_ret (v := .tuple #[vv (.slice ta tn tc) lo se ne, .int .i64 (k : Int), .int .i64 E]) (by simp [results, Tryz.results19, go_sem, q0, q1, q2, q3]) rfl ?_
  exact ⟨_, _, _, _, _, _, _, rfl, O6, B6⟩

set_option maxRecDepth 100000 in
set_option maxHeartbeats 2000000 in
/-- The file that names another one can't be read. -/
theorem read_err (w : World) (b : Nat) (σ : Vf.St) (h : FsK P base w b σ) (hs : σ.steps ≤ 90000000) (E : Int) (hm : Vf.findE σ Mf.cur = E) (h4 : E ≠ 4) (h0 : E ≠ 0) :
    Calls Tryz.prog 19 #[.pointer (some ⟨b, 0, none⟩)] w fun e w' => e = .returned (.tuple #[vv (.slice none 0 0) 0 0 0, .int .i64 0, .int .i64 E]) ∧ Below w.heap.size w w' := by
  have B0 : Below w.heap.size w (w.alloc (vO (.slice none 0 0) 0 0 0)) := (Below.refl _ _).alloc (Nat.le_refl _) _
  have P0 := hide (World.alloc_heap_new w (vO (.slice none 0 0) 0 0 0))
  have RD : Hid (Calls Tryz.prog 7 #[.pointer (some ⟨b, 0, none⟩), str Mf.cur] (w.alloc (vO (.slice none 0 0) 0 0 0)) fun e w' => ∃ va vn vc, e = .returned (.tuple #[.slice va vn vc, .int .i64 E]) ∧ Below (w.alloc (vO (.slice none 0 0) 0 0 0)).heap.size (w.alloc (vO (.slice none 0 0) 0 0 0)) w') := by
    have := readf_k (h.later B0) hs Mf.cur (by decide)
    rw [hm] at this
    refine this.mono ?_
    rintro e w' ⟨v', rfl, o, b'⟩
    obtain ⟨va, vc, rfl⟩ := row_shp o
    exact ⟨va, _, vc, rfl, b'⟩
  have e4 : (E == 4) = false := by simpa using h4
  have e0 : (E == 0) = false := by simpa using h0
  unfold Mf.cur at RD
  clear h hs hm h4 h0
  go_enter Tryz.func19, Tryz.ntmps19
  go_wp2_with (first
    | (go_at_call 7; refine RD.out.mono ?_; rintro e w1 ⟨va, vn, vc, rfl, b1⟩; have p1 := (b1.block _ (by simp)).trans P0.out; obtain ⟨y0, y1, y2, y3, u0, u1, u2, u3, lt2⟩ := slot4 p1; have HP1 := hide p1; clear RD p1))
  obtain ⟨P5, G5⟩ := store4 HP1.out (.slice none 0 0) (.int .i64 0) (.int .i64 0) (.int .i64 0)
  have D1 := B0.trans (b1.mono B0.size)
  have B5 : Below w.heap.size w _ := D1.grown G5 D1.size (fun k hk => by cases hk; exact Nat.le_refl _)
  generalize ((((w1.setCell ⟨w.heap.size, 0, none⟩ (.slice none 0 0)).setCell ⟨w.heap.size, 1, none⟩ (.int .i64 0)).setCell ⟨w.heap.size, 2, none⟩ (.int .i64 0)).setCell ⟨w.heap.size, 3, none⟩ (.int .i64 0)) = W5 at P5 B5 ⊢
  obtain ⟨q0, q1, q2, q3, _⟩ := slot4 P5
  refine bodyPost_ret (v := .tuple #[vv (.slice none 0 0) 0 0 0, .int .i64 0, .int .i64 E]) (by simp [results, Tryz.results19, go_sem, q0, q1, q2, q3]) rfl ?_
  exact ⟨rfl, B5⟩
end
end Go.Proofs.YtlhnjloimhcpfabGreatDoor
