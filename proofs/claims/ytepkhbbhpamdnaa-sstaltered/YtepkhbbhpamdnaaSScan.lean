/-
  All versions of all keys in a span, asked of a table: what the call answers, and what it leaves.
-/
import Derived.Test.YtepkhbbhpamdnaaSL
namespace Go.Proofs.Ytepkhbbhpamdnaa
open Go.RowKit
namespace Ss
open Mm (Ent)
/-- The first block whose last key is not below one. -/
def placeF (ps : List Prt) (f : Bs) : Nat := ps.findIdx fun p => !Op.bytesLess p.key f
/-- Going through blocks: what is told (nothing, if one of them is not sound), and how many were read. -/
def scanR (t : Tab) (f tu : Bs) : List Prt → Nat → List Ent → Option (List Ent) × Nat
  | [], m, out => (some out, m)
  | p :: r, m, out =>
    if readOk t p = false then (none, m + 1)
    else if tu ≠ [] ∧ Op.bytesLess p.key tu = false then (some (out ++ Mm.spanL f tu (readL t p)), m + 1)
    else scanR t f tu r (m + 1) (out ++ Mm.spanL f tu (readL t p))
def scan (t : Tab) (f tu : Bs) : Option (List Ent) × Nat := scanR t f tu (t.parts.drop (placeF t.parts f)) 0 []
end Ss

theorem Turned.newO {w w' w2 : World} {B m : Nat} {r : Option Nat} (u : Turned B m w w') (hg : w'.grownBy w2 r) (hR : ∀ i, r = some i → w.heap.size ≤ i) (hB : B < w.heap.size) : Turned B m w w2 := by
  cases r with
  | none => exact u.below ⟨hg.os, hg.tape, hg.output, hg.size, fun i hi => hg.block i hi (by simp)⟩
  | some R => exact u.new hg (hR R rfl) hB

def ScanAns (w : World) (B n : Nat) (t : Ss.Tab) (f tu : List UInt8) (e : Ending) (w' : World) : Prop :=
  ∃ v E, e = .returned (.tuple #[v, .int .i64 E]) ∧ Hid ((∃ l, (Ss.scan t f tu).1 = some l ∧ E = 0 ∧ w'.ownsRow w.heap.size 39 4 v l.length (ecs l)) ∨ ((Ss.scan t f tu).1 = none ∧ E = 6 ∧ v = .slice none 0 0)) ∧ Turned B (n + (Ss.scan t f tu).2) w w'

/-- What the outer loop has. -/
structure ScL (w wr : World) (B n : Nat) (t : Ss.Tab) (f tu : List UInt8) (r i m : Nat) (out : List Mm.Ent) (v : Value) : Prop where
  own : wr.ownsRow (w.heap.size + 1) 39 4 v out.length (ecs out)
  span : wr.heap[w.heap.size]? = some (.cells #[str f, str tu] 92 (0, 0))
  turn : Turned B (n + m) w wr
  same : Ss.scanR t f tu (t.parts.drop (r + i)) m out = Ss.scan t f tu
  most : out.length ≤ i * 64
  few : m = i

theorem bl_mono {a b : Mm.Ent} {f : List UInt8} (h : Mm.ahead a b = true) (ha : Op.bytesLess a.key f = false) : Op.bytesLess b.key f = false := by
  rcases Mm.ahead_key h with ⟨e, _⟩ | h'
  · rw [← e]; exact ha
  · cases hb : Op.bytesLess b.key f with
    | false => rfl
    | true => have := Mm.bl_trans h' hb; rw [ha] at this; cases this

theorem tab_parts {w : World} {base B n : Nat} {t : Ss.Tab} (h : TabAt w base B t n) (ok : Ss.TabOk t) : ∃ pg pc, w.cell? ⟨B, 3, none⟩ = some (.slice (some ⟨pg, 0, none⟩) t.parts.length pc) ∧ t.parts.length ≤ pc ∧
    (∀ j (h : j < t.parts.length), w.cell? ⟨pg, j * 6, none⟩ = some (.int .i64 (t.parts[j].size : Int)) ∧ w.cell? ⟨pg, j * 6 + 1, none⟩ = some (.int .i64 (t.parts[j].fin : Int)) ∧ w.cell? ⟨pg, j * 6 + 2, none⟩ = some (str t.parts[j].key) ∧ w.cell? ⟨pg, j * 6 + 3, none⟩ = some (str []) ∧ w.cell? ⟨pg, j * 6 + 4, none⟩ = some (.int .i64 (t.parts[j].seq : Int)) ∧ w.cell? ⟨pg, j * 6 + 5, none⟩ = some (.bool false)) ∧ pg ≠ B := by
  obtain ⟨⟨bv, fv, pv, h1, ⟨h2, h3, h4⟩, _, _, h7⟩, _⟩ := h
  obtain ⟨⟨pa, pc, hv, hpc, hpf⟩⟩ := PartsAt.own h4
  obtain ⟨pg, rfl, hg1, hcell⟩ := hpf (by intro e; have := ok.some; rw [e] at this; simp at this)
  subst hv
  exact ⟨pg, pc, Joins.cell_of_block h1 3, hpc, hcell, h7 pg rfl⟩
/-- What the inner loop has. -/
structure InL (w : World) (Rz : Nat) (w5 wi : World) (B m : Nat) (f tu : List UInt8) (o : List Mm.Ent) (v : Value) : Prop where
  own : wi.ownsRow (w.heap.size + 1) 39 4 v o.length (ecs o)
  off : ∀ i, v.ownBlock = some i → i < Rz ∨ w5.heap.size ≤ i
  keep : ∀ k, Rz ≤ k → k < w5.heap.size → wi.heap[k]? = w5.heap[k]?
  span : wi.heap[w.heap.size]? = some (.cells #[str f, str tu] 92 (0, 0))
  turn : Turned B m w wi
  size : w5.heap.size ≤ wi.heap.size
theorem InL.later {w w5 wi w' : World} {Rz B m : Nat} {f tu : List UInt8} {o : List Mm.Ent} {v : Value} (h : InL w Rz w5 wi B m f tu o v) (hb : Below wi.heap.size wi w') : InL w Rz w5 w' B m f tu o v :=
  ⟨own_after h.own hb, h.off, fun k h1 h2 => (hb.block k (Nat.lt_of_lt_of_le h2 h.size)).trans (h.keep k h1 h2), keepB hb h.span, h.turn.below hb, Nat.le_trans h.size hb.size⟩
theorem InL.push {w w5 wi w' : World} {Rz B m : Nat} {f tu : List UInt8} {o : List Mm.Ent} {v : Value} (h : InL w Rz w5 wi B m f tu o v) (hB : B < w.heap.size) (hg : wi.grownBy w' v.ownBlock) {x : Mm.Ent} {g cap : Nat}
    (o8 : w'.ownsRow (w.heap.size + 1) 39 4 (.slice (some ⟨g, 0, none⟩) (o.length + 1) cap) (o.length + 1) (ecs o ++ ecs [x])) (l8 : v.ownBlock = some g ∨ g = wi.heap.size) : InL w Rz w5 w' B m f tu (o ++ [x]) (.slice (some ⟨g, 0, none⟩) (o.length + 1) cap) := by
  have hlt := fun i hi => (h.own.lt i hi).1
  refine ⟨by rw [ecs_append, List.length_append]; exact o8, fun i hi => ?_, fun k h1 h2 => ?_, ?_, h.turn.newO hg (fun i hi => by have := hlt i hi; omega) hB, Nat.le_trans h.size hg.size⟩
  · cases hi
    rcases l8 with l8 | l8
    · exact h.off g l8
    · right; rw [l8]; exact h.size
  · refine (hg.block k (Nat.lt_of_lt_of_le h2 h.size) (fun e => ?_)).trans (h.keep k h1 h2)
    rcases h.off k e.symm with h3 | h3 <;> omega
  · exact (hg.block _ (Array.getElem?_eq_some_iff.1 h.span).1 (fun e => by have := hlt _ e.symm; omega)).trans h.span

set_option maxRecDepth 100000 in
set_option maxHeartbeats 8000000 in
theorem sscan_any (w : World) (base B n : Nat) (t : Ss.Tab) (h : TabAt w base B t n) (ok : Ss.TabOk t) (f tu : List UInt8) (hn : n ≤ 900000000) :
    Calls Try.prog 44 #[.pointer (some ⟨B, 0, none⟩), .agg #[str f, str tu]] w fun e w' => ScanAns w B n t f tu e w' := by
  have hmf : ∀ (fn : Fn) (first cap : Array Value) (w : World), (Instr.makeFunc fn first cap).run Try.prog w = .ok (.func fn first cap) w := fun _ _ _ _ => rfl
  obtain ⟨i0, hi, hz0, hz1, hz2⟩ := info_parts infoE
  have hlt := h.lt
  obtain ⟨W1, hW1⟩ : ∃ W1, W1 = w.alloc (.cells #[str f, str tu] 92) := ⟨_, rfl⟩
  have a1 : Below w.heap.size w W1 := by rw [hW1]; exact (Below.refl _ _).alloc (Nat.le_refl _) _
  have S1 : W1.heap[w.heap.size]? = some (.cells #[str f, str tu] 92 (0, 0)) := by rw [hW1]; exact World.alloc_heap_new w _
  have T1 := h.later a1
  have U1 := h.turned.below a1
  obtain ⟨ba, bc', fa, fc, pa, pc, ⟨c0, _⟩, _⟩ := T1.cells
  have MD := smade_yes W1 B c0
  have SR := scanSearch_any W1 base B n t T1 (.pointer (some ⟨w.heap.size, 0, none⟩)) (by have := ok.most; omega) (fun i => if hi : i < t.parts.length then !Op.bytesLess (t.parts[i]).key f else true)
    (fun i j hij hi => by
      by_cases hj : j < t.parts.length
      · have hi' : i < t.parts.length := by omega
        rw [dif_pos hi'] at hi
        rw [dif_pos hj]
        rcases Nat.lt_or_ge i j with hlt | hge
        · have := List.pairwise_iff_getElem.1 ok.up i j hi' hj hlt
          have h2 := bl_mono (f := f) this (by have hi2 := hi; revert hi2; show (!Op.bytesLess (t.parts[i]).key f) = true → Op.bytesLess (t.parts[i]).key f = false; cases Op.bytesLess (t.parts[i]).key f <;> simp)
          rw [show Op.bytesLess (t.parts[j]).key f = false from h2]; rfl
        · have : i = j := by omega
          subst this
          exact hi
      · rw [dif_neg hj])
    (fun wx hx i hi => by
      rw [dif_pos hi]
      exact scan1_any wx w.heap.size f tu _ (keepB hx S1))
  rw [hW1] at MD SR
  clear c0
  go_enter Try.func44, Try.ntmps44
  go_wp2_with (first
    | (go_at_call 35; refine MD.mono ?_; rintro e w' ⟨rfl, rfl⟩; clear MD))
  refine SR.mono ?_
  rintro e w3 ⟨r, rfl, hr1, hr2, hr3, b3⟩
  rw [← hW1] at b3
  have hpl : Ss.placeF t.parts f = r := find_first _ r hr1 (fun i hi h => by have := hr2 i h; rw [dif_pos hi] at this; exact this) (fun i hi h => by have := hr3 i h hi; rw [dif_pos hi] at this; exact this)
  have T3 := T1.later b3
  have U3 := U1.below b3
  have D0 : ScL w w3 B n t f tu r 0 0 [] (.slice none 0 0) := ⟨World.ownsRow_nil _ _ _ _, keepB b3 S1, U3, by rw [← hpl]; rfl, Nat.zero_le _, rfl⟩
  have b3' := a1.trans (b3.mono a1.size)
  clear SR hr2 hr3 hW1 a1 T1 S1 U1 hpl b3
  obtain ⟨pg, pc, c3, hpc, hcell, hpgB⟩ := tab_parts h ok
  have c3 := keepC b3' c3
  obtain ⟨L, hL⟩ : ∃ L, L = t.parts.length := ⟨_, rfl⟩
  rw [← hL] at c3 hpc hr1
  have k1 : (r : Int) ≤ (L : Int) := by omega
  have k2 : (L : Int) ≤ (pc : Int) := by omega
  have k3 : (r : Int) ≤ (pc : Int) := by omega
  have k4 : (0 : Int) ≤ (r : Int) := by omega
  have HLL := hide hL
  have hL6 : L ≤ 65536 := by have := ok.most; omega
  clear hL b3'
  by_cases hrp : pc = r
  · subst hrp
    obtain rfl : L = pc := by omega
    go_wp2_with (fail)
    go_loopw [7, 27] (fun v i wr => v = .slice none 0 0 ∧ i = .int .i64 0 ∧ wr = w3) (fun _ _ _ => 0)
    case atStart => exact ⟨rfl, rfl, rfl⟩
    case round =>
      obtain ⟨rfl, rfl, rfl⟩ := hrel
      have hs := D0.same
      rw [Nat.add_zero, List.drop_eq_nil_of_le (by have := HLL.out; omega)] at hs
      go_wp2_with (fail)
      go_ret2
      refine ⟨_, _, rfl, .inl ⟨[], by rw [← hs]; rfl, rfl, World.ownsRow_nil _ _ _ _⟩, ?_⟩
      rw [← hs]
      exact D0.turn
  · go_wp2_with (fail)
    obtain ⟨M, hM⟩ : ∃ M, M = L - r := ⟨_, rfl⟩
    rw [← hM]
    go_loopw [7, 27] (fun v i wr => ∃ (j : Nat) (out : List Mm.Ent), j ≤ M ∧ i = .int .i64 j ∧ ScL w wr B n t f tu r j j out v) (fun _ i _ => M - (intOf i).toNat)
    case atStart => exact ⟨0, [], Nat.zero_le _, rfl, D0⟩
    case round =>
      obtain ⟨j, out, hj, rfl, D⟩ := hrel
      clear D0 U3
      obtain ⟨do', ds, dt, dm, dl, _⟩ := D
      by_cases hjM : j < M
      · have hrj : r + j < t.parts.length := by have := HLL.out; omega
        obtain ⟨d0, d1, d2, d3, d4, d5⟩ := hcell (r + j) hrj
        have hpm := ok.part _ (List.getElem_mem hrj)
        rw [List.drop_eq_getElem_cons hrj] at dm
        have e6 : (r + j) * 6 = r * 6 + j * 6 := by omega
        rw [e6] at d0 d1 d2 d3 d4 d5
        have cc : ∀ {x : Nat} {u : Value}, w.cell? ⟨pg, x, none⟩ = some u → wr.cell? ⟨pg, x, none⟩ = some u := fun hx => dt.1.cell hx (by simpa using hpgB)
        have d0 := cc d0
        have d1 := cc d1
        have d2 := cc d2
        have d3 := cc d3
        have d4 := cc d4
        have d5 := cc d5
        have TW := Turned.tab h dt
        have aP : Below wr.heap.size wr (wr.alloc (prtO (t.parts[r + j].size : Int) (t.parts[r + j].fin : Int) (str t.parts[r + j].key) (str []) (t.parts[r + j].seq : Int) false)) := (Below.refl _ _).alloc (Nat.le_refl _) _
        have PP := World.alloc_heap_new wr (prtO (t.parts[r + j].size : Int) (t.parts[r + j].fin : Int) (str t.parts[r + j].key) (str []) (t.parts[r + j].seq : Int) false)
        have RA := sread_any _ base B (n + j) t (TW.later aP) t.parts[r + j] hpm.1 hpm.2.1 hpm.2.2 ok.blks (by omega)
        have RK := hide (fun (e : Ss.readOk t t.parts[r + j] = true) => readL_ok e)
        have DM := hide dm
        unfold prtV at RA
        generalize t.parts[r + j] = p at *
        obtain ⟨PS, PF, PK, PQ⟩ := p
        simp only at RA PP aP d0 d1 d2 d3 d4 d5
        obtain ⟨WP, hWP⟩ : ∃ WP, WP = wr.alloc (prtO (PS : Int) (PF : Int) (str PK) (str []) (PQ : Int) false) := ⟨_, rfl⟩
        have zw : w.heap.size < wr.heap.size := (Array.getElem?_eq_some_iff.1 ds).1
        have q1 : (j : Int) < (M : Int) := by omega
        have q2 : (0 : Int) ≤ (j : Int) := by omega
        have OO := hide do'
        clear dm do' TW hpm
        go_wp2_with (fail)
        refine RA.mono ?_
        rintro e w5 ⟨v5, E5, rfl, HD, u5⟩
        rw [← hWP] at aP PP u5 HD
        have zP : WP.heap.size = wr.heap.size + 1 := by rw [hWP]; simp
        have U5 := (dt.below aP).trans u5
        have P5 : w5.heap[wr.heap.size]? = some (prtO (PS : Int) (PF : Int) (str PK) (str []) (PQ : Int) false) := (u5.1.block _ (by omega) (by simp; omega)).trans PP
        have S5 : w5.heap[w.heap.size]? = some (.cells #[str f, str tu] 92 (0, 0)) := (u5.1.block _ (by omega) (by simp; omega)).trans (keepB aP ds)
        have O5 := hide (own_other (own_after OO.out aP) u5.1 (fun i hi => by have := (OO.out.lt i hi).1; omega))
        have OF := hide (fun i hi => (OO.out.lt i hi).2)
        clear RA d0 d1 d2 d3 d4 d5 PP aP ds dt u5 hWP OO
        rcases HD.out with ⟨hok, rfl, o5⟩ | ⟨hok, rfl, rfl⟩
        · have hck := RK.out hok
          obtain ⟨n1, n2, _, _⟩ := Bk.checkE_ok hck
          have DM2 : Hid ((if tu ≠ [] ∧ Op.bytesLess PK tu = false then (some (out ++ Mm.spanL f tu (Ss.readL t ⟨PS, PF, PK, PQ⟩)), j + 1) else Ss.scanR t f tu (t.parts.drop (r + j + 1)) (j + 1) (out ++ Mm.spanL f tu (Ss.readL t ⟨PS, PF, PK, PQ⟩))) = Ss.scan t f tu) := by
            have := DM.out
            rw [Ss.scanR, if_neg (by rw [hok]; simp)] at this
            exact this
          generalize Ss.readL t ⟨PS, PF, PK, PQ⟩ = l at *
          have EA := EntsAt.own o5
          obtain ⟨va, vc, rfl⟩ := row_shape o5
          obtain ⟨eb, eoff, rfl⟩ := EA.some (by omega)
          have hebl : WP.heap.size ≤ eb ∧ eb < w5.heap.size := by
            rcases o5.2 with ⟨e, _⟩ | ⟨g9, cap9, cur9, e, h9, h10, _⟩
            · cases e
            · simp only [Value.slice.injEq, Option.some.injEq, Addr.mk.injEq, true_and, and_true] at e
              obtain ⟨⟨rfl, rfl⟩, rfl⟩ := e
              exact ⟨h9, (Array.getElem?_eq_some_iff.1 h10).1⟩
          have I0 : InL w wr.heap.size w5 w5 B (n + j + 1) f tu (out ++ Mm.spanL f tu (l.take 0)) _ := ⟨by rw [List.take_zero]; show World.ownsRow _ _ _ _ _ (out ++ []).length (ecs (out ++ [])); rw [List.append_nil]; exact O5.out, fun i hi => .inl (OF.out i hi), fun _ _ _ => rfl, S5, U5, Nat.le_refl _⟩
          clear HD RK DM hck hok o5 O5 OF S5 U5
          have EC := hide EA.cells
          obtain ⟨Rz, hRz⟩ : ∃ Rz, Rz = wr.heap.size := ⟨_, rfl⟩
          have zL : Rz < w5.heap.size := by rw [hRz]; exact (Array.getElem?_eq_some_iff.1 P5).1
          go_wp2_with (fail)
          rw [← hRz] at P5 I0 zw zP ⊢
          rw [zP] at hebl
          clear hRz zP
          go_loopw [7, 42] (fun v' i' wi => ∃ jj : Nat, jj ≤ l.length ∧ i' = .int .i64 jj ∧ InL w Rz w5 wi B (n + j + 1) f tu (out ++ Mm.spanL f tu (l.take jj)) v') (fun _ i' _ => l.length - (intOf i').toNat)
          case atStart => exact ⟨0, Nat.zero_le _, rfl, I0⟩
          case round =>
            obtain ⟨jj, hjj, rfl, I⟩ := hrel
            clear I0
            by_cases hjl : jj < l.length
            · obtain ⟨x0, x1, x2, x3⟩ := EC.out jj hjl
              have ce : wr.heap[eb]? = w5.heap[eb]? := I.keep eb (by omega) hebl.2
              have cc : ∀ x : Nat, wr.cell? ⟨eb, x, none⟩ = w5.cell? ⟨eb, x, none⟩ := fun x => by unfold World.cell?; rw [ce]
              rw [← cc] at x0 x1 x2 x3
              clear ce cc
              have IN : Hid (∀ wx, Calls Try.prog 67 #[str l[jj].key, .agg #[str f, str tu]] wx fun e w' => e = .returned (.bool (Mm.inB l[jj].key f tu)) ∧ Below wx.heap.size wx w') := fun wx => in_any wx _ f tu
              have TK : Hid (Mm.spanL f tu (l.take (jj + 1)) = Mm.spanL f tu (l.take jj) ++ (if Mm.inB l[jj].key f tu = true then [l[jj]] else [])) := by
                show _ = _
                rw [List.take_succ_eq_append_getElem hjl]
                unfold Mm.spanL
                rw [List.filter_append]
                congr 1
                rw [List.filter_cons]
                simp
              have LE : (out ++ Mm.spanL f tu (l.take jj)).length ≤ 4194304 := by
                have h1 : (Mm.spanL f tu (l.take jj)).length ≤ (l.take jj).length := List.length_filter_le _ _
                rw [List.length_append]
                rw [List.length_take] at h1
                omega
              generalize l[jj] = x at *
              obtain ⟨XK, XV, XQ, XD⟩ := x
              simp only at x0 x1 x2 x3 IN TK
              obtain ⟨s0, s1, _⟩ := slot2 I.span
              have hS := (Array.getElem?_eq_some_iff.1 I.span).1
              have hnS : ¬ wr.heap.size = w.heap.size := by omega
              generalize Mm.inB XK f tu = ib at *
              have I1 := hide (I.later ((Below.refl _ _).alloc (Nat.le_refl _) (.cells #[str XK, str XV, .int .i64 XQ, .bool XD] 39)))
              obtain ⟨o, ho⟩ : ∃ o, o = out ++ Mm.spanL f tu (l.take jj) := ⟨_, rfl⟩
              have HOo := hide ho.symm
              rw [← ho] at LE I1
              clear ho I
              cases ib with
              | false =>
                rw [if_neg (by simp), List.append_nil] at TK
                go_wp2_with (first
                  | (go_at_call 67; refine (IN.out _).mono ?_; rintro e w6 ⟨rfl, b6⟩; clear IN))
                refine ⟨⟨jj + 1, by omega, by go_num, ?_⟩, by simp [intOf]; omega⟩
                rw [TK.out, HOo.out]
                exact I1.out.later b6
              | true =>
                rw [if_pos rfl] at TK
                have CN : Hid (∀ W : World, ∀ B, B = W.heap.size → ∀ i u, (ecs [⟨XK, XV, XQ, XD⟩])[i]? = some u → (W.alloc (.cells #[str XK, str XV, .int .i64 XQ, .bool XD] 39)).cell? ((⟨B, 0, none⟩ : Addr).add i) = some u) := fun W B hB => ec_new W ⟨XK, XV, XQ, XD⟩ B hB
                have HL : Hid ((ecs [⟨XK, XV, XQ, XD⟩]).length = 1 * 4) := rfl
                have HO : Hid (∀ u ∈ ecs [⟨XK, XV, XQ, XD⟩], u.oneCell' = true) := ecs_one _
                have Z1 : Hid (o.length + 1 ≤ maxLen) := by show _ ≤ _; unfold maxLen; omega
                have Z2 : Hid ((o.length + 1) * 48 ≤ 140737488355328) := by show _ ≤ _; omega
                have E1 := World.alloc_heap_new wr (.cells #[str XK, str XV, .int .i64 XQ, .bool XD] 39)
                go_wp2_with (first
                  | (go_at_call 67; refine (IN.out _).mono ?_; rintro e w6 ⟨rfl, b6⟩; have e6 := keepB b6 E1; obtain ⟨y0, y1, y2, y3, _⟩ := slot4 (e := ⟨XK, XV, XQ, XD⟩) e6; have I6 := hide (I1.out.later b6); have I7 := hide (I6.out.later ((Below.refl _ _).alloc (Nat.le_refl _) (.cells #[str XK, str XV, .int .i64 XQ, .bool XD] 39))); have z6 := I6.out.size; clear IN I1)
                  | (at_builtin; refine wpList_append_lies _ rfl _ _ 22 rfl (w.heap.size + 1) 39 i0 _ 4 48 Try.underlying22 hi hz0 hz1 hz2 rfl (by decide) _ o.length _ rfl I7.out.own ⟨w6.heap.size, 0, none⟩ 1 1 (ecs [⟨XK, XV, XQ, XD⟩]) rfl HL.out (CN.out _ _ rfl) HO.out (by decide) Z1.out Z2.out (by simp; omega) _ rfl ?_; intro g8 cap8 w8 o8 h8 l8 lt8))
                refine ⟨⟨jj + 1, by omega, by go_num, ?_⟩, by simp [intOf]; omega⟩
                rw [TK.out, ← List.append_assoc, HOo.out]
                exact I7.out.push hlt h8 o8 l8
            · have e : jj = l.length := by omega
              subst e
              have i3 : ¬ (l.length : Int) < (l.length : Int) := by omega
              rw [List.take_length] at I
              have p5 : wr.heap[Rz]? = some (prtO (PS : Int) (PF : Int) (str PK) (str []) (PQ : Int) false) := (I.keep Rz (Nat.le_refl _) zL).trans P5
              obtain ⟨_, _, y2, _⟩ := slot6 p5
              obtain ⟨s0, s1, _⟩ := slot2 I.span
              have LE : (out ++ Mm.spanL f tu l).length ≤ (j + 1) * 64 := by
                have h1 : (Mm.spanL f tu l).length ≤ l.length := List.length_filter_le _ _
                rw [List.length_append]
                omega
              generalize out ++ Mm.spanL f tu l = o at *
              have II := hide I
              clear I EC
              by_cases htu : tu = []
              · subst htu
                rw [if_neg (by simp)] at DM2
                go_wp2_with (fail)
                go_roundw
                case rel => exact ⟨_, _, _, _, _, _, _, .int .i64 ((j : Int) + 1), ⟨j + 1, by omega, by go_num, o, ⟨II.out.own, II.out.span, II.out.turn, DM2.out, LE, rfl⟩⟩, rfl, rfl, rfl, rfl, rfl, rfl, rfl, rfl⟩
                case measure => simp [intOf]; omega
              · have ht1 : (tu == []) = false := by simpa using htu
                cases hbl : Op.bytesLess PK tu with
                | true =>
                  rw [if_neg (by rw [hbl]; simp)] at DM2
                  go_wp2_with (fail)
                  go_roundw
                  case rel => exact ⟨_, _, _, _, _, _, _, .int .i64 ((j : Int) + 1), ⟨j + 1, by omega, by go_num, o, ⟨II.out.own, II.out.span, II.out.turn, DM2.out, LE, rfl⟩⟩, rfl, rfl, rfl, rfl, rfl, rfl, rfl, rfl⟩
                  case measure => simp [intOf]; omega
                | false =>
                  rw [if_pos ⟨htu, hbl⟩] at DM2
                  go_wp2_with (fail)
                  go_ret2
                  refine ⟨_, _, rfl, .inl ⟨o, by rw [← DM2.out], rfl, own_lift II.out.own (Nat.le_succ _)⟩, ?_⟩
                  rw [← DM2.out]
                  exact II.out.turn
        · have hsc : Ss.scan t f tu = (none, j + 1) := by rw [← DM.out, Ss.scanR, if_pos hok]
          have HSC := hide hsc
          clear hsc HD RK DM
          go_wp2_with (fail)
          go_ret2
          refine ⟨_, _, rfl, .inr ⟨by rw [HSC.out], rfl, rfl⟩, ?_⟩
          rw [HSC.out]
          exact U5
      · have e : j = M := by omega
        subst e
        have i3 : ¬ (j : Int) < (j : Int) := by omega
        rw [List.drop_eq_nil_of_le (by have := HLL.out; omega)] at dm
        have DM := hide dm
        have OO := hide (own_lift do' (Nat.le_succ w.heap.size))
        clear dm do'
        go_wp2_with (fail)
        go_ret2
        refine ⟨_, _, rfl, .inl ⟨out, by rw [← DM.out]; rfl, rfl, OO.out⟩, ?_⟩
        rw [← DM.out]
        exact dt
end Go.Proofs.Ytepkhbbhpamdnaa
