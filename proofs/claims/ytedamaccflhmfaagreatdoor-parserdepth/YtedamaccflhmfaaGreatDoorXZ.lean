/-
  Package parser: PrintExpr of an expression that is read again. .. and what follows from it.
-/
import Derived.Test.YtedamaccflhmfaaGreatDoorXTd
import Derived.Test.YtedamaccflhmfaaGreatDoorXY
import Derived.Test.YtedamaccflhmfaaGreatDoorLxPB
import Derived.Test.YtedamaccflhmfaaGreatDoorXG
namespace Go.Proofs.YtedamaccflhmfaaGreatDoor
open Go.RowKit
attribute [local go_sem ↓] Go.wp_at_zero Go.wp_at_succ

theorem Ts.below {T : Nat} {v v' : Value} {w w' : World} {base : Nat} {l : List Lx.Tk} {c : Nat} (h : Ts T v v' w w') (hl : Tl w base T v l c) : Below base w w' :=
  ⟨h.os, h.tape, h.output, h.size, fun k hk => h.block k (by have := hl.lt; have := hl.bt; omega) (by have := hl.bt; omega) (fun e => by have := (hl.own.lt k e).1; omega)⟩
theorem tksC_is (l : List Lx.Tk) : tksC l = tkcs l := rfl
theorem Tl.tks {w : World} {base T : Nat} {v : Value} {l : List Lx.Tk} {c : Nat} (h : Tl w base T v l c) (hm : ∀ x ∈ l, Lx.mayT x = true) : TksIn w v l :=
  TksIn.own (by rw [← tksC_is]; exact h.own) fun x hx => may_wf (by rw [Lx.may_unp (hm x hx)]; exact hm x hx) (by rw [Lx.may_at (hm x hx)]; decide) (by rw [Lx.may_at (hm x hx)]; decide)
/-- The text of an expression. -/
def exText (x : Ps.Ex) : ByteArray := ⟨(Lx.textL (Ps.tellE x 0).1).toArray⟩
set_option maxRecDepth 100000 in
set_option maxHeartbeats 1600000 in
theorem PrintExpr_ok (w : World) (o k n : Int) (t : ByteArray) (tb nm : List UInt8) (sl kd : Int) (ag : List Ps.Ex) (a : Option Addr) (cap : Nat) (P : Nat → Prop) (hx : ExAt P w (.mk o ⟨k, n, t⟩ tb nm sl kd ag) (.slice a ag.length cap)) (hr : rngE (.mk o ⟨k, n, t⟩ tb nm sl kd ag)) (hw : wtE (.mk o ⟨k, n, t⟩ tb nm sl kd ag) ≤ 900000) (hT : Tabs w) (hP : PsTab w) (htb : tabB ≤ w.heap.size)
    (s : ByteArray) (hs : s = exText (.mk o ⟨k, n, t⟩ tb nm sl kd ag)) (hm : ∀ x ∈ (Ps.tellE (.mk o ⟨k, n, t⟩ tb nm sl kd ag) 0).1, Lx.mayT x = true) (hsz : s.size ≤ 65536) (hR : exprR s = (0, 0, .mk o ⟨k, n, t⟩ tb nm sl kd ag)) :
    Calls Tryz.prog 18 #[.agg (bx o k n t tb nm sl kd (.slice a ag.length cap))] w fun e w' => e = .returned (.tuple #[.string s, .int .i64 0]) ∧ Below w.heap.size w w' := by
  have B0 := (Below.refl w.heap.size w).alloc (Nat.le_refl _) (.cells (bx o k n t tb nm sl kd (.slice a ag.length cap)) 34)
  have B1 := B0.alloc (by simp) (.cells #[.slice none 0 0, .int .i64 0] 116)
  have T1 : Hid (Tl ((w.alloc (.cells (bx o k n t tb nm sl kd (.slice a ag.length cap)) 34)).alloc (.cells #[.slice none 0 0, .int .i64 0] 116)) w.heap.size (w.heap.size + 1) (.slice none 0 0) [] 0) := by
    have := Tl.new (w.alloc (.cells (bx o k n t tb nm sl kd (.slice a ag.length cap)) 34)) (base := w.heap.size) (by simp) (hP.later B0) htb
    rw [show (w.alloc (.cells (bx o k n t tb nm sl kd (.slice a ag.length cap)) 34)).heap.size = w.heap.size + 1 from by simp] at this
    exact this
  have X1 := hide (ExAt.keep (Q := fun b => b < w.heap.size) (Kept.of (B1.mono (Nat.le_refl _))) (fun _ _ hk => hk) _ _ hx)
  have XT := hide (ExAt.keep (Q := fun _ => True) (Kept.refl P w) (fun _ _ _ => trivial) _ _ hx)
  have C1 : Hid (((w.alloc (.cells (bx o k n t tb nm sl kd (.slice a ag.length cap)) 34)).alloc (.cells #[.slice none 0 0, .int .i64 0] 116)).heap[w.heap.size]? = some (.cells (bx o k n t tb nm sl kd (.slice a ag.length cap)) 34 (0, 0))) := alloc_keeps (heap_new rfl) _
  have TE := hide (tells_all (.mk o ⟨k, n, t⟩ tb nm sl kd ag))
  obtain ⟨ts, c', htl⟩ : ∃ ts c', Ps.tellE (.mk o ⟨k, n, t⟩ tb nm sl kd ag) 0 = (ts, c') := ⟨_, _, rfl⟩
  have hlen := tell_len (.mk o ⟨k, n, t⟩ tb nm sl kd ag) 0
  rw [htl] at hm hlen
  simp only at hlen hm
  have hs2 : s = ⟨(Lx.textL ts).toArray⟩ := by rw [hs, exText, htl]
  have E1 : Hid (Calls Tryz.prog 46 #[.pointer (some ⟨w.heap.size + 1, 0, none⟩), .agg (bx o k n t tb nm sl kd (.slice a ag.length cap))] ((w.alloc (.cells (bx o k n t tb nm sl kd (.slice a ag.length cap)) 34)).alloc (.cells #[.slice none 0 0, .int .i64 0] 116)) (Told1 w.heap.size (w.heap.size + 1) (.slice none 0 0) [] 0 ((w.alloc (.cells (bx o k n t tb nm sl kd (.slice a ag.length cap)) 34)).alloc (.cells #[.slice none 0 0, .int .i64 0] 116)) ts c')) := by
    have := TE.out _ _ _ _ _ _ a cap T1.out X1.out hr (by simp only [List.length_nil]; omega) (by omega)
    rw [htl] at this
    exact this
  have TX := hide (fun wx v hv hT => text_may wx v ts hv (by omega) hT hm s hs2)
  have EX : Hid (∀ wx, Tab2 wx → PsTab wx → tabB ≤ wx.heap.size → Calls Tryz.prog 11 #[.string s] wx fun e w' => ∃ a2 cap2, e = .returned (.tuple #[.agg (bx o k n t tb nm sl kd (.slice a2 ag.length cap2)), .agg #[.int .i64 0, .int .i64 0]]) ∧ ExAt (Fr wx.heap.size) w' (.mk o ⟨k, n, t⟩ tb nm sl kd ag) (.slice a2 ag.length cap2) ∧ Below wx.heap.size wx w') := fun wx h1 h2 h3 => by
    refine (Expr_any wx s hsz h1 h2 h3).mono ?_
    rintro e w' ⟨S, he, hat, hb⟩
    rw [hR] at he hat
    obtain ⟨a2, cap2, rfl⟩ := ExAt.slice hat
    exact ⟨a2, cap2, he, hat, hb⟩
  have SX := hide (sames_all (.mk o ⟨k, n, t⟩ tb nm sl kd ag))
  have HTb := hide hT
  have HPb := hide hP
  have HM := hide hm
  have hagl : ag.length ≤ 1000000 := by rw [rngE] at hr; have := hr.2.2; omega
  have hagr : rngL ag := by rw [rngE] at hr; exact hr.2.1
  have HB1 := hide B1
  clear hx hr hw hT hP hs hm hsz hR B0 B1 htl hlen hs2 TE X1
  go_enter Tryz.func18, Tryz.ntmps18
  go_wp2_with (first
    | (go_at_call 9; refine (SX.out _ (fun _ => True) a4 cap4 a cap X5.out Y5.out hagl hagr).mono ?_; rintro e w6 ⟨rfl, hb6⟩)
    | (go_at_call 11; refine (EX.out _ (HTb.out.two.later (BF.out)) (HPb.out.later BF.out) (Nat.le_trans htb BF.out.size)).mono ?_; rintro e w4 ⟨a4, cap4, rfl, hat4, hb4⟩; have C4 := (hb4.block _ (Array.getElem?_eq_some_iff.1 CF).1).trans CF; have G4 := (hb4.block _ (Array.getElem?_eq_some_iff.1 GF).1).trans GF; obtain ⟨⟨xa0, xa1, xa2, xa3, xa4, xa5, xa6, xa7, xa8⟩, _, hl5⟩ := sl9 C4; have ga0 := Joins.cell_of_block G4 0; have hg5 := (Array.getElem?_eq_some_iff.1 G4).1; have K4 := (((Below.refl w4.heap.size w4).alloc (Nat.le_refl _) (.cells (bx o k n t tb nm sl kd (.slice a4 ag.length cap4)) 34)).alloc (by simp) (.cells #[.int .i64 0, .int .i64 0] 41)); have B4 := BF.out.trans (hb4.mono BF.out.size); have HB5 := hide (B4.trans (K4.mono B4.size)); have X5 := hide (ExAt.keep (Kept.of K4) (fun _ _ _ => trivial) _ _ hat4); have Y5 := hide (ExAt.keep (Q := fun _ => True) (Kept.of HB5.out) (fun _ _ _ => trivial) _ _ XT.out); have q1 : ¬ w.heap.size = w4.heap.size := Nat.ne_of_lt hl5; have q2 : ¬ w3.heap.size = w4.heap.size := Nat.ne_of_lt hg5; have q3 : ¬ w.heap.size = w4.heap.size + 1 := Nat.ne_of_lt (Nat.lt_succ_of_lt hl5); have q4 : ¬ w3.heap.size = w4.heap.size + 1 := Nat.ne_of_lt (Nat.lt_succ_of_lt hg5); clear hat4 K4 B4)
    | (go_at_call 47; refine (TX.out _ _ (H2.out.tks HM.out) (HTb.out.later B2)).mono ?_; rintro e w3 ⟨rfl, hb3⟩; have B3 := B2.trans (hb3.mono B2.size); have C3 := (hb3.block _ (Array.getElem?_eq_some_iff.1 C2).1).trans C2; have BF := hide (B3.alloc B3.size (.cells #[.int .i64 0, .int .i64 0] 41)); have CF := alloc_keeps C3 (.cells #[.int .i64 0, .int .i64 0] 41); have GF : (w3.alloc (.cells #[.int .i64 0, .int .i64 0] 41)).heap[w3.heap.size]? = _ := heap_new rfl)
    | (go_at_call 46; refine E1.out.mono ?_; rintro e w2 ⟨rfl, v2, h2, t2⟩; have H2 := hide h2; have B2 := HB1.out.trans (t2.below T1.out); have C2 := t2.keeps C1.out ⟨by simp, by simp [Value.ownBlock]⟩; have D2 := h2.cell; have d20 := Joins.cell_of_block D2 0; clear h2))
  exact bodyPost_ret (results_tmp2 rfl _ _ _) rfl ⟨rfl, HB5.out.trans (hb6.mono HB5.out.size)⟩
end Go.Proofs.YtedamaccflhmfaaGreatDoor
namespace Go.Proofs.YtedamaccflhmfaaGreatDoor
open Go.RowKit
open Ps (kw opens nestX nestT nestU deep upTo cost)

/-- Tokens with their places, one blank between. -/
def pl : List Lx.Tk → Nat → List Lx.Tk
  | [], _ => []
  | x :: r, a => { x with at' := (a : Int) } :: pl r (a + (Lx.saidT x).length + 1)
theorem lex_pl : ∀ (l : List Lx.Tk) (a : Nat), (∀ x ∈ l, Lx.mayT x = true) → Lx.lexA (Lx.textL l) a = .ok (pl l a)
  | [], a, _ => rfl
  | [x], a, h => by
    have hx := h x (by simp)
    have hp := Lx.lexA_piece (Lx.said_next hx) [] [] (by simp) (.inr Lx.ends_nil) a
    rw [Lx.take_said, List.append_nil, List.append_nil] at hp
    rw [Lx.textL, hp, Lx.lexA_nil]; rfl
  | x :: y :: r, a, h => by
    have hx := h x (by simp)
    have hq := lex_pl (y :: r) (a + (Lx.saidT x).length + 1) (fun z hz => h z (by simp [hz]))
    have hp := Lx.lexA_piece (Lx.said_next hx) [32] (Lx.textL (y :: r)) (by intro b hb; simp at hb; subst hb; rfl) (.inl (by simp)) a
    rw [Lx.take_said] at hp
    rw [Lx.textL, hp]
    show (Lx.lexA _ (a + (Lx.saidT x).length + 1)).map _ = _
    rw [hq]; rfl
theorem pl_unp : ∀ (l : List Lx.Tk) (a : Nat), (∀ x ∈ l, Lx.mayT x = true) → (pl l a).map Lx.unp = l
  | [], _, _ => rfl
  | x :: r, a, h => by
    rw [pl, List.map_cons, Lx.tk_at, Lx.may_unp (h x (by simp)), pl_unp r _ fun z hz => h z (by simp [hz])]
/-- Each token and a blank. -/
def wB (l : List Lx.Tk) : List UInt8 := l.flatMap fun x => Lx.saidT x ++ [32]
theorem pl_at : ∀ (l A ts : List Lx.Tk) (t : Lx.Tk) (a : Nat), pl l a = A ++ t :: ts → t.at' = ((a + (wB (A.map Lx.unp)).length : Nat) : Int)
  | [], A, ts, t, a, h => by rcases A with _ | ⟨x, A⟩ <;> cases h
  | x :: r, [], ts, t, a, h => by
    rw [pl] at h
    injection h with h1 _
    rw [← h1]; rfl
  | x :: r, y :: A, ts, t, a, h => by
    rw [pl] at h
    injection h with h1 h2
    rw [pl_at r A ts t _ h2, List.map_cons, ← h1]
    show ((a + (Lx.saidT x).length + 1 + (wB (A.map Lx.unp)).length : Nat) : Int) = ((a + ((Lx.saidT x ++ [32]) ++ wB (A.map Lx.unp)).length : Nat) : Int)
    simp only [List.length_append, List.length_cons, List.length_nil]
    congr 1
    omega
theorem textL_app : ∀ (a r : List Lx.Tk), r ≠ [] → Lx.textL (a ++ r) = wB a ++ Lx.textL r
  | [], r, _ => rfl
  | x :: a, r, h => by
    have ih := textL_app a r h
    obtain ⟨y, z, hz⟩ : ∃ y z, a ++ r = y :: z := by
      rcases e : a ++ r with _ | ⟨y, z⟩
      · exact absurd (List.append_eq_nil_iff.1 e).2 h
      · exact ⟨y, z, rfl⟩
    rw [List.cons_append, hz, Lx.textL, ← hz, ih]
    simp [wB]

def openB (m : Int) : List UInt8 := if m = 0 then [40, 32] else if m = 1 ∨ m = -1 then [40, 32, 110, 111, 116, 32] else [109, 97, 120, 32, 40, 32]
def aheadB (ms : List Int) : List UInt8 := ms.flatMap openB
def behindB (n : Nat) : List UInt8 := (List.replicate n ([32, 41] : List UInt8)).flatten
def textD (ms : List Int) : List UInt8 := aheadB ms ++ [116, 114, 117, 101] ++ behindB ms.length
theorem wB_opens (m : Int) : wB (opens m) = openB m := by
  unfold opens openB
  repeat' split
  all_goals rfl
theorem wB_upTo (b : Nat) (ms : List Int) : wB (upTo b ms) = aheadB (ms.take b) := by
  unfold upTo aheadB
  generalize ms.take b = l
  induction l with
  | nil => rfl
  | cons x r ih => rw [List.flatMap_cons, List.flatMap_cons, ← ih, ← wB_opens]; simp [wB]
theorem nestT_ne (ms : List Int) (rest : List Lx.Tk) : nestT ms rest ≠ [] := by
  rcases ms with _ | ⟨m, r⟩
  · simp [nestT]
  · rw [nestT, opens]; repeat' split
    all_goals simp
theorem nestT_text : ∀ (ms : List Int) (rest : List Lx.Tk), Lx.textL (nestT ms rest) = aheadB ms ++ Lx.textL (kw [116, 114, 117, 101] :: (List.replicate ms.length (kw [41]) ++ rest))
  | [], rest => rfl
  | m :: r, rest => by
    rw [nestT, textL_app _ _ (nestT_ne _ _), wB_opens, nestT_text r (kw [41] :: rest)]
    rw [show aheadB (m :: r) = openB m ++ aheadB r from rfl, List.append_assoc, List.length_cons]
    rw [show List.replicate r.length (kw [41]) ++ kw [41] :: rest = List.replicate (r.length + 1) (kw [41]) ++ rest from by
      rw [List.replicate_succ', List.append_assoc]; rfl]
theorem close_text : ∀ (n : Nat) (x : Lx.Tk), Lx.textL (x :: List.replicate n (kw [41])) = Lx.saidT x ++ behindB n
  | 0, x => by simp [Lx.textL, behindB]
  | n + 1, x => by
    rw [List.replicate_succ, Lx.textL, close_text n (kw [41])]
    simp [behindB, List.replicate_succ, show Lx.saidT (kw [41]) = [41] from rfl]
theorem textD_is (ms : List Int) : Lx.textL (nestT ms []) = textD ms := by
  rw [nestT_text, List.append_nil, close_text, textD, List.append_assoc]; rfl
theorem opens_may (m : Int) : ∀ x ∈ opens m, Lx.mayT x = true := by
  intro x hx
  unfold opens at hx
  split at hx
  · simp only [List.mem_cons, List.not_mem_nil, or_false] at hx; subst hx; rfl
  · split at hx
    · simp only [List.mem_cons, List.not_mem_nil, or_false] at hx; rcases hx with rfl | rfl <;> rfl
    · simp only [List.mem_cons, List.not_mem_nil, or_false] at hx; rcases hx with rfl | rfl <;> rfl
theorem nestT_may : ∀ (ms : List Int) (rest : List Lx.Tk), (∀ x ∈ rest, Lx.mayT x = true) → ∀ x ∈ nestT ms rest, Lx.mayT x = true
  | [], rest, h, x, hx => by
    rcases List.mem_cons.1 hx with rfl | hx
    · rfl
    · exact h x hx
  | m :: r, rest, h, x, hx => by
    rw [nestT] at hx
    rcases List.mem_append.1 hx with hx | hx
    · exact opens_may m x hx
    · refine nestT_may r (kw [41] :: rest) (fun y hy => ?_) x hx
      rcases List.mem_cons.1 hy with rfl | hy
      · rfl
      · exact h y hy
theorem nestU_may : ∀ (ms : List Int) (rest : List Lx.Tk), (∀ x ∈ rest, Lx.mayT x = true) → ∀ x ∈ nestU ms rest, Lx.mayT x = true
  | [], rest, h, x, hx => by
    rcases List.mem_cons.1 hx with rfl | hx
    · rfl
    · exact h x hx
  | m :: r, rest, h, x, hx => by
    rw [nestU] at hx
    split at hx
    · exact nestU_may r rest h x hx
    · split at hx
      · rcases List.mem_cons.1 hx with rfl | hx
        · rfl
        · exact nestU_may r rest h x hx
      · rcases List.mem_cons.1 hx with rfl | hx
        · rfl
        · rcases List.mem_cons.1 hx with rfl | hx
          · rfl
          · refine nestU_may r _ (fun y hy => ?_) x hx
            rcases List.mem_cons.1 hy with rfl | hy
            · rfl
            · exact h y hy
theorem oneExpr_of {q l : List Lx.Tk} {x : Ps.Ex} (hq : q.map Lx.unp = l) (h : Ps.exprT l = .ok x []) : ∃ ts, Ps.oneExpr q = .ok x ts := by
  have e := Ps.oneExpr_eqv q
  rw [hq] at e
  rw [show Ps.oneExpr l = .ok x [] from by rw [Ps.oneExpr, h]; rfl] at e
  rcases h1 : Ps.oneExpr q with ⟨y, ts⟩ | ⟨c, ts⟩
  · rw [h1] at e
    injection e with e1 _
    exact ⟨ts, by rw [e1]⟩
  · rw [h1] at e; cases e
theorem exprR_text {l : List Lx.Tk} (hm : ∀ x ∈ l, Lx.mayT x = true) {x : Ps.Ex} (h : Ps.exprT l = .ok x []) {s : ByteArray} (hs : s.data.toList = Lx.textL l) : exprR s = (0, 0, x) := by
  obtain ⟨ts, ho⟩ := oneExpr_of (pl_unp l 0 hm) h
  rw [exprR, hs, lex_pl l 0 hm]
  simp only [ho]
theorem depth_ok (ms : List Int) (hd : deep ms ≤ 40) (s : ByteArray) (hs : s.data.toList = textD ms) : exprR s = (0, 0, nestX ms) := by
  refine exprR_text (nestT_may ms [] (by simp)) ?_ (hs.trans (textD_is ms).symm)
  have hh := Ps.nest_head ms []
  exact Ps.up_expr (Ps.up_not hh.1 hh.2 (Ps.nest_ok ms 40 [] hd) Ps.stop_nil) Ps.stop_nil
theorem depth_no (ms : List Int) (hd : 40 < deep ms) (s : ByteArray) (hs : s.data.toList = textD ms) : ∃ p, exprR s = (241, p, Ps.none') ∧ (deep ms = ms.length → p = ((aheadB (ms.take 40)).length : Nat)) := by
  have hm := nestT_may ms [] (by simp)
  have hq := pl_unp (nestT ms []) 0 hm
  obtain ⟨ts, hp, hA⟩ := Ps.nest_no ms 40 [] _ hq hd
  have hh := Ps.nest_head ms []
  rw [← hq, Ps.has_map, Ps.has_map] at hh
  have he : Ps.exprT (pl (nestT ms []) 0) = .no 241 ts := Ps.no_expr (Ps.no_not hh.1 hh.2 hp)
  have ho : Ps.oneExpr (pl (nestT ms []) 0) = .no 241 ts := by rw [Ps.oneExpr, he]; rfl
  refine ⟨Ps.faultAt s.size ts, ?_, fun hl => ?_⟩
  · rw [exprR, hs, ← textD_is, lex_pl _ 0 hm]
    simp only [ho]
  · obtain ⟨A, hA1, hA2, hne⟩ := hA hl
    rcases ts with _ | ⟨t, ts⟩
    · exact absurd rfl hne
    · show t.at' = _
      rw [pl_at _ A ts t 0 hA1, hA2, wB_upTo, Nat.zero_add]
/-! ### Told again -/
theorem nestU_app : ∀ (ms : List Int) (rest : List Lx.Tk), nestU ms rest = nestU ms [] ++ rest
  | [], rest => rfl
  | m :: r, rest => by
    rw [nestU, nestU]
    split
    · exact nestU_app r rest
    · split
      · rw [nestU_app r rest]; rfl
      · rw [nestU_app r (kw [41] :: rest), nestU_app r [kw [41]]]; simp
theorem rank_nest : ∀ ms : List Int, 2 ≤ Ps.rank (Ps.opX (nestX ms))
  | [] => by decide
  | m :: r => by
    rw [nestX]
    split
    · exact rank_nest r
    · split
      · show 2 ≤ Ps.rank 17; decide
      · show 2 ≤ Ps.rank 25; decide
theorem tell_nest : ∀ (ms : List Int) (c : Nat), c + ms.length < 65536 → ∃ c', Ps.tellE (nestX ms) c = (nestU ms [], c')
  | [], c, h => ⟨c + 1, by
    show Ps.tellE (.mk 1 ⟨1, 1, ⟨#[]⟩⟩ [] [] 0 0 []) c = _
    rw [Ps.tellE, if_neg (by simp at h; omega)]; rfl⟩
  | m :: r, c, h => by
    rw [List.length_cons] at h
    rw [nestX, nestU]
    split
    · exact tell_nest r c (by omega)
    · obtain ⟨c', hc⟩ := tell_nest r (c + 1) (by omega)
      split
      · refine ⟨c', ?_⟩
        show Ps.tellE (.mk 17 Ps.zeroV [] [] 0 0 [nestX r]) c = _
        rw [tell_one, if_neg (by omega), oneT, hc]
        simp only [if_true]
        rw [decide_eq_false (by have := rank_nest r; omega)]; rfl
      · refine ⟨c', ?_⟩
        show Ps.tellE (.mk 25 Ps.zeroV [] [] 0 0 [nestX r]) c = _
        rw [tell_one, if_neg (by omega), oneT, hc]
        rw [if_neg (by decide), if_neg (by decide), if_neg (by decide), if_neg (by decide)]
        rw [show (Ps.aggs.find? fun a => a.1 == (25 : Int)) = some (25, [109, 97, 120]) from rfl]
        rw [nestU_app r [kw [41]]]
        rfl
theorem nest_rng : ∀ ms : List Int, rngE (nestX ms)
  | [] => by simp [nestX, Ps.lit, rngE, rngL, inR]
  | m :: r => by
    have ih := nest_rng r
    rw [nestX]
    split
    · exact ih
    · split
      · show rngE (.mk 17 Ps.zeroV [] [] 0 0 [nestX r])
        rw [rngE, rngL, rngL]
        exact ⟨fun h => absurd h (by decide), ⟨ih, trivial⟩, by simp⟩
      · show rngE (.mk 25 Ps.zeroV [] [] 0 0 [nestX r])
        rw [rngE, rngL, rngL]
        exact ⟨fun h => absurd h (by decide), ⟨ih, trivial⟩, by simp⟩
theorem nest_wt : ∀ ms : List Int, wtE (nestX ms) ≤ 6 * ms.length + 6
  | [] => by decide
  | m :: r => by
    have ih := nest_wt r
    rw [nestX, List.length_cons]
    split
    · omega
    · split
      · show wtE (.mk 17 Ps.zeroV [] [] 0 0 [nestX r]) ≤ _
        rw [wtE, wtL, wtL]; omega
      · show wtE (.mk 25 Ps.zeroV [] [] 0 0 [nestX r]) ≤ _
        rw [wtE, wtL, wtL]; omega
theorem nestU_len : ∀ (ms : List Int) (rest : List Lx.Tk), (wB (nestU ms rest)).length ≤ 9 * ms.length + 5 + (wB rest).length
  | [], rest => by
    show ((Lx.saidT (kw [116, 114, 117, 101]) ++ [32]) ++ wB rest).length ≤ _
    rw [show Lx.saidT (kw [116, 114, 117, 101]) = [116, 114, 117, 101] from rfl]
    simp only [List.length_append, List.length_cons, List.length_nil]; omega
  | m :: r, rest => by
    have h1 := nestU_len r rest
    have h2 := nestU_len r (kw [41] :: rest)
    rw [show wB (kw [41] :: rest) = [41, 32] ++ wB rest from rfl, List.length_append] at h2
    simp only [List.length_cons, List.length_nil] at h2
    rw [nestU, List.length_cons]
    split
    · omega
    · split
      · rw [show wB (kw [110, 111, 116] :: nestU r rest) = [110, 111, 116, 32] ++ wB (nestU r rest) from rfl, List.length_append]
        simp only [List.length_cons, List.length_nil]; omega
      · rw [show wB (kw [109, 97, 120] :: kw [40] :: nestU r (kw [41] :: rest)) = [109, 97, 120, 32, 40, 32] ++ wB (nestU r (kw [41] :: rest)) from rfl, List.length_append]
        simp only [List.length_cons, List.length_nil]; omega
theorem textL_le : ∀ l : List Lx.Tk, (Lx.textL l).length ≤ (wB l).length
  | [] => Nat.le_refl _
  | [x] => by show (Lx.saidT x).length ≤ ((Lx.saidT x ++ [32]) ++ []).length; simp
  | x :: y :: r => by
    have := textL_le (y :: r)
    rw [Lx.textL]
    show (Lx.saidT x ++ ([32] ++ Lx.textL (y :: r))).length ≤ ((Lx.saidT x ++ [32]) ++ wB (y :: r)).length
    simp only [List.length_append] at *
    omega
/-- All that PrintExpr asks of a nest that is not too deep. -/
theorem nest_print (ms : List Int) (hl : ms.length ≤ 100) (hd : deep ms ≤ 40) : (∀ x ∈ (Ps.tellE (nestX ms) 0).1, Lx.mayT x = true) ∧ (exText (nestX ms)).size ≤ 65536 ∧ exprR (exText (nestX ms)) = (0, 0, nestX ms) ∧ wtE (nestX ms) ≤ 900000 := by
  obtain ⟨c', hc⟩ := tell_nest ms 0 (by omega)
  have hm := nestU_may ms [] (by simp)
  have ht : exText (nestX ms) = ⟨(Lx.textL (nestU ms [])).toArray⟩ := by rw [exText, hc]
  refine ⟨by rw [hc]; exact hm, ?_, ?_, by have := nest_wt ms; omega⟩
  · rw [ht]
    show (Lx.textL (nestU ms [])).toArray.size ≤ _
    rw [List.size_toArray]
    have h1 := textL_le (nestU ms [])
    have h2 := nestU_len ms []
    rw [show (wB []).length = 0 from rfl] at h2
    omega
  · exact exprR_text hm (Ps.up_expr (Ps.nestU_ok ms 40 [] hd Ps.stop_nil) Ps.stop_nil) (by rw [ht])
theorem openB_len (m : Int) : (openB m).length ≤ 6 := by unfold openB; repeat' split
                                                         all_goals simp
theorem aheadB_len : ∀ ms : List Int, (aheadB ms).length ≤ 6 * ms.length
  | [] => Nat.le_refl _
  | m :: r => by
    have h1 := aheadB_len r
    have h2 := openB_len m
    rw [show aheadB (m :: r) = openB m ++ aheadB r from rfl, List.length_append, List.length_cons]; omega
theorem behindB_len (n : Nat) : (behindB n).length = 2 * n := by
  unfold behindB
  induction n with
  | zero => rfl
  | succ n ih => rw [List.replicate_succ, List.flatten_cons, List.length_append, ih]; simp; omega
end Go.Proofs.YtedamaccflhmfaaGreatDoor
