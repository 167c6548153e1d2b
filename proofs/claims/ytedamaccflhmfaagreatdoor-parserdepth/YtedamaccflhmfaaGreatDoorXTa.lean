/-
  Package parser: the teller: what it has told, and what its calls leave alone; add. .. and what follows from it.
-/
import Derived.Test.YtedamaccflhmfaaGreatDoorPsN
import Derived.Test.YtedamaccflhmfaaGreatDoorXG
import Derived.Test.YtedamaccflhmfaaGreatDoorXF
import Derived.Deep.AppendLies
import Derived.Test.YtedamaccflhmfaaGreatDoorXPb
namespace Go.Proofs.YtedamaccflhmfaaGreatDoor
open Go.RowKit
attribute [local go_sem ↓] Go.wp_at_zero Go.wp_at_succ

def tkC (x : Lx.Tk) : List Value := [.int .u8 x.k, .string ⟨x.t.toArray⟩, .int .u64 x.n, .int .i64 x.at']
def tksC (l : List Lx.Tk) : List Value := l.flatMap tkC
/-- The teller at T: v its slice, l its tokens, c how many expressions it was asked for. -/
structure Tl (w : World) (base T : Nat) (v : Value) (l : List Lx.Tk) (c : Nat) : Prop where
  cell : w.heap[T]? = some (.cells #[v, .int .i64 c] 116 (0, 0))
  own : w.ownsRow base 60 4 v l.length (tksC l)
  ne : v.ownBlock ≠ some T
  bt : base ≤ T
  tab : PsTab w
  tb : tabB ≤ base
/-- What the teller's calls turn: its own block, the list's, and new ones. -/
structure Ts (T : Nat) (v v' : Value) (w w' : World) : Prop where
  os : w'.os = w.os
  tape : w'.tape = w.tape
  output : w'.output = w.output
  size : w.heap.size ≤ w'.heap.size
  block : ∀ k, k < w.heap.size → k ≠ T → v.ownBlock ≠ some k → w'.heap[k]? = w.heap[k]?
  own : v'.ownBlock = v.ownBlock ∨ ∃ k, v'.ownBlock = some k ∧ w.heap.size ≤ k
theorem Ts.refl (T : Nat) (v : Value) (w : World) : Ts T v v w w := ⟨rfl, rfl, rfl, Nat.le_refl _, fun _ _ _ _ => rfl, .inl rfl⟩
theorem Ts.trans {T : Nat} {v v1 v2 : Value} {w w1 w2 : World} (h : Ts T v v1 w w1) (k : Ts T v1 v2 w1 w2) : Ts T v v2 w w2 := by
  refine ⟨k.os.trans h.os, k.tape.trans h.tape, k.output.trans h.output, Nat.le_trans h.size k.size, fun i hi hn hv => ?_, ?_⟩
  · refine (k.block i (Nat.lt_of_lt_of_le hi h.size) hn fun e => ?_).trans (h.block i hi hn hv)
    rcases h.own with h1 | ⟨j, h1, h2⟩
    · rw [h1] at e; exact hv e
    · rw [h1] at e; injection e with e; omega
  · rcases k.own with k1 | ⟨j, k1, k2⟩
    · rcases h.own with h1 | ⟨i, h1, h2⟩
      · exact .inl (k1.trans h1)
      · exact .inr ⟨i, k1.trans h1, h2⟩
    · exact .inr ⟨j, k1, Nat.le_trans h.size k2⟩
theorem Ts.later {T : Nat} {v v1 : Value} {w w1 w2 : World} (h : Ts T v v1 w w1) (k : Below w1.heap.size w1 w2) : Ts T v v1 w w2 := h.trans ⟨k.os, k.tape, k.output, k.size, fun i hi _ _ => k.block i hi, .inl rfl⟩
theorem Ts.alloc {T : Nat} {v v1 : Value} {w w1 : World} (h : Ts T v v1 w w1) (o : Obj) : Ts T v v1 w (w1.alloc o) := h.later ((Below.refl _ _).alloc (Nat.le_refl _) o)
theorem Ts.drew {T : Nat} {v v1 : Value} {w w1 : World} (h : Ts T v v1 w w1) : Ts T v v1 w w1.drew := h.later (Below.refl _ _).drew
theorem Tl.lt {w : World} {base T : Nat} {v : Value} {l : List Lx.Tk} {c : Nat} (h : Tl w base T v l c) : T < w.heap.size := (Array.getElem?_eq_some_iff.1 h.cell).1
theorem Tl.later {w w' : World} {base T : Nat} {v : Value} {l : List Lx.Tk} {c : Nat} (h : Tl w base T v l c) (k : Below w.heap.size w w') : Tl w' base T v l c :=
  ⟨(k.block T h.lt).trans h.cell, h.own.kept (row := none) ⟨k.os, k.tape, k.output, k.size, fun i hi _ => k.block i hi⟩ (by rcases e : v.ownBlock with _ | x; exact .inl rfl; exact .inr (fun h => by cases h)), h.ne, h.bt, h.tab.later k, h.tb⟩
theorem Tl.alloc {w : World} {base T : Nat} {v : Value} {l : List Lx.Tk} {c : Nat} (h : Tl w base T v l c) (o : Obj) : Tl (w.alloc o) base T v l c := h.later ((Below.refl _ _).alloc (Nat.le_refl _) o)
theorem Tl.drew {w : World} {base T : Nat} {v : Value} {l : List Lx.Tk} {c : Nat} (h : Tl w base T v l c) : Tl w.drew base T v l c := h.later (Below.refl _ _).drew
theorem Tl.far {w : World} {base T : Nat} {v : Value} {l : List Lx.Tk} {c : Nat} (h : Tl w base T v l c) {k : Nat} (hk : w.heap.size ≤ k) : k ≠ T ∧ v.ownBlock ≠ some k := by
  refine ⟨by have := h.lt; omega, fun e => ?_⟩
  have := (h.own.lt k e).2
  omega
/-- The teller in a new block. -/
theorem Tl.new (w : World) {base : Nat} (hb : base ≤ w.heap.size) (ht : PsTab w) (htb : tabB ≤ base) : Tl (w.alloc (.cells #[.slice none 0 0, .int .i64 0] 116)) base w.heap.size (.slice none 0 0) [] 0 :=
  ⟨heap_new rfl, World.ownsRow_nil _ _ _ _, by simp [Value.ownBlock], hb, ht.later ((Below.refl _ _).alloc (Nat.le_refl _) _), htb⟩
/-- A block that is nobody's stays as it is. -/
theorem Ts.keeps {T : Nat} {v v' : Value} {w w' : World} (h : Ts T v v' w w') {k : Nat} {o : Obj} (hk : w.heap[k]? = some o) (hn : k ≠ T ∧ v.ownBlock ≠ some k) : w'.heap[k]? = some o := (h.block k (Array.getElem?_eq_some_iff.1 hk).1 hn.1 hn.2).trans hk
/-- Nobody's stays nobody's. -/
theorem Ts.far {T : Nat} {v v' : Value} {w w' : World} (h : Ts T v v' w w') {k : Nat} (hk : k < w.heap.size) (hn : k ≠ T ∧ v.ownBlock ≠ some k) : k ≠ T ∧ v'.ownBlock ≠ some k := by
  refine ⟨hn.1, fun e => ?_⟩
  rcases h.own with h1 | ⟨j, h1, h2⟩
  · rw [h1] at e; exact hn.2 e
  · rw [h1] at e; injection e with e; omega
/-- Old memory is kept. -/
theorem Ts.kept {T : Nat} {v v' : Value} {w w' : World} {base : Nat} {l : List Lx.Tk} {c : Nat} (h : Ts T v v' w w') (hl : Tl w base T v l c) : Kept (fun b => b < base) w w' := fun k hk hlt => h.block k hlt (by have := hl.bt; have h2 : k < base := hk; omega) (fun e => by have := (hl.own.lt k e).1; have h2 : k < base := hk; omega)

theorem infoE_tk : (Tryz.prog.info? 60).map (fun i => (i.zero, i.size, i.bytes)) = some (some (.agg #[.int .u8 0, .string ⟨#[]⟩, .int .u64 0, .int .i64 0]), 4, 40) := by kernel_rfl
theorem tksC_snoc (l : List Lx.Tk) (x : Lx.Tk) : tksC (l ++ [x]) = tksC l ++ tkC x := by simp [tksC]
/-- The list, one token longer, is stored. -/
theorem Tl.put {w0 w w' : World} {base T : Nat} {v : Value} {l : List Lx.Tk} {c : Nat} (h : Tl w base T v l c) (hb : Below w0.heap.size w0 w) (x : Lx.Tk) {g cap : Nat} (ho : w'.ownsRow base 60 4 (.slice (some ⟨g, 0, none⟩) (l.length + 1) cap) (l.length + 1) (tksC l ++ tkC x)) (hg : w.grownBy w' v.ownBlock) (hat : v.ownBlock = some g ∨ g = w.heap.size) : Tl (w'.setCell ⟨T, 0, none⟩ (.slice (some ⟨g, 0, none⟩) (l.length + 1) cap)) base T (.slice (some ⟨g, 0, none⟩) (l.length + 1) cap) (l ++ [x]) c ∧ Ts T v (.slice (some ⟨g, 0, none⟩) (l.length + 1) cap) w0 (w'.setCell ⟨T, 0, none⟩ (.slice (some ⟨g, 0, none⟩) (l.length + 1) cap)) := by
  have hlt := h.lt
  have hne : g ≠ T := by
    rcases hat with e | e
    · intro e2; exact h.ne (by rw [e, e2])
    · omega
  have hc : w'.heap[T]? = some (.cells #[v, .int .i64 c] 116 (0, 0)) := (hg.block T hlt (fun e => h.ne e.symm)).trans h.cell
  have hs : w'.grownBy (w'.setCell ⟨T, 0, none⟩ (.slice (some ⟨g, 0, none⟩) (l.length + 1) cap)) (some T) := ⟨rfl, rfl, rfl, by simp [World.setCell], fun k _ hk => Below.heap_setCell _ _ _ _ (fun e => hk (by rw [e]))⟩
  refine ⟨⟨heap_set hc _, ?_, fun e => hne (by injection e), h.bt, h.tab.keep fun k hk => ?_, h.tb⟩, ?_, ?_, ?_, ?_, fun k hk hn hv => ?_, ?_⟩
  · rw [tksC_snoc, List.length_append]
    exact ho.kept hs (.inr (fun e => hne (by injection e)))
  · have h1 := h.tb; have h2 := h.bt
    exact (Below.heap_setCell _ _ _ _ (show k ≠ T by omega)).trans (hg.block k (by omega) (fun e => by have := (h.own.lt k e.symm).1; omega))
  · exact hg.os.trans hb.os
  · exact hg.tape.trans hb.tape
  · exact hg.output.trans hb.output
  · exact Nat.le_trans hb.size (Nat.le_trans hg.size (by simp [World.setCell]))
  · exact (Below.heap_setCell _ _ _ _ hn).trans ((hg.block k (Nat.lt_of_lt_of_le hk hb.size) (fun e => hv e.symm)).trans (hb.block k hk))
  · rcases hat with e | e
    · exact .inl (by rw [e]; rfl)
    · exact .inr ⟨g, rfl, by have := hb.size; omega⟩
theorem oneCell_tk (x : Lx.Tk) : ∀ u ∈ tkC x, u.oneCell' = true := by
  intro u hu
  simp only [tkC, List.mem_cons, List.not_mem_nil, or_false] at hu
  rcases hu with rfl | rfl | rfl | rfl <;> rfl
/-- A token is appended, at a step of a region that draws its order. -/
theorem step_tk {ops : Array Oper} {o : Oper} {a : Act} {K : Act → World → Prop} {Q : Exit → Act → World → Prop} {E : Prop} {w : World} (hgd : o.guard = none) (s x : Operand) (hop : o.op = .call { callee := .builtin .append, args := #[s, x], argTypes := #[54, 54] })
    (base T : Nat) (v : Value) (l : List Lx.Tk) (c : Nat) (hs : a.eval s = v) (h : Tl w base T v l c) (hl : l.length ≤ 1000000)
    (b cb : Nat) (el : Lx.Tk) (cs : Array Value) (hx : a.eval x = .slice (some ⟨b, 0, none⟩) 1 cb) (hb : w.heap[b]? = some (.cells cs 60 (0, 0))) (hc : cs = (tkC el).toArray)
    (hk : ∀ g cap w', w'.ownsRow base 60 4 (.slice (some ⟨g, 0, none⟩) (l.length + 1) cap) (l.length + 1) (tksC l ++ tkC el) → w.grownBy w' v.ownBlock → (v.ownBlock = some g ∨ g = w.heap.size) → K (a.put o.dst (.slice (some ⟨g, 0, none⟩) (l.length + 1) cap)) w') :
    if Region.wanted o (yielded ops a.tmps) = true then Oper.wp Tryz.prog o a w K Q else E := by
  obtain ⟨i0, hi, hz0, hz1, hz2⟩ := info_parts infoE_tk
  subst hc
  refine step_append_lies w hgd s x 54 hop base 60 i0 _ 4 40 Tryz.underlying54 hi hz0 hz1 hz2 rfl (by decide) v l.length (tksC l) hs h.own ⟨b, 0, none⟩ 1 cb (tkC el) hx (by simp [tkC]) (World.news_of_block (cs := (tkC el).toArray) hb) (oneCell_tk el) (by decide) (by unfold maxLen; omega) (by omega) (Nat.le_trans h.bt (Nat.le_of_lt h.lt)) _ rfl ?_
  intro g cap w' h2 h3 h4 _
  exact hk g cap w' h2 h3 h4
set_option maxRecDepth 100000 in
set_option maxHeartbeats 3200000 in
theorem add_any (w : World) (base T : Nat) (v : Value) (l : List Lx.Tk) (c : Nat) (h : Tl w base T v l c) (hl : l.length ≤ 1000000) (k : Int) (t : List UInt8) (n : Nat) (at' : Int) : Calls Tryz.prog 150 #[.pointer (some ⟨T, 0, none⟩), .agg #[.int .u8 k, .string ⟨t.toArray⟩, .int .u64 n, .int .i64 at']] w fun e w' => e = .returned (.tuple #[]) ∧ ∃ v', Tl w' base T v' (l ++ [⟨k, t, n, at'⟩]) c ∧ Ts T v v' w w' := by
  have H0 := hide h
  have hlt := h.lt
  have n1 : ¬ T = w.heap.size := Nat.ne_of_lt hlt
  have n2 : ¬ w.heap.size = T := fun e => n1 e.symm
  have n3 : ¬ T = w.heap.size + 1 := Nat.ne_of_lt (Nat.lt_succ_of_lt hlt)
  have n4 : ¬ w.heap.size + 1 = T := fun e => n3 e.symm
  have c0 := Joins.cell_of_block h.cell 0
  have f0 := Joins.unfrozen_of_block h.cell 0
  clear h
  go_enter Tryz.func150, Tryz.ntmps150
  go_wp2_with (fail)
  go_region_law (refine step_tk (by rfl) _ _ (by rfl) base T v l c (by rfl) ((H0.out.alloc (.cells #[.int .u8 k, .string ⟨t.toArray⟩, .int .u64 n, .int .i64 at'] 60)).drew.alloc (.cells #[.int .u8 k, .string ⟨t.toArray⟩, .int .u64 n, .int .i64 at'] 60)) hl (w.heap.size + 1) 1 ⟨k, t, n, at'⟩ #[.int .u8 k, .string ⟨t.toArray⟩, .int .u64 n, .int .i64 at'] (by rfl) (heap_new (by simp)) rfl ?_; intro g cap w2 ho hg hat; have P2 := hide (Tl.put ((H0.out.alloc (.cells #[.int .u8 k, .string ⟨t.toArray⟩, .int .u64 n, .int .i64 at'] 60)).drew.alloc (.cells #[.int .u8 k, .string ⟨t.toArray⟩, .int .u64 n, .int .i64 at'] 60)) (((Below.refl w.heap.size w).alloc (Nat.le_refl _) _).drew.alloc (by simp) _) ⟨k, t, n, at'⟩ ho hg hat); have hT2 := (hg.block T (by simp; omega) (fun e => H0.out.ne e.symm)).trans ((H0.out.alloc (.cells #[.int .u8 k, .string ⟨t.toArray⟩, .int .u64 n, .int .i64 at'] 60)).drew.alloc (.cells #[.int .u8 k, .string ⟨t.toArray⟩, .int .u64 n, .int .i64 at'] 60)).cell; have c2 := Joins.cell_of_block hT2 0; have f2 := Joins.unfrozen_of_block hT2 0; clear ho hg hat hT2)
  all_goals go_wp2_with (fail)
  all_goals exact bodyPost_end (v := .tuple #[]) (by simp [results, Tryz.results150]) rfl ⟨rfl, _, P2.out⟩
end Go.Proofs.YtedamaccflhmfaaGreatDoor
namespace Go.Proofs.YtedamaccflhmfaaGreatDoor
open Go.RowKit
attribute [local go_sem ↓] Go.wp_at_zero Go.wp_at_succ

def strV (s : List UInt8) : Value := .string ⟨s.toArray⟩
/-- What a method of the teller answers: these tokens behind what is told, d more expressions. -/
abbrev Told1 (base T : Nat) (v : Value) (l : List Lx.Tk) (_ : Nat) (w : World) (ts : List Lx.Tk) (c' : Nat) (e : Ending) (w' : World) : Prop := e = .returned (.tuple #[]) ∧ ∃ v', Tl w' base T v' (l ++ ts) c' ∧ Ts T v v' w w'
theorem name_told (w : World) (base T : Nat) (v : Value) (l : List Lx.Tk) (c : Nat) (h : Tl w base T v l c) (hl : l.length ≤ 1000000) (t : List UInt8) : Calls Tryz.prog 89 #[.pointer (some ⟨T, 0, none⟩), .string ⟨t.toArray⟩] w (Told1 base T v l c w [Ps.wd t] c) := by
  have A := hide (fun k t n a => add_any w base T v l c h hl k t n a)
  clear h hl
  go_enter Tryz.func89, Tryz.ntmps89
  go_wp2_with (go_at_call 150; refine (A.out 1 t 0 0).mono ?_; rintro e w2 ⟨rfl, v2, h2, h3⟩; have H2 := hide h2; clear h2)
  exact bodyPost_end (v := .tuple #[]) (by simp [results, Tryz.results89]) rfl ⟨rfl, _, H2.out, h3⟩
theorem number_told (w : World) (base T : Nat) (v : Value) (l : List Lx.Tk) (c : Nat) (h : Tl w base T v l c) (hl : l.length ≤ 1000000) (n : Nat) : Calls Tryz.prog 146 #[.pointer (some ⟨T, 0, none⟩), .int .u64 n] w (Told1 base T v l c w [Ps.nu n] c) := by
  have A := hide (fun k t n a => add_any w base T v l c h hl k t n a)
  clear h hl
  go_enter Tryz.func146, Tryz.ntmps146
  go_wp2_with (go_at_call 150; refine (A.out 2 [] n 0).mono ?_; rintro e w2 ⟨rfl, v2, h2, h3⟩; have H2 := hide h2; clear h2)
  exact bodyPost_end (v := .tuple #[]) (by simp [results, Tryz.results146]) rfl ⟨rfl, _, H2.out, h3⟩

theorem kw_cons (x : UInt8) (r : List UInt8) : Ps.kw (x :: r) = ⟨if 97 ≤ x.toNat ∧ x.toNat ≤ 122 then 1 else 4, x :: r, 0, 0⟩ := rfl
set_option maxRecDepth 100000 in
set_option maxHeartbeats 400000 in
theorem say_told (w : World) (base T : Nat) (v : Value) (l : List Lx.Tk) (c : Nat) (h : Tl w base T v l c) (ss : List (List UInt8)) (b cap : Nat) (hb : w.heap[b]? = some (.cells (ss.map strV).toArray 9 (0, 0))) (hf : b ≠ T ∧ v.ownBlock ≠ some b) (hne : ∀ s ∈ ss, s ≠ []) (hl : l.length + ss.length ≤ 1000000) : Calls Tryz.prog 88 #[.pointer (some ⟨T, 0, none⟩), .slice (some ⟨b, 0, none⟩) ss.length cap] w (Told1 base T v l c w (ss.map Ps.kw) c) := by
  have H0 := hide h
  have HB := hide hb
  have HF := hide hf
  have HL := hide hl
  have HNE := hide hne
  have hl63 : ss.length ≤ 1000000 := by omega
  clear h hb hf hl hne
  go_enter Tryz.func88, Tryz.ntmps88
  go_wp2_with (fail)
  go_loopw [9] (fun i wr => ∃ (m : Nat) (v2 : Value), i = .int .i64 m ∧ m ≤ ss.length ∧ Tl wr base T v2 (l ++ (ss.take m).map Ps.kw) c ∧ Ts T v v2 w wr) (fun i _ => ss.length - (intOf i).toNat)
  case atStart => exact ⟨0, v, rfl, Nat.zero_le _, by simpa using H0.out, Ts.refl _ _ _⟩
  case round =>
    obtain ⟨m, v2, rfl, hm, h2, h3⟩ := hrel
    have H2 := hide h2
    have H3 := hide h3
    have hB2 := h3.keeps HB.out HF.out
    clear h2 h3
    by_cases hlt : m < ss.length
    · obtain ⟨s, hs⟩ : ∃ s, ss[m]? = some s := ⟨_, List.getElem?_eq_getElem hlt⟩
      obtain ⟨x, r, rfl⟩ : ∃ x r, s = x :: r := by
        rcases s with _ | ⟨x, r⟩
        · exact absurd rfl (HNE.out _ (List.mem_of_getElem? hs))
        · exact ⟨x, r, rfl⟩
      have hcell : wr.cell? ⟨b, m, none⟩ = some (.string ⟨(x :: r).toArray⟩) := by
        rw [Joins.cell_of_block hB2 m]
        simp [hs, strV]
      have HT := hide (show (ss.take (m + 1)).map Ps.kw = (ss.take m).map Ps.kw ++ [Ps.kw (x :: r)] by rw [List.take_add_one, hs]; simp)
      have HS := hide hs
      have hi0 : (0 : Int) ≤ (m : Int) := Int.natCast_nonneg m
      have hi1 : (m : Int) < (ss.length : Int) := by exact_mod_cast hlt
      have A := hide (fun k t n a => add_any wr base T v2 _ c H2.out (by have := HL.out; simp only [List.length_append, List.length_map, List.length_take]; omega) k t n a)
      clear hs hB2
      have KW := hide (kw_cons x r)
      obtain ⟨sb, hsb⟩ : ∃ sb : ByteArray, sb = ⟨(x :: r).toArray⟩ := ⟨_, rfl⟩
      rw [← hsb] at hcell
      have A2 := hide (fun k => A.out k (x :: r) 0 0)
      rw [← hsb] at A2
      clear A
      have hsz : (0 : Int) < (sb.size : Int) := by rw [hsb]; show (0 : Int) < ((x :: r).toArray.size : Int); simp
      have hsz2 : 0 < sb.size := by omega
      have hget : sb.get! 0 = x := by rw [hsb]; rfl
      have hget2 : sb[0]'hsz2 = x := by simp only [hsb]; rfl
      have HSB := hide hsb
      clear hsb
      by_cases k1 : (97 : Int) ≤ (x.toNat : Int)
      · by_cases k2 : (x.toNat : Int) ≤ 122
        · have HK := hide (show Ps.kw (x :: r) = ⟨1, x :: r, 0, 0⟩ by rw [KW.out, if_pos ⟨by omega, by omega⟩])
          go_wp2_with (go_at_call 150; refine (A2.out 1).mono ?_; rintro e w2 ⟨rfl, v3, h2, h3⟩; have H4 := hide h2; have H5 := hide h3; clear h2 h3)
          exact ⟨⟨m + 1, v3, by simp, by omega, by rw [HT.out, HK.out, ← List.append_assoc]; exact H4.out, H3.out.trans H5.out⟩, by simp only [intOf]; omega⟩
        · have HK := hide (show Ps.kw (x :: r) = ⟨4, x :: r, 0, 0⟩ by rw [KW.out, if_neg (by omega)])
          go_wp2_with (go_at_call 150; refine (A2.out 4).mono ?_; rintro e w2 ⟨rfl, v3, h2, h3⟩; have H4 := hide h2; have H5 := hide h3; clear h2 h3)
          exact ⟨⟨m + 1, v3, by simp, by omega, by rw [HT.out, HK.out, ← List.append_assoc]; exact H4.out, H3.out.trans H5.out⟩, by simp only [intOf]; omega⟩
      · have HK := hide (show Ps.kw (x :: r) = ⟨4, x :: r, 0, 0⟩ by rw [KW.out, if_neg (by omega)])
        go_wp2_with (go_at_call 150; refine (A2.out 4).mono ?_; rintro e w2 ⟨rfl, v3, h2, h3⟩; have H4 := hide h2; have H5 := hide h3; clear h2 h3)
        exact ⟨⟨m + 1, v3, by simp, by omega, by rw [HT.out, HK.out, ← List.append_assoc]; exact H4.out, H3.out.trans H5.out⟩, by simp only [intOf]; omega⟩
    · obtain rfl : m = ss.length := by omega
      clear hB2
      go_wp2_with (fail)
      have h2 := H2.out
      rw [List.take_length] at h2
      exact bodyPost_end (v := .tuple #[]) (by simp [results, Tryz.results88]) rfl ⟨rfl, _, h2, H3.out⟩
end Go.Proofs.YtedamaccflhmfaaGreatDoor
namespace Go.Proofs.YtedamaccflhmfaaGreatDoor
open Go.RowKit
attribute [local go_sem ↓] Go.wp_at_zero Go.wp_at_succ

theorem results_row_tmp {P : Program} {fn : Func} {p u : Tmp} {ty : TypeId} (h : fn.results = #[.cell p ty, .tmp u]) (tmps : Array Value) (w : World) (g : Nat) (t : TypeId) (cs : Array Value) (fr : Nat × Nat) (d : TypeDesc) (v : Value)
    (hp : tmps.getD p undef = .pointer (some ⟨g, 0, none⟩)) (hg : w.heap[g]? = some (.cells cs t fr)) (hu : P.underlying ty = some d) (hd : (match d with | .struct _ | .array _ _ => true | _ => false) = true) (hi : (P.info? ty).map (·.size) = some cs.size) (hv : tmps.getD u undef = v) :
    (results fn tmps).run P w = .ok (.tuple #[.agg cs, v]) w := by
  subst hv
  have hp' : tmps[p]?.getD undef = .pointer (some ⟨g, 0, none⟩) := by simpa using hp
  simp [results, h, hp', asAddr, run_loadVar_row w g t ty cs fr d hg hu hd hi]
theorem info_op3 : (Tryz.prog.info? 156).map (·.size) = some 3 := by kernel_rfl
def OpOf (op : Int) (w : World) (e : Ending) (w' : World) : Prop := Below w.heap.size w w' ∧ match Ps.opOf op with
  | some (s, k) => k ≤ 5 ∧ e = .returned (.tuple #[.agg #[.int .u8 op, .string ⟨s.toArray⟩, .int .i64 k], .bool true])
  | none => e = .returned (.tuple #[.agg #[.int .u8 0, .string ⟨#[]⟩, .int .i64 0], .bool false])
set_option maxRecDepth 100000 in
set_option maxHeartbeats 1600000 in
theorem operationOf_any (w : World) (h : PsTab w) (op : Int) : Calls Tryz.prog 116 #[.int .u8 op] w (OpOf op w) := by
  have HT := hide h.ops
  obtain ⟨z, hz⟩ : ∃ z, z = Ps.opOf op := ⟨_, rfl⟩
  have HZ : Hid (z = ((Ps.ops.drop 0).find? fun o => o.1 == op).map (·.2)) := hz
  unfold OpOf
  rw [← hz]
  clear h hz
  go_enter Tryz.func116, Tryz.ntmps116
  go_wp2_with (refine wpList_load_row rfl 202 (.global 5) rfl 5 rfl _ _ _ _ (alloc_keeps HT.out _) Tryz.underlying202 rfl info_ops ?_)
  clear HT
  obtain ⟨A, hA⟩ : ∃ A, A = opsA := ⟨_, rfl⟩
  have HA := hide hA
  rw [show Value.agg opsC.toArray = opsA from rfl, ← hA]
  clear hA
  go_loopw [7] (fun i wr => ∃ j : Nat, i = .int .i64 j ∧ j ≤ 14 ∧ wr.heap[w.heap.size]? = some (.cells #[.int .u8 0, .string ⟨#[]⟩, .int .i64 0] 156 (0, 0)) ∧ Below w.heap.size w wr ∧ Hid (z = ((Ps.ops.drop j).find? fun o => o.1 == op).map (·.2))) (fun i _ => 14 - (intOf i).toNat)
  case atStart => exact ⟨0, rfl, by omega, heap_new rfl, (Below.refl _ _).alloc (Nat.le_refl _) _, HZ⟩
  case round =>
    clear HZ
    obtain ⟨j, rfl, hj, hR, hS, HZ⟩ := hrel
    obtain ⟨za0, za1, za2, hlt0⟩ := sl3 hR
    have zb0 := Joins.unfrozen_of_block hR 0; have zb1 := Joins.unfrozen_of_block hR 1; have zb2 := Joins.unfrozen_of_block hR 2
    have n1 : ¬ w.heap.size = wr.heap.size := Nat.ne_of_lt hlt0
    have n2 : ¬ wr.heap.size = w.heap.size := fun e => n1 e.symm
    by_cases hlt : j < 14
    · obtain ⟨o, s, k, hg, hk5, hix⟩ := ops_index j hlt
      rw [← HA.out] at hix
      have hd : Ps.ops.drop j = (o, s, k) :: Ps.ops.drop (j + 1) := by
        obtain ⟨h1, h2⟩ := List.getElem?_eq_some_iff.1 hg
        rw [List.drop_eq_getElem_cons h1, h2]
      have HZ2 := HZ.out
      rw [hd, List.find?_cons] at HZ2
      have hj0 : ((j : Nat) : Int) < 14 := by omega
      by_cases ho : o = op
      · subst ho
        have HZ3 : z = some (s, k) := by rw [HZ2]; simp
        subst HZ3
        have HK5 := hide hk5
        clear hd HZ HZ2 hg hk5
        go_wp2_with (fail)
        have R2 := alloc_keeps (heap_set (i := 2) (heap_set (i := 1) (heap_set (i := 0) hR (.int .u8 o)) (.string ⟨s.toArray⟩)) (.int .i64 k)) (.cells #[.int .u8 o, .string ⟨s.toArray⟩, .int .i64 k] 156)
        refine bodyPost_ret (results_row_tmp (by rfl) _ _ w.heap.size 156 _ (0, 0) _ (.bool true) (by rfl) R2 Tryz.underlying156 rfl info_op3 (by rfl)) (by rfl) ⟨?_, HK5.out, rfl⟩
        exact (((hS.setCell (p := ⟨w.heap.size, 0, none⟩) (Nat.le_refl _) _).setCell (p := ⟨w.heap.size, 1, none⟩) (Nat.le_refl _) _).setCell (p := ⟨w.heap.size, 2, none⟩) (Nat.le_refl _) _).alloc (by have := hS.size; simpa [World.setCell] using this) _
      · have HZ4 := hide (show z = ((Ps.ops.drop (j + 1)).find? fun o => o.1 == op).map (·.2) by rw [HZ2, show (o == op) = false from by simpa using ho])
        clear hd HZ HZ2 hg
        go_wp2_with (fail)
        exact ⟨⟨j + 1, by simp, by omega, alloc_keeps hR _, hS.alloc (by have := hS.size; omega) _, HZ4⟩, by simp only [intOf]; omega⟩
    · obtain rfl : j = 14 := by omega
      have HZ3 : z = none := HZ.out
      subst HZ3
      clear HZ
      go_wp2_with (fail)
      have R2 := heap_set (i := 2) (heap_set (i := 1) (heap_set (i := 0) hR (.int .u8 0)) (.string ⟨#[]⟩)) (.int .i64 0)
      refine bodyPost_ret (results_row_tmp (by rfl) _ _ w.heap.size 156 _ (0, 0) _ (.bool false) (by rfl) R2 Tryz.underlying156 rfl info_op3 (by rfl)) (by rfl) ⟨?_, rfl⟩
      exact ((hS.setCell (p := ⟨w.heap.size, 0, none⟩) (Nat.le_refl _) _).setCell (p := ⟨w.heap.size, 1, none⟩) (Nat.le_refl _) _).setCell (p := ⟨w.heap.size, 2, none⟩) (Nat.le_refl _) _
set_option maxHeartbeats 800000 in
theorem rankOf_any (w : World) (h : PsTab w) (op : Int) : Calls Tryz.prog 158 #[.int .u8 op] w fun e w' => e = .returned (.int .i64 (Ps.rank op)) ∧ Below w.heap.size w w' := by
  have HR := hide (show Ps.rank op = if op = 17 then 2 else if op = 19 ∨ op = 20 then 3 else match Ps.opOf op with | some o => o.2 | none => 6 from rfl)
  have OF := hide (operationOf_any w h op)
  obtain ⟨z, hz⟩ : ∃ z, z = Ps.opOf op := ⟨_, rfl⟩
  unfold OpOf at OF
  rw [← hz] at OF HR
  obtain ⟨rk, hrk⟩ : ∃ rk, rk = Ps.rank op := ⟨_, rfl⟩
  rw [← hrk] at HR ⊢
  clear hz hrk h
  by_cases h17 : op = 17
  · subst h17
    have e : rk = 2 := HR.out
    subst e
    go_enter Tryz.func158, Tryz.ntmps158
    go_wp2_with (fail)
    go_ret
    exact ⟨rfl, Below.refl _ _⟩
  · by_cases h19 : op = 19
    · subst h19
      have e : rk = 3 := HR.out
      subst e
      go_enter Tryz.func158, Tryz.ntmps158
      go_wp2_with (fail)
      go_ret
      exact ⟨rfl, Below.refl _ _⟩
    · by_cases h20 : op = 20
      · subst h20
        have e : rk = 3 := HR.out
        subst e
        go_enter Tryz.func158, Tryz.ntmps158
        go_wp2_with (fail)
        go_ret
        exact ⟨rfl, Below.refl _ _⟩
      · have HR2 := HR.out
        rw [if_neg h17, if_neg (by rintro (h | h); exact h19 h; exact h20 h)] at HR2
        rcases z with _ | ⟨s, k⟩
        · have e : rk = 6 := HR2
          subst e
          clear HR HR2
          go_enter Tryz.func158, Tryz.ntmps158
          go_wp2_with (go_at_call 116; refine OF.out.mono ?_; rintro e w2 ⟨hb, rfl⟩)
          go_ret
          exact ⟨rfl, hb.alloc (hb.size) _⟩
        · have e : rk = k := HR2
          subst e
          clear HR HR2
          go_enter Tryz.func158, Tryz.ntmps158
          go_wp2_with (go_at_call 116; refine OF.out.mono ?_; rintro e w2 ⟨hb, hk, rfl⟩)
          go_ret
          exact ⟨rfl, hb.alloc (hb.size) _⟩
end Go.Proofs.YtedamaccflhmfaaGreatDoor
