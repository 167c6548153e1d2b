/-
  A log and its file system, and blocks that are none of theirs: what the calls of WalAltered leave. .. and what follows from it.
-/
import Derived.Test.YtppfkhpofbbnbaaGreatDoorWD
import Derived.Test.YtppfkhpofbbnbaaGreatDoorWOpenBad
import Derived.Test.YtppfkhpofbbnbaaGreatDoorWF
import Derived.Deep.AppendLies
namespace Go.Proofs.YtppfkhpofbbnbaaGreatDoor
open Go.RowKit Go.Maps Go.Sort

structure WlK (P : Nat → Prop) (base : Nat) (w : World) (c b q n : Nat) (σ : Vf.St) : Prop where
  rep : ∃ S, Rep w b σ S ∧ (∀ i, S i → base ≤ i) ∧ ¬ S c ∧ ∀ i, P i → ¬ S i
  wal : WalAt w c b q n false
  new : base ≤ c
  low : base ≤ w.heap.size
  prot : ∀ i, P i → i < w.heap.size ∧ i ≠ c
theorem WlK.clt {P : Nat → Prop} {base : Nat} {w : World} {c b q n : Nat} {σ : Vf.St} (h : WlK P base w c b q n σ) : c < w.heap.size := (Array.getElem?_eq_some_iff.1 h.wal).1

theorem WlK.add {P Q : Nat → Prop} {base : Nat} {w w' : World} {c b q n : Nat} {σ : Vf.St} (h : WlK P base w c b q n σ) (hb : Below w.heap.size w w') (hQ : ∀ i, Q i → P i ∨ (w.heap.size ≤ i ∧ i < w'.heap.size)) : WlK Q base w' c b q n σ := by
  obtain ⟨S, h1, h2, h3, h4⟩ := h.rep
  have hc := h.clt
  have hz := hb.size
  refine ⟨⟨S, h1.later hb, h2, h3, fun i hi hs => ?_⟩, h.wal.later hb, h.new, Nat.le_trans h.low hb.size, fun i hi => ?_⟩
  · rcases hQ i hi with hp | hp
    · exact h4 i hp hs
    · have := h1.low i hs; omega
  · rcases hQ i hi with hp | hp
    · have := h.prot i hp; exact ⟨by omega, this.2⟩
    · exact ⟨hp.2, by omega⟩
theorem WlK.later {P : Nat → Prop} {base : Nat} {w w' : World} {c b q n : Nat} {σ : Vf.St} (h : WlK P base w c b q n σ) (hb : Below w.heap.size w w') : WlK P base w' c b q n σ := h.add hb fun _ hi => .inl hi

/-- Where a protected row has grown, in place or anew. -/
theorem WlK.grown {base : Nat} {w w' : World} {c b q n g g' : Nat} {σ : Vf.St} (h : WlK (fun i => i = g) base w c b q n σ) (hg : w.grownBy w' (some g)) (hg' : g = g' ∨ g' = w.heap.size) (hlt : g' < w'.heap.size) : WlK (fun i => i = g') base w' c b q n σ := by
  obtain ⟨S, h1, h2, h3, h4⟩ := h.rep
  have hc := h.clt
  have hm : Moved (fun i => i = g) w w' := (Moved.refl _ w).grown hg (fun k e _ => by cases e; rfl)
  have hgc := (h.prot g rfl).2
  refine ⟨⟨S, h1.same (fun i hi => hm.block i (h1.low i hi) (fun e => h4 i e hi)) hm.size, h2, h3, fun i hi hs => ?_⟩, (hm.block c hc (fun e => hgc e.symm)).trans h.wal, h.new, Nat.le_trans h.low hm.size, fun i hi => ?_⟩
  · subst hi
    rcases hg' with e | e
    · exact h4 i e.symm hs
    · have := h1.low i hs; omega
  · subst hi
    refine ⟨hlt, ?_⟩
    rcases hg' with e | e
    · exact fun e' => hgc (e.trans e')
    · omega

theorem append_k {P : Nat → Prop} {base : Nat} {w : World} {c b q n : Nat} {σ : Vf.St} (h : WlK P base w c b q n σ) (hi : Vf.Inv σ) (hon : σ.on = true) (a : Option Addr) (m cap : Nat) (l : List Wl.Wr) (hl : WrsAt w (.slice a m cap) l) (hm : m = l.length) (hk : ∀ x ∈ l, x.key.length ≤ 1000000 ∧ x.value.length ≤ 1000000)
    (h1 : 1 ≤ n) (h2 : n < 100) (hck : Wl.checkE l = 0) (hq : q < 1073741824) (hs : σ.steps ≤ 70000000) (hf : ((frB (q + 1) l).length : Int) ≤ Vf.left σ) (hp : putE σ n (frB (q + 1) l) = 0) :
    Calls Tryz.prog 16 #[.pointer (some ⟨c, 0, none⟩), .slice a m cap] w fun e w' => e = .returned (.tuple #[.int .i64 ((q : Int) + 1), .int .i64 0]) ∧ WlK P base w' c b (q + 1) n (putS σ n (frB (q + 1) l)) ∧ Below base w w' ∧ ∀ i, P i → w'.heap[i]? = w.heap[i]? := by
  obtain ⟨S, hr, hS, hc, hP⟩ := h.rep
  have hlow := h.low
  rcases walAppend_put w c b q n σ S hr hi h.wal hc hon a m cap l hl hm hk h1 h2 hck hq hs with hx | hx
  · exact absurd hx.out.1 (by omega)
  · refine (hx.out.2.1 hp).mono ?_
    rintro e w' ⟨rfl, r, hw, hm⟩
    have hz := hm.size
    refine ⟨rfl, ⟨⟨_, r, fun i hi => ?_, fun hg => ?_, fun i hi hs => ?_⟩, hw, h.new, Nat.le_trans h.low hm.size, fun i hi => ⟨by have := (h.prot i hi).1; omega, (h.prot i hi).2⟩⟩, hm.under h.low fun i hi => ?_, fun i hi => hm.block i (h.prot i hi).1 fun hs => ?_⟩
    · rcases hi with hi | hi
      · exact hS i hi
      · omega
    · rcases hg with hg | hg
      · exact hc hg
      · have := h.clt
        omega
    · rcases hs with hs | hs
      · exact hP i hi hs
      · have := (h.prot i hi).1; omega
    · rcases hi with hi | hi
      · exact hS i hi
      · subst hi; exact h.new
    · rcases hs with hs | hs
      · exact hP i hi hs
      · exact (h.prot i hi).2 hs

theorem alter_k {P : Nat → Prop} {base : Nat} {w : World} {c b q n : Nat} {σ : Vf.St} (h : WlK P base w c b q n σ) (hi : Vf.Inv σ) (hs : σ.steps ≤ 100000000) (k : Vf.Bs) (hk : k.length ≤ 1000000) (at_ : Int) (bits : UInt8) (he : Vf.alterE σ k at_ = 0) :
    Calls Tryz.prog 38 #[.pointer (some ⟨b, 0, none⟩), str k, .int .i64 at_, .int .u8 (bits.toNat : Int)] w fun e w' => e = .returned (.int .i64 0) ∧ WlK P base w' c b q n (Vf.alter σ k at_ bits) ∧ Below base w w' ∧ ∀ i, P i → w'.heap[i]? = w.heap[i]? := by
  obtain ⟨S, hr, hS, hc, hP⟩ := h.rep
  refine (alter_any w b σ S hr hi hs k hk at_ bits 0 he.symm).mono ?_
  rintro e w' ⟨rfl, r, hm⟩
  have hz := hm.size
  exact ⟨rfl, ⟨⟨S, r, hS, hc, hP⟩, h.wal.moved hm hc, h.new, Nat.le_trans h.low hm.size, fun i hi => ⟨by have := (h.prot i hi).1; omega, (h.prot i hi).2⟩⟩, hm.under h.low hS, fun i hi => hm.block i (h.prot i hi).1 (hP i hi)⟩

theorem read_k {P : Nat → Prop} {base : Nat} {w : World} {c b q n m : Nat} {σ : Vf.St} {D : Wl.Bs} (h : WlK P base w c b q n σ) (ho : Alt.Ok σ D m) (hm : m ≤ 1000000) :
    Calls Tryz.prog 35 #[.pointer (some ⟨b, 0, none⟩), str (Wl.seg 1)] w fun e w' => ∃ v', e = .returned (.tuple #[v', .int .i64 0]) ∧ w'.ownsRow w.heap.size 5 1 v' D.length (bc D) ∧ Below w.heap.size w w' := by
  obtain ⟨S, hr, _⟩ := h.rep
  have hst := ho.steps
  have := read_any w b σ S hr (ready ho.calm.inv (by omega)) (Wl.seg 1) (by rw [Wl.seg_length]; decide) 0 ho.fd.symm
  rw [ho.read] at this
  exact this

theorem torn_k {P : Nat → Prop} {base : Nat} {w : World} {c b q n m : Nat} {σ : Vf.St} {D : Wl.Bs} (h : WlK P base w c b q n σ) (ho : Alt.Ok σ D m) (hm : m ≤ 1000000) (hD : D.length ≤ 10000000) (hn : Wl.segB D = none) :
    Calls Tryz.prog 15 #[.pointer (some ⟨b, 0, none⟩), .int .i64 1, .int .i64 0] w fun e w' => e = .returned (.tuple #[.pointer none, .slice none 0 0, .int .i64 6]) ∧ Below w.heap.size w w' := by
  obtain ⟨S, hr, _⟩ := h.rep
  have hst := ho.steps
  refine open_torn w b σ S hr ho.calm.inv (by omega) ho.calm.on [1] (by decide) (by decide) ho.nm (fun k hk => ?_) (fun k hk => ?_) 1 0 (by decide) (by decide) (by decide) (Wl.rf_bad ?_)
  · obtain rfl := List.mem_singleton.1 hk; exact ho.fd
  · obtain rfl := List.mem_singleton.1 hk; rw [ho.read]; exact hD
  · show Wl.segB (Vf.read σ (Wl.seg 1)) = none
    rw [ho.read]; exact hn

set_option maxRecDepth 100000 in
theorem aopen (w : World) (base b : Nat) (h : FsIn base w.heap.size w b Alt.z0) : Calls Tryz.prog 15 #[.pointer (some ⟨b, 0, none⟩), .int .i64 1, .int .i64 0] w fun e w' => ∃ c a k, e = .returned (.tuple #[.pointer (some ⟨c, 0, none⟩), .slice a 0 k, .int .i64 0]) ∧ WlK (fun _ => False) base w' c b 0 1 Alt.z1 ∧ Below base w w' := by
  obtain ⟨S, hr, hS⟩ := h.rep
  refine (open_ok w b Alt.z0 S hr h.inv (by decide) rfl [] (by simp) (by simp) (by decide +kernel) (by simp) (by simp) 1 0 (by decide) (by decide) (by decide) [] 1 rfl (by simp) (by simp) rfl (by decide) (by decide) (by decide +kernel) 0 rfl).mono ?_
  rintro e w' ⟨c, v, rfl, ho⟩
  obtain ⟨S', vs, r, hs, hc, hB, _, _⟩ := ho.all
  obtain ⟨a, k, rfl, _⟩ := hB.shape
  have hlow := h.low
  refine ⟨c, a, k, rfl, ⟨⟨S', r, fun i hi => ?_, hc, fun _ h => h.elim⟩, ho.wal, Nat.le_trans hlow ho.new, Nat.le_trans hlow ho.moved.size, fun _ h => h.elim⟩, ho.moved.under hlow fun i hi => (hS i hi).1⟩
  rcases hs i hi with h' | h'
  · exact (hS i h').1
  · omega

/-- The ends of the frames. -/
def endsL (l : List (List Wl.Wr)) (j : Nat) : List Value := (List.range (j + 1)).map fun i => .int .i64 ((Alt.dat l i).length : Int)
theorem endsL_succ (l : List (List Wl.Wr)) (j : Nat) : endsL l (j + 1) = endsL l j ++ [.int .i64 ((Alt.dat l (j + 1)).length : Int)] := by
  unfold endsL
  rw [List.range_succ, List.map_append]
  rfl

/-- Where the first loop stands. -/
structure L1 (w0 : World) (base : Nat) (l : List (List Wl.Wr)) (wr : World) (c b j ge ce : Nat) : Prop where
  log : WlK (fun i => i = ge) base wr c b j 1 (Alt.st l j)
  good : ∀ k, k < j → Wl.checkE (l.getD k []) = 0
  ends : wr.ownsRow base 3 1 (.slice (some ⟨ge, 0, none⟩) (j + 1) ce) (j + 1) (endsL l j)
  below : Below w0.heap.size w0 wr

theorem infoAI : (Tryz.prog.info? 3).map (fun i => (i.zero, i.size, i.bytes)) = some (some (.int .i64 0), 1, 8) := by kernel_rfl

theorem L1.first {w0 w : World} {base : Nat} {l : List (List Wl.Wr)} {c b : Nat} (h : WlK (fun _ => False) base w c b 0 1 Alt.z1) (hb : Below w0.heap.size w0 w) : L1 w0 base l (w.alloc (.cells #[.int .i64 0] 3)) c b 0 w.heap.size 1 := by
  have b1 : Below w.heap.size w (w.alloc (.cells #[.int .i64 0] 3)) := (Below.refl _ _).alloc (Nat.le_refl _) _
  refine ⟨h.add b1 (fun i hi => .inr ?_), (fun k hk => by omega), ?_, hb.trans (b1.mono hb.size)⟩
  · subst hi; simp
  · exact World.ownsRow_lit (size := 1) (e := 3) (base := base) w #[.int .i64 0] 1 h.low (by decide) rfl

/-- One more end. -/
theorem ends_append {ops : Array Oper} {rest : List Oper} {o : Oper} {a : Act} {Q : Exit → Act → World → Prop} (hg : o.guard = none) (s x : Operand) (ho : o.op = .call { callee := .builtin .append, args := #[s, x], argTypes := #[75, 75] })
    (w0 : World) (base : Nat) (l : List (List Wl.Wr)) (w2 w : World) (c b j ge ce : Nat) (N : Nat) (hN : Hid (N = (Alt.dat l (j + 1)).length)) (hj : j ≤ 29) (log : WlK (fun i => i = ge) base w2 c b (j + 1) 1 (Alt.st l (j + 1))) (good : ∀ k, k < j + 1 → Wl.checkE (l.getD k []) = 0)
    (hE : w2.ownsRow base 3 1 (.slice (some ⟨ge, 0, none⟩) (j + 1) ce) (j + 1) (endsL l j)) (h0 : Below w0.heap.size w0 w2) (hw0 : w0.heap.size ≤ base) (hb : Below w2.heap.size w2 w)
    (hs : a.eval s = .slice (some ⟨ge, 0, none⟩) (j + 1) ce) (hx : a.eval x = .slice (some ⟨w.heap.size, 0, none⟩) 1 1)
    (h : ∀ g' c' w', L1 w0 base l w' c b (j + 1) g' c' → wpList Tryz.prog ops Q rest (a.put o.dst (.slice (some ⟨g', 0, none⟩) (j + 1 + 1) c')) w') : wpList Tryz.prog ops Q (o :: rest) a (w.alloc (.cells #[.int .i64 (N : Int)] 3)) := by
  obtain ⟨i0, hi, hz0, hz1, hz2⟩ := info_parts infoAI
  have b1 : Below w.heap.size w (w.alloc (.cells #[.int .i64 (N : Int)] 3)) := (Below.refl _ _).alloc (Nat.le_refl _) _
  have b2 : Below w2.heap.size w2 (w.alloc (.cells #[.int .i64 (N : Int)] 3)) := hb.trans (b1.mono hb.size)
  have zz : base ≤ (w.alloc (.cells #[.int .i64 (N : Int)] 3)).heap.size := Nat.le_trans log.low b2.size
  have E2 := own_after hE b2
  have en := World.alloc_heap_new w (.cells #[.int .i64 (N : Int)] 3)
  refine wpList_append_lies _ hg s x 75 ho base 3 i0 _ 1 8 Tryz.underlying75 hi hz0 hz1 hz2 rfl (by decide) _ (j + 1) (endsL l j) hs E2 ⟨w.heap.size, 0, none⟩ 1 1 [.int .i64 (N : Int)] hx rfl ?_ (by simp [Value.oneCell']) (by decide) (by unfold maxLen; omega) (by omega) zz _ rfl ?_
  · intro i u hu
    have hadd : (⟨w.heap.size, 0, none⟩ : Addr).add i = ⟨w.heap.size, i, none⟩ := by unfold Addr.add; split <;> simp_all
    rw [hadd]
    match i, hu with
    | 0, hu =>
      simp at hu
      subst hu
      exact Joins.cell_of_block en 0
    | i + 1, hu => simp at hu
  · intro g cap w' h1 h2 h3 h4
    refine h g cap w' ⟨(log.later b2).grown h2 (h3.imp (fun e => by simpa [Value.ownBlock] using e) id) h4, good, ?_, ?_⟩
    · rw [endsL_succ, ← hN.out]
      exact h1
    · have e1 := (own_below E2 zz h2).mono hw0
      exact (h0.trans (b2.mono h0.size)).trans e1
end Go.Proofs.YtppfkhpofbbnbaaGreatDoor
namespace Go.Proofs.YtppfkhpofbbnbaaGreatDoor
open Go.RowKit Go.Maps Go.Sort

namespace Alt
theorem mix_len (A X S t : Wl.Bs) (i : Nat) (hx : X.length = S.length) (hi : i ≤ S.length) : (A ++ (X.take i ++ (S.drop i ++ t))).length = A.length + S.length + t.length := by
  simp only [List.length_append, List.length_take, List.length_drop]
  omega
theorem mix_at (A X S t : Wl.Bs) (i : Nat) (_hx : X.length = S.length) (hi : i < S.length) : A ++ (X.take i ++ (S.drop i ++ t)) = (A ++ X.take i) ++ S[i] :: (S.drop (i + 1) ++ t) := by
  rw [List.drop_eq_getElem_cons hi]
  simp only [List.cons_append, List.append_assoc]
theorem mix_next (A X S t : Wl.Bs) (i : Nat) (hx : X.length = S.length) (hi : i < S.length) : A ++ (X.take (i + 1) ++ (S.drop (i + 1) ++ t)) = (A ++ X.take i) ++ X[i]'(by omega) :: (S.drop (i + 1) ++ t) := by
  rw [List.take_succ_eq_append_getElem (by omega)]
  simp only [List.append_assoc, List.cons_append, List.nil_append]
theorem pre_len (A X S : Wl.Bs) (i : Nat) (hx : X.length = S.length) (hi : i < S.length) : (A ++ X.take i).length = A.length + i := by
  rw [List.length_append, List.length_take]; omega
theorem xor_back (a b : UInt8) : b ^^^ (a ^^^ b) = a := by rw [UInt8.xor_comm a b, ← UInt8.xor_assoc, UInt8.xor_self, UInt8.zero_xor]
theorem mix_set (A X S t : Wl.Bs) (i : Nat) (hx : X.length = S.length) (hi : i < S.length) (h : A.length + i < (A ++ (X.take i ++ (S.drop i ++ t))).length) :
    (A ++ (X.take i ++ (S.drop i ++ t))).set (A.length + i) ((A ++ (X.take i ++ (S.drop i ++ t)))[A.length + i] ^^^ (X[i]'(by omega) ^^^ S[i])) = A ++ (X.take (i + 1) ++ (S.drop (i + 1) ++ t)) := by
  have e := mix_at A X S t i hx hi
  have hp := pre_len A X S i hx hi
  rw [mix_next A X S t i hx hi]
  have g : (A ++ (X.take i ++ (S.drop i ++ t)))[A.length + i] = S[i] := by
    have : (A ++ (X.take i ++ (S.drop i ++ t)))[A.length + i]? = some S[i] := by
      rw [e, List.getElem?_append_right (by omega), hp, Nat.sub_self]
      rfl
    rw [List.getElem?_eq_getElem h] at this
    exact Option.some.inj this
  rw [g, xor_back, e, List.set_append_right _ _ (by omega), hp, Nat.sub_self, List.set_cons_zero]
theorem mix_same (A X S t : Wl.Bs) (i : Nat) (hx : X.length = S.length) (hi : i < S.length) (he : X[i]'(by omega) = S[i]) : A ++ (X.take i ++ (S.drop i ++ t)) = A ++ (X.take (i + 1) ++ (S.drop (i + 1) ++ t)) := by
  rw [mix_at A X S t i hx hi, mix_next A X S t i hx hi, he]
end Alt

structure L2 (P : Nat → Prop) (base : Nat) (w0 w6 wr : World) (c b q m : Nat) (A X S t : Wl.Bs) (i : Nat) : Prop where
  log : ∃ σ, WlK P base wr c b q 1 σ ∧ Alt.Ok σ (A ++ (X.take i ++ (S.drop i ++ t))) m
  below : Below w0.heap.size w0 wr
  same : ∀ r, P r → wr.heap[r]? = w6.heap[r]?

theorem L2.skip {P : Nat → Prop} {base : Nat} {w0 w6 wr wx : World} {c b q m : Nat} {A X S t : Wl.Bs} {i : Nat} (h : L2 P base w0 w6 wr c b q m A X S t i) (hx : X.length = S.length) (hi : i < S.length) (he : X[i]'(by omega) = S[i]) (hb : Below wr.heap.size wr wx) : L2 P base w0 w6 wx c b q m A X S t (i + 1) := by
  obtain ⟨σ, h1, h2⟩ := h.log
  rw [Alt.mix_same A X S t i hx hi he] at h2
  exact ⟨⟨σ, h1.later hb, h2⟩, h.below.trans (hb.mono h.below.size), fun r hr => (hb.block r (h1.prot r hr).1).trans (h.same r hr)⟩
theorem L2.later {P : Nat → Prop} {base : Nat} {w0 w6 wr wx : World} {c b q m : Nat} {A X S t : Wl.Bs} {i : Nat} (h : L2 P base w0 w6 wr c b q m A X S t i) (hb : Below wr.heap.size wr wx) : L2 P base w0 w6 wx c b q m A X S t i := by
  obtain ⟨σ, h1, h2⟩ := h.log
  exact ⟨⟨σ, h1.later hb, h2⟩, h.below.trans (hb.mono h.below.size), fun r hr => (hb.block r (h1.prot r hr).1).trans (h.same r hr)⟩

theorem L2.alter {P : Nat → Prop} {base : Nat} {w0 w6 wr : World} {c b q m : Nat} {A X S t : Wl.Bs} {i : Nat} (h : L2 P base w0 w6 wr c b q m A X S t i) (hx : X.length = S.length) (hi : i < S.length) (hm : m ≤ 1000000) (hw : w0.heap.size ≤ base) :
    Calls Tryz.prog 38 #[.pointer (some ⟨b, 0, none⟩), .string ⟨#[119, 97, 108, 45, 48, 48, 48, 48, 48, 49]⟩, .int .i64 ((A.length : Int) + (i : Int)), .int .u8 ((X[i]'(by omega) ^^^ S[i]).toNat : Int)] wr fun e w' => e = .returned (.int .i64 0) ∧ L2 P base w0 w6 w' c b q m A X S t (i + 1) := by
  obtain ⟨σ, h1, h2⟩ := h.log
  have hlt : A.length + i < (A ++ (X.take i ++ (S.drop i ++ t))).length := by rw [Alt.mix_len A X S t i hx (by omega)]; omega
  obtain ⟨e0, o'⟩ := h2.alter hlt (X[i]'(by omega) ^^^ S[i])
  rw [Alt.mix_set A X S t i hx hi hlt] at o'
  have e : Wl.seg 1 = [119, 97, 108, 45, 48, 48, 48, 48, 48, 49] := by decide +kernel
  have hst := h2.steps
  have := alter_k h1 h2.calm.inv (by omega) (Wl.seg 1) (by rw [Wl.seg_length]; decide) ((A.length + i : Nat) : Int) (X[i]'(by omega) ^^^ S[i]) e0
  rw [Int.natCast_add] at this o'
  have e2 : str (Wl.seg 1) = .string ⟨#[119, 97, 108, 45, 48, 48, 48, 48, 48, 49]⟩ := by rw [e]
  rw [e2] at this
  refine this.mono ?_
  rintro e w' ⟨rfl, k1, b1, s1⟩
  exact ⟨rfl, ⟨⟨_, k1, o'⟩, h.below.trans (b1.mono hw), fun r hr => (s1 r hr).trans (h.same r hr)⟩⟩
end Go.Proofs.YtppfkhpofbbnbaaGreatDoor
