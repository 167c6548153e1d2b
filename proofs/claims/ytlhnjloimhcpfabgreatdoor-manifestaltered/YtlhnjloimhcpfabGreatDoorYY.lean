/-
  A manifest beside a list of numbers that the law owns: where the first loop of ManifestAltered stands. .. and what follows from it.
-/
import Derived.Test.YtlhnjloimhcpfabGreatDoorYAA
import Derived.Test.YtlhnjloimhcpfabGreatDoorYAB
import Derived.Test.YtlhnjloimhcpfabGreatDoorYW
import Derived.Deep.AppendLies
import Derived.Test.YtlhnjloimhcpfabGreatDoorYLives
namespace Go.Proofs.YtlhnjloimhcpfabGreatDoor
open Go.RowKit Go.Maps Go.Sort

/-- The tables that a manifest holds do not lie in that block. -/
def TabOff (w : World) (c g : Nat) : Prop := ∀ ta n tc, w.cell? ⟨c, 3, none⟩ = some (.slice ta n tc) → n ≠ 0 → ∀ ad, ta = some ad → ad.block ≠ g

section
variable {P : Nat → Prop} {base : Nat} {w w' : World} {c b : Nat} {σ : Vf.St} {f : Mf.Bs} {v : Mf.Vn} {br : Bool}
theorem MfIn.clt (h : MfIn P base w c b σ f v br) : c < w.heap.size := h.fs.pro c h.pc
/-- All that came since is protected too. -/
theorem MfIn.add (h : MfIn P base w c b σ f v br) (hb : Below w.heap.size w w') : MfIn (fun i => P i ∨ (w.heap.size ≤ i ∧ i < w'.heap.size)) base w' c b σ f v br := by
  obtain ⟨ta, tc, h1, h2, h3⟩ := h.blk
  exact ⟨h.fs.add hb, ⟨ta, tc, (hb.block _ h.clt).trans h1, h2.later hb, fun h0 ad e => .inl (h3 h0 ad e)⟩, .inl h.pc, h.new⟩
theorem TabOff.later {g : Nat} (ho : TabOff w c g) (hc : w'.heap[c]? = w.heap[c]?) : TabOff w' c g := fun ta n tc h => ho ta n tc (by
  have : w'.cell? ⟨c, 3, none⟩ = w.cell? ⟨c, 3, none⟩ := by
    simp only [World.cell?]
    show (match w'.heap[c]? with | _ => _) = (match w.heap[c]? with | _ => _)
    rw [hc]
  rw [← this]; exact h)
theorem MfIn.tab (h : MfIn P base w c b σ f v br) : ∀ ta n tc, w.cell? ⟨c, 3, none⟩ = some (.slice ta n tc) → n ≠ 0 → ∀ ad, ta = some ad → P ad.block := fun ta n tc hc hn ad e => by
  obtain ⟨ta', tc', h1, h2, h3⟩ := h.blk
  have h0 : some (Value.slice ta' v.tabs.length tc') = some (.slice ta n tc) := (Joins.cell_of_block h1 3).symm.trans hc
  cases h0
  exact h3 (fun h0 => hn (by rw [h0]; rfl)) ad e

/-- A protected row has grown, in place or anew. -/
theorem MfIn.grown {g g' : Nat} (h : MfIn P base w c b σ f v br) (hp : P g) (hgc : g ≠ c) (ho : TabOff w c g) (hg : w.grownBy w' (some g)) (hg' : g = g' ∨ g' = w.heap.size) (hlt : g' < w'.heap.size) :
    ∃ Q, MfIn Q base w' c b σ f v br ∧ Q g' ∧ g' ≠ c ∧ TabOff w' c g' ∧ ∀ i, P i → Q i := by
  have clt := h.clt
  have hcb : w'.heap[c]? = w.heap[c]? := hg.block c clt (by intro e; cases e; exact hgc rfl)
  have htab := h.tab
  obtain ⟨ta, tc, h1, h2, h3⟩ := h.blk
  have hmt : MtsAt w' (.slice ta v.tabs.length tc) v.tabs := mts_same h2 (fun h0 ad e => by
    have hb1 := h.fs.pro _ (h3 h0 ad e)
    refine hg.block _ hb1 (fun e' => ?_)
    have e2 : ad.block = g := Option.some.inj e'
    exact ho ta _ tc (Joins.cell_of_block h1 3) (fun hl => h0 (List.eq_nil_of_length_eq_zero hl)) ad e e2)
  refine ⟨fun i => P i ∨ i = g', ⟨?_, ⟨ta, tc, hcb.trans h1, hmt, fun h0 ad e => .inl (h3 h0 ad e)⟩, .inl h.pc, h.new⟩, .inr rfl, ?_, ?_, fun i hi => .inl hi⟩
  · obtain ⟨S, hr, hS⟩ := h.fs.rep
    have hlow := hr.low
    refine ⟨⟨S, hr.same (fun i hi => hg.block i (hlow i hi) (fun e => ?_)) hg.size, fun i hi => ⟨(hS i hi).1, fun hq => ?_⟩⟩, h.fs.inv, fun i hi => ?_, Nat.le_trans h.fs.low hg.size⟩
    · have : i = g := Option.some.inj e
      subst this
      exact (hS i hi).2 hp
    · rcases hq with hq | hq
      · exact (hS i hi).2 hq
      · subst hq
        rcases hg' with e | e
        · subst e; exact (hS _ hi).2 hp
        · have := hlow _ hi; omega
    · rcases hi with hi | hi
      · exact Nat.lt_of_lt_of_le (h.fs.pro i hi) hg.size
      · subst hi; exact hlt
  · rcases hg' with e | e
    · rw [← e]; exact hgc
    · omega
  · intro ta n tc hc hn ad e e2
    have hc' : w.cell? ⟨c, 3, none⟩ = some (.slice ta n tc) := by
      have : w'.cell? ⟨c, 3, none⟩ = w.cell? ⟨c, 3, none⟩ := by
        simp only [World.cell?]
        show (match w'.heap[c]? with | _ => _) = (match w.heap[c]? with | _ => _)
        rw [hcb]
      rw [← this]; exact hc
    rcases hg' with e3 | e3
    · exact ho ta n tc hc' hn ad e (by rw [e2, e3])
    · have := h.fs.pro _ (htab ta n tc hc' hn ad e)
      omega
end

/-- The ends of the frames. -/
def mendsL (l : List Mf.Bs) (j : Nat) : List Value := (List.range (j + 1)).map fun i => .int .i64 ((Ma.dt l i).length : Int)
theorem mendsL_succ (l : List Mf.Bs) (j : Nat) : mendsL l (j + 1) = mendsL l j ++ [.int .i64 ((Ma.dt l (j + 1)).length : Int)] := by
  unfold mendsL
  rw [List.range_succ, List.map_append]
  rfl

/-- A manifest of so many tables, and so many ends. -/
structure M1 (X : Nat → Prop) (w0 : World) (base : Nat) (l : List Mf.Bs) (wr : World) (c b j n ge ce : Nat) : Prop where
  mf : ∃ P, MfIn P base wr c b (Ma.st l j) (Mf.nm 1) (Ma.vn l j) false ∧ P ge ∧ ∀ i, X i → P i
  gc : ge ≠ c
  off : TabOff wr c ge
  good : ∀ k, k < j → Ma.fine (l.getD k [])
  ends : wr.ownsRow base 3 1 (.slice (some ⟨ge, 0, none⟩) (n + 1) ce) (n + 1) (mendsL l n)
  below : Below w0.heap.size w0 wr
  low : w0.heap.size ≤ base
theorem M1.later {X : Nat → Prop} {w0 wr wx : World} {base : Nat} {l : List Mf.Bs} {c b j n ge ce : Nat} (h : M1 X w0 base l wr c b j n ge ce) (hb : Below wr.heap.size wr wx) : M1 X w0 base l wx c b j n ge ce := by
  obtain ⟨P, h1, h2⟩ := h.mf
  exact ⟨⟨P, h1.later hb, h2⟩, h.gc, h.off.later (hb.block _ h1.clt), h.good, own_aft h.ends hb, h.below.trans (hb.mono h.below.size), h.low⟩
theorem M1.wide {X Y : Nat → Prop} {w0 wr wx : World} {base : Nat} {l : List Mf.Bs} {c b j n ge ce : Nat} (h : M1 X w0 base l wr c b j n ge ce) (hb : Below wr.heap.size wr wx) (hY : ∀ i, Y i → X i ∨ (wr.heap.size ≤ i ∧ i < wx.heap.size)) : M1 Y w0 base l wx c b j n ge ce := by
  obtain ⟨P, h1, h2, h3⟩ := h.mf
  exact ⟨⟨_, h1.add hb, .inl h2, fun i hi => (hY i hi).imp (h3 i) id⟩, h.gc, h.off.later (hb.block _ h1.clt), h.good, own_aft h.ends hb, h.below.trans (hb.mono h.below.size), h.low⟩
theorem M1.first {w0 w : World} {base : Nat} {l : List Mf.Bs} {P : Nat → Prop} {c b : Nat} (h : MfIn P base w c b Ma.z1 (Mf.nm 1) Mf.first false) (hb : Below w0.heap.size w0 w) (hl : w0.heap.size ≤ base) : M1 (fun _ => False) w0 base l (w.alloc (.cells #[.int .i64 0] 3)) c b 0 0 w.heap.size 1 := by
  have b1 : Below w.heap.size w (w.alloc (.cells #[.int .i64 0] 3)) := (Below.refl _ _).alloc (Nat.le_refl _) _
  have clt := h.clt
  have htab := h.tab
  refine ⟨⟨_, h.add b1, .inr ⟨Nat.le_refl _, by simp⟩, fun i hi => hi.elim⟩, by omega, fun ta n tc hc hn ad e e2 => ?_, (fun k hk => by omega), ?_, hb.trans (b1.mono hb.size), hl⟩
  · have hc' : w.cell? ⟨c, 3, none⟩ = some (.slice ta n tc) := (b1.cell (p := ⟨c, 3, none⟩) clt).symm.trans hc
    have := h.fs.pro _ (htab ta n tc hc' hn ad e)
    omega
  · exact World.ownsRow_lit (size := 1) (e := 3) (base := base) w #[.int .i64 0] 1 h.fs.low (by decide) rfl

theorem infoMI : (Tryz.prog.info? 3).map (fun i => (i.zero, i.size, i.bytes)) = some (some (.int .i64 0), 1, 8) := by kernel_rfl

/-- One more end. -/
theorem mends_append {ops : Array Oper} {rest : List Oper} {o : Oper} {a : Act} {Q : Exit → Act → World → Prop} (hg : o.guard = none) (s x : Operand) (ho : o.op = .call { callee := .builtin .append, args := #[s, x], argTypes := #[32, 32] })
    (X : Nat → Prop) (w0 : World) (base : Nat) (l : List Mf.Bs) (w : World) (c b j n ge ce : Nat) (N : Nat) (hN : Hid (N = (Ma.dt l (n + 1)).length)) (hn : n ≤ 40) (hM : M1 X w0 base l w c b j n ge ce)
    (hs : a.eval s = .slice (some ⟨ge, 0, none⟩) (n + 1) ce) (hx : a.eval x = .slice (some ⟨w.heap.size, 0, none⟩) 1 1)
    (h : ∀ g' c' w', M1 X w0 base l w' c b j (n + 1) g' c' → (∀ r, r < w.heap.size → r ≠ ge → w'.heap[r]? = w.heap[r]?) → wpList Tryz.prog ops Q rest (a.put o.dst (.slice (some ⟨g', 0, none⟩) (n + 1 + 1) c')) w') : wpList Tryz.prog ops Q (o :: rest) a (w.alloc (.cells #[.int .i64 (N : Int)] 3)) := by
  obtain ⟨i0, hi, hz0, hz1, hz2⟩ := info_parts infoMI
  have b1 : Below w.heap.size w (w.alloc (.cells #[.int .i64 (N : Int)] 3)) := (Below.refl _ _).alloc (Nat.le_refl _) _
  have M' := hM.later b1
  obtain ⟨P, hmf, hpg, hpx⟩ := M'.mf
  have zz : base ≤ (w.alloc (.cells #[.int .i64 (N : Int)] 3)).heap.size := hmf.fs.low
  have en := World.alloc_heap_new w (.cells #[.int .i64 (N : Int)] 3)
  refine wpList_append_lies _ hg s x 32 ho base 3 i0 _ 1 8 Tryz.underlying32 hi hz0 hz1 hz2 rfl (by decide) _ (n + 1) (mendsL l n) hs M'.ends ⟨w.heap.size, 0, none⟩ 1 1 [.int .i64 (N : Int)] hx rfl ?_ (by simp [Value.oneCell']) (by decide) (by unfold maxLen; omega) (by omega) zz _ rfl ?_
  · intro i u hu
    have hadd : (⟨w.heap.size, 0, none⟩ : Addr).add i = ⟨w.heap.size, i, none⟩ := by unfold Addr.add; split <;> simp_all
    rw [hadd]
    match i, hu with
    | 0, hu =>
      simp at hu
      subst hu
      exact Joins.cell_of_block en 0
    | i + 1, hu => simp at hu
  · intro g cap w' h1 h2 h3 h4
    have h2' : (w.alloc (.cells #[.int .i64 (N : Int)] 3)).grownBy w' (some ge) := h2
    obtain ⟨Q', k1, k2, k3, k4, k5⟩ := hmf.grown hpg M'.gc M'.off h2' (h3.imp (fun e => by simpa [Value.ownBlock] using e) id) h4
    refine h g cap w' ⟨⟨Q', k1, k2, fun i hi => k5 i (hpx i hi)⟩, k3, k4, hM.good, ?_, ?_, hM.low⟩ (fun r hr hne => (h2'.block r (by simp; omega) (by intro e; cases e; exact hne rfl)).trans (Below.heap_alloc _ _ _ hr))
    · rw [mendsL_succ, ← hN.out]
      exact h1
    · exact M'.below.grown h2' M'.below.size (fun k hk => by cases hk; have := (M'.ends.lt ge rfl).1; have := hM.low; omega)
end Go.Proofs.YtlhnjloimhcpfabGreatDoor
namespace Go.Proofs.YtlhnjloimhcpfabGreatDoor
open Go.RowKit Go.Maps Go.Sort

namespace Ma
theorem mix_len (A X S t : Mf.Bs) (i : Nat) (hx : X.length = S.length) (hi : i ≤ S.length) : (A ++ (X.take i ++ (S.drop i ++ t))).length = A.length + S.length + t.length := by
  simp only [List.length_append, List.length_take, List.length_drop]
  omega
theorem mix_at (A X S t : Mf.Bs) (i : Nat) (hi : i < S.length) : A ++ (X.take i ++ (S.drop i ++ t)) = (A ++ X.take i) ++ S[i] :: (S.drop (i + 1) ++ t) := by
  rw [List.drop_eq_getElem_cons hi]
  simp only [List.cons_append, List.append_assoc]
theorem mix_next (A X S t : Mf.Bs) (i : Nat) (hx : X.length = S.length) (hi : i < S.length) : A ++ (X.take (i + 1) ++ (S.drop (i + 1) ++ t)) = (A ++ X.take i) ++ X[i]'(by omega) :: (S.drop (i + 1) ++ t) := by
  rw [List.take_succ_eq_append_getElem (by omega)]
  simp only [List.append_assoc, List.cons_append, List.nil_append]
theorem pre_len (A X S : Mf.Bs) (i : Nat) (hx : X.length = S.length) (hi : i < S.length) : (A ++ X.take i).length = A.length + i := by
  rw [List.length_append, List.length_take]; omega
theorem xor_back (a b : UInt8) : b ^^^ (a ^^^ b) = a := by rw [UInt8.xor_comm a b, ← UInt8.xor_assoc, UInt8.xor_self, UInt8.zero_xor]
theorem mix_set (A X S t : Mf.Bs) (i : Nat) (hx : X.length = S.length) (hi : i < S.length) (h : A.length + i < (A ++ (X.take i ++ (S.drop i ++ t))).length) :
    (A ++ (X.take i ++ (S.drop i ++ t))).set (A.length + i) ((A ++ (X.take i ++ (S.drop i ++ t)))[A.length + i] ^^^ (X[i]'(by omega) ^^^ S[i])) = A ++ (X.take (i + 1) ++ (S.drop (i + 1) ++ t)) := by
  have e := mix_at A X S t i hi
  have hp := pre_len A X S i hx hi
  rw [mix_next A X S t i hx hi]
  have g : (A ++ (X.take i ++ (S.drop i ++ t)))[A.length + i] = S[i] := by
    have : (A ++ (X.take i ++ (S.drop i ++ t)))[A.length + i]? = some S[i] := by
      rw [e, List.getElem?_append_right (by omega), hp, Nat.sub_self]
      rfl
    rw [List.getElem?_eq_getElem h] at this
    exact Option.some.inj this
  rw [g, xor_back, e, List.set_append_right _ _ (by omega), hp, Nat.sub_self, List.set_cons_zero]
theorem mix_same (A X S t : Mf.Bs) (i : Nat) (hx : X.length = S.length) (hi : i < S.length) (he : X[i]'(by omega) = S[i]) : A ++ (X.take i ++ (S.drop i ++ t)) = A ++ (X.take (i + 1) ++ (S.drop (i + 1) ++ t)) := by
  rw [mix_at A X S t i hi, mix_next A X S t i hx hi, he]
end Ma

theorem alter_f {P : Nat → Prop} {base : Nat} {w : World} {b : Nat} {σ : Vf.St} (h : FsK P base w b σ) (hs : σ.steps ≤ 100000000) (k : Vf.Bs) (hk : k.length ≤ 1000000) (at_ : Int) (bits : UInt8) (he : Vf.alterE σ k at_ = 0) :
    Calls Tryz.prog 14 #[.pointer (some ⟨b, 0, none⟩), str k, .int .i64 at_, .int .u8 (bits.toNat : Int)] w fun e w' => e = .returned (.int .i64 0) ∧ FsK P base w' b (Vf.alter σ k at_ bits) ∧ Kp P base w w' := by
  obtain ⟨S, hr, hS⟩ := h.rep
  refine (alter_any w b σ S hr h.inv hs k hk at_ bits 0 he.symm).mono ?_
  rintro e w' ⟨rfl, r, hm⟩
  exact ⟨rfl, ⟨⟨S, r, hS⟩, h.inv.alter k at_ bits, fun i hi => Nat.lt_of_lt_of_le (h.pro i hi) hm.size, Nat.le_trans h.low hm.size⟩, hm.under h.low (fun i hi => (hS i hi).1), fun i hp => hm.block i (h.pro i hp) (fun hs => (hS i hs).2 hp)⟩

structure M2 (P : Nat → Prop) (base : Nat) (w0 w6 wr : World) (b m : Nat) (N N2 D2 A X S t : Mf.Bs) (i : Nat) : Prop where
  log : ∃ σ, FsK P base wr b σ ∧ Vk.Two 1048576 σ N (A ++ (X.take i ++ (S.drop i ++ t))) N2 D2 m
  below : Below w0.heap.size w0 wr
  same : ∀ r, P r → wr.heap[r]? = w6.heap[r]?

section
variable {P : Nat → Prop} {base : Nat} {w0 w6 wr wx : World} {b m : Nat} {N N2 D2 A X S t : Mf.Bs} {i : Nat}
theorem M2.later (h : M2 P base w0 w6 wr b m N N2 D2 A X S t i) (hb : Below wr.heap.size wr wx) : M2 P base w0 w6 wx b m N N2 D2 A X S t i := by
  obtain ⟨σ, h1, h2⟩ := h.log
  exact ⟨⟨σ, h1.later hb, h2⟩, h.below.trans (hb.mono h.below.size), fun r hr => (hb.block r (h1.pro r hr)).trans (h.same r hr)⟩
theorem M2.skip (h : M2 P base w0 w6 wr b m N N2 D2 A X S t i) (hx : X.length = S.length) (hi : i < S.length) (he : X[i]'(by omega) = S[i]) (hb : Below wr.heap.size wr wx) : M2 P base w0 w6 wx b m N N2 D2 A X S t (i + 1) := by
  obtain ⟨σ, h1, h2⟩ := (h.later hb).log
  rw [Ma.mix_same A X S t i hx hi he] at h2
  exact ⟨⟨σ, h1, h2⟩, (h.later hb).below, (h.later hb).same⟩
theorem M2.alter (h : M2 P base w0 w6 wr b m N N2 D2 A X S t i) (hx : X.length = S.length) (hi : i < S.length) (hm : m ≤ 1000000) (hw : w0.heap.size ≤ base) (hN : N.length ≤ 1000000) :
    Calls Tryz.prog 14 #[.pointer (some ⟨b, 0, none⟩), str N, .int .i64 ((A.length : Int) + (i : Int)), .int .u8 ((X[i]'(by omega) ^^^ S[i]).toNat : Int)] wr fun e w' => e = .returned (.int .i64 0) ∧ M2 P base w0 w6 w' b m N N2 D2 A X S t (i + 1) := by
  obtain ⟨σ, h1, h2⟩ := h.log
  have hlt : A.length + i < (A ++ (X.take i ++ (S.drop i ++ t))).length := by rw [Ma.mix_len A X S t i hx (by omega)]; omega
  obtain ⟨e0, o'⟩ := h2.alter hlt (X[i]'(by omega) ^^^ S[i])
  rw [Ma.mix_set A X S t i hx hi hlt] at o'
  have hst := h2.steps
  have := alter_f h1 (by omega) N hN ((A.length + i : Nat) : Int) (X[i]'(by omega) ^^^ S[i]) e0
  rw [Int.natCast_add] at this o'
  refine this.mono ?_
  rintro e w' ⟨rfl, k1, k2⟩
  exact ⟨rfl, ⟨⟨_, k1, o'⟩, h.below.trans (k2.bel.mono hw), fun r hr => (k2.keep r hr).trans (h.same r hr)⟩⟩
end
end Go.Proofs.YtlhnjloimhcpfabGreatDoor
namespace Go.Proofs.YtlhnjloimhcpfabGreatDoor
open Go.RowKit Go.Maps Go.Sort

theorem mmeta_any (w : World) (n l : Int) (x y : ByteArray) : Calls Tryz.prog 11 #[.int .i64 n, .int .i64 l, .string x, .string y] w fun e w' => e = .returned (.agg #[.int .i64 n, .int .i64 l, .int .i64 3, .string x, .string y]) ∧ Below w.heap.size w w' := by
  go_enter Tryz.func11, Tryz.ntmps11
  go_wp2_with (fail)
  refine bodyPost_ret (v := .agg #[.int .i64 n, .int .i64 l, .int .i64 3, .string x, .string y]) (by simp [results, Tryz.results11, go_sem]) rfl ?_
  exact ⟨rfl, (Below.refl _ _).alloc (Nat.le_refl _) _⟩

section
variable {X : Nat → Prop} {w0 wr : World} {base : Nat} {l : List Mf.Bs} {c b j n ge ce : Nat}
theorem M1.fileC (h : M1 X w0 base l wr c b j n ge ce) : Calls Tryz.prog 8 #[.pointer (some ⟨c, 0, none⟩)] wr fun e w' => e = .returned (str (Mf.nm 1)) ∧ w' = wr := by
  obtain ⟨P, h1, _⟩ := h.mf
  exact file_any h1
theorem M1.off_bytes (h : M1 X w0 base l wr c b j n ge ce) {B g N k : Nat} {xs : List Value} (o : wr.ownsRow B 5 1 (.slice (some ⟨g, 0, none⟩) N k) N xs) : g ≠ c := fun e => by
  subst e
  obtain ⟨P, m1, _⟩ := h.mf
  obtain ⟨ta, tc, hc, _⟩ := m1.blk
  rcases o.2 with ⟨e, _⟩ | ⟨g', cap, cur, e, _, hg, _⟩
  · cases e
  · cases e
    rw [hc] at hg
    have := (Obj.cells.inj (Option.some.inj hg)).2.1
    revert this
    decide
theorem M1.two (h : M1 X w0 base l wr c b j n ge ce) (hj : j ≤ 30) : Vk.Two 1048576 (Ma.st l j) (Mf.nm 1) (Ma.dt l (j + 1)) Mf.cur (frm (Mf.nm 1)) (100 + 2000 * j) := Ma.two_st l j hj h.good
theorem M1.len (h : M1 X w0 base l wr c b j n ge ce) (hj : j ≤ 30) : (Ma.dt l (j + 1)).length ≤ 100000 ∧ 0 < (Ma.dt l (j + 1)).length := by
  have h1 := Ma.dt_len l (j + 1) (by omega) (fun i hi => h.good i (by omega))
  have h2 := (Ma.fr_len l j (by omega) h.good).2
  refine ⟨by omega, ?_⟩
  show 0 < (Ma.dt l j ++ Ma.fr l j).length
  rw [List.length_append]
  omega
theorem M1.readC (h : M1 X w0 base l wr c b j n ge ce) (hj : j ≤ 30) : Calls Tryz.prog 7 #[.pointer (some ⟨b, 0, none⟩), str (Mf.nm 1)] wr fun e w' => ∃ g N k, e = .returned (.tuple #[.slice (some ⟨g, 0, none⟩) N k, .int .i64 0]) ∧ Hid (N = (Ma.dt l (j + 1)).length) ∧ Hid (w'.ownsRow wr.heap.size 5 1 (.slice (some ⟨g, 0, none⟩) N k) N (bc (Ma.dt l (j + 1)))) ∧ Below wr.heap.size wr w' := by
  obtain ⟨P, h1, _⟩ := h.mf
  have t := h.two hj
  have hst := t.steps
  have hl := (h.len hj).2
  have := readf_k h1.fs (by omega) (Mf.nm 1) (by rw [Mf.nm_length]; decide)
  rw [t.fd, t.read] at this
  refine this.mono ?_
  rintro e w' ⟨v', rfl, o, b'⟩
  have o' := o
  rcases o'.2 with ⟨_, h0⟩ | ⟨g, cap, cur, rfl, _⟩
  · omega
  · exact ⟨g, _, cap, rfl, rfl, o, b'⟩
theorem M1.curC (h : M1 X w0 base l wr c b j n ge ce) (hj : j ≤ 30) : Calls Tryz.prog 7 #[.pointer (some ⟨b, 0, none⟩), curS] wr fun e w' => ∃ g k, e = .returned (.tuple #[.slice (some ⟨g, 0, none⟩) 27 k, .int .i64 0]) ∧ Hid (w'.ownsRow wr.heap.size 5 1 (.slice (some ⟨g, 0, none⟩) 27 k) 27 (bc (frm (Mf.nm 1)))) ∧ Below wr.heap.size wr w' := by
  obtain ⟨P, h1, _⟩ := h.mf
  have t := h.two hj
  have hst := t.steps
  have hl : (frm (Mf.nm 1)).length = 27 := by rw [frm_length, Mf.nm_length]
  have := readf_k h1.fs (by omega) Mf.cur (by decide)
  rw [t.fd2, t.read2, hl, cur_str] at this
  refine this.mono ?_
  rintro e w' ⟨v', rfl, o, b'⟩
  have o' := o
  rcases o'.2 with ⟨_, h0⟩ | ⟨g, cap, cur, rfl, _⟩
  · omega
  · exact ⟨g, cap, rfl, o, b'⟩
theorem M1.fit (h : M1 X w0 base l wr c b j n ge ce) (hj : j ≤ 30) : (Ma.vn l j).tabs.length = j ∧ ∀ x ∈ (Ma.vn l j).tabs, MtFit x := ⟨Ma.tabs_len l j, (Mf.may_fit (Ma.may_vn l j (by omega) h.good)).2⟩
theorem M1.versionC (h : M1 X w0 base l wr c b j n ge ce) (hj : j ≤ 30) : Calls Tryz.prog 9 #[.pointer (some ⟨c, 0, none⟩)] wr fun e w' => ∃ ta tc, e = .returned (vv (.slice ta j tc) 1 0 ((j : Int) + 1)) ∧ Below wr.heap.size wr w' := by
  obtain ⟨P, h1, _⟩ := h.mf
  obtain ⟨f1, f2⟩ := h.fit hj
  have := version_any h1 (by omega) (fun x hx => by have := f2 x hx; unfold MtFit at this; omega)
  rw [f1] at this
  refine this.mono ?_
  rintro e w' ⟨ta, tc, rfl, _, bb⟩
  exact ⟨ta, tc, rfl, bb⟩

/-- Where a table is added: 0, and one table more; or 2, and nothing is otherwise. -/
theorem M1.addC (h : M1 X w0 base l wr c b j n ge ce) (hj : j < 30) (K : Mf.Bs) (hK : K = l.getD j []) (h6 : K.length ≤ 600) (hX : ∀ i, X i → i ≠ c) (wx : World) (hx : Below wr.heap.size wr wx) :
    Calls Tryz.prog 10 #[.pointer (some ⟨c, 0, none⟩), ev (.slice none 0 0) (.slice (some ⟨wx.heap.size, 0, none⟩) 1 1) 1 0 ((j : Int) + 2)] (wx.alloc (.cells #[.int .i64 ((j : Int) + 1), .int .i64 0, .int .i64 3, str K, str K] 43)) fun e w' => ∃ E, e = .returned (.int .i64 E) ∧ (∀ i, X i → w'.heap[i]? = wr.heap[i]?) ∧ Below w0.heap.size w0 w' ∧ Below base wr w' ∧ Hid ((E = 0 ∧ M1 X w0 base l w' c b (j + 1) n ge ce) ∨ E = 2) := by
  subst hK
  have bb : Below wx.heap.size wx (wx.alloc (mO (Ma.tb l j))) := (Below.refl _ _).alloc (Nat.le_refl _) _
  have bx : Below wr.heap.size wr (wx.alloc (mO (Ma.tb l j))) := hx.trans (bb.mono hx.size)
  have hw := h.wide (Y := X) bx (fun i hi => .inl hi)
  obtain ⟨P, m1, pg, px⟩ := hw.mf
  have t := h.two (by omega)
  have hst := t.steps
  obtain ⟨f1, f2⟩ := h.fit (by omega)
  have mt : MtsAt (wx.alloc (mO (Ma.tb l j))) (.slice (some ⟨wx.heap.size, 0, none⟩) 1 1) (Ma.ed l j).adds := ⟨⟨_, 1, rfl, fun _ => ⟨wx.heap.size, 0, rfl, fun i hi => by
    have : i = 0 := by simp [Ma.ed] at hi; omega
    subst this
    exact mt_new wx (Ma.tb l j)⟩⟩⟩
  have hfit : ∀ x ∈ (Ma.ed l j).adds, MtFit x := fun x hx => by
    obtain rfl : x = Ma.tb l j := by simpa [Ma.ed] using hx
    unfold MtFit i64r Ma.tb
    simp only
    omega
  have hpx : ∀ i, X i → i < wr.heap.size := fun i hi => by
    obtain ⟨P', m', _, px'⟩ := h.mf
    exact m'.fs.pro i (px' i hi)
  have low : base ≤ wr.heap.size := by
    obtain ⟨P', m', _⟩ := h.mf
    exact m'.fs.low
  by_cases hf : Ma.fine (l.getD j [])
  · have good' : ∀ k, k < j + 1 → Ma.fine (l.getD k []) := fun k hk => by
      rcases Nat.lt_or_ge k j with h1 | h1
      · exact h.good k h1
      · obtain rfl : k = j := by omega
        exact hf
    have hp := Ma.put_st l j hj good'
    refine (add_ok _ b c (Ma.st l j) (Mf.nm 1) (Ma.vn l j) (Ma.ed l j) none (some ⟨wx.heap.size, 0, none⟩) 0 1 m1 t.calm.on (IzAt.nil _ _ _) mt hfit f2 (by omega) (Ma.enc_ok (by omega) hf) (Ma.goes l j (by omega) good') (by have := Ma.rec_len (l := l) (j := j) (by omega) hf; omega) (by rw [Mf.nm_length]; decide) (by omega) hp.2 hp.1).mono ?_
    rintro e w' ⟨rfl, ⟨Q, q1, q2, q3⟩, kk⟩
    rw [Ma.behind l j (by omega) good'] at q1
    have keepX : ∀ i, X i → w'.heap[i]? = wr.heap[i]? := fun i hi => (kk.keep i ⟨px i hi, hX i hi⟩).trans (bx.block i (hpx i hi))
    have hge : w'.heap[ge]? = (wx.alloc (mO (Ma.tb l j))).heap[ge]? := kk.keep ge ⟨pg, hw.gc⟩
    have below' : Below w0.heap.size w0 w' := hw.below.trans (kk.bel.mono h.low)
    refine ⟨0, rfl, keepX, below', (bx.mono low).trans kk.bel, .inl ⟨rfl, ⟨Q, q1, q2 ge pg, fun i hi => q2 i (px i hi)⟩, hw.gc, ?_, good', ownsRow_same hw.ends (fun g hg => by simp [Value.ownBlock] at hg; subst hg; exact hge), below', h.low⟩⟩
    intro ta n' tc hc _ ad e e2
    have h1 := q3 ta n' tc hc ad e
    have h2 := (hw.ends.lt ge rfl).2
    omega
  · have he : Mf.encE (Ma.ed l j) ≠ 0 := by rw [Ma.enc_bad hf]; decide
    have := add_enc _ b c (Ma.st l j) (Mf.nm 1) (Ma.vn l j) (Ma.ed l j) none (some ⟨wx.heap.size, 0, none⟩) 0 1 m1 t.calm.on (IzAt.nil _ _ _) mt hfit he
    rw [Ma.enc_bad hf] at this
    refine this.mono ?_
    rintro e w' ⟨rfl, b'⟩
    have bz : Below wr.heap.size wr w' := bx.trans (b'.mono bx.size)
    exact ⟨2, rfl, fun i hi => bz.block i (hpx i hi), h.below.trans (bz.mono h.below.size), bz.mono low, .inr rfl⟩
end
end Go.Proofs.YtlhnjloimhcpfabGreatDoor
