/-
  Nothing is left but what is durable: the walk.
-/
import Derived.Test.YtclokpkhkokfhabVForget
namespace Go.Proofs.Ytclokpkhkokfhab
open Go.RowKit Go.Maps Go.Sort

structure ForgetOk (σ : Vf.St) : Prop where
  few : σ.durable.length ≤ 100000000
  nums : ∀ k, Vf.num σ.durable k ≤ 1000000000
  files : ∀ k n, Vf.look σ.durable k = some n → ∃ x, σ.files n = some x ∧ x.synced ≤ x.bytes.length ∧ x.synced ≤ 10000000000
  one : ∀ k k' n, Vf.look σ.durable k = some n → Vf.look σ.durable k' = some n → k = k'
  few2 : σ.durable.length ≤ σ.steps

theorem Rep.cloneD (w : World) (bd : Nat) (M : Vf.Nm) (D : DataW Unit) (h : w.ownsMap Try.prog 9 (plainElem Try.prog 3) bd M.length D) :
    Calls Try.prog 37 #[.map (some bd)] w fun e w' => e = .returned (.map (some w.heap.size)) ∧ w'.ownsMap Try.prog 9 (plainElem Try.prog 3) w.heap.size M.length D ∧ w'.ownsMap Try.prog 9 (plainElem Try.prog 3) bd M.length D ∧ Below w.heap.size w w' :=
  AnyW.maps_Clone_owns Try.cloneM 9 (plainElem Try.prog 3) bd M.length D w h

theorem grown_setCell (w : World) (a : Addr) (u : Value) : w.grownBy (w.setCell a u) (some a.block) := ⟨rfl, rfl, rfl, by simp [World.setCell], fun k _ hk => Below.heap_setCell _ _ _ _ (fun e => hk (by rw [e]))⟩

theorem row_cut {w : World} {v : Value} {l : Vf.Bs} {k : Nat} (h : w.ownsRow 0 5 1 v l.length (bc l)) (hk : k ≤ l.length) : ∃ a c, v = .slice a l.length c ∧ l.length ≤ c ∧ (a = none → l = [] ∧ c = 0) ∧ w.ownsRow 0 5 1 (.slice a k c) k (bc (l.take k)) := by
  rcases h.2 with ⟨rfl, h0⟩ | ⟨g, cap, cur, rfl, _, _, hnc, _⟩
  · have e : l = [] := List.eq_nil_of_length_eq_zero h0
    subst e
    have e : k = 0 := by simpa using hk
    subst e
    exact ⟨none, 0, rfl, Nat.le_refl _, fun _ => ⟨rfl, rfl⟩, World.ownsRow_nil _ _ _ _⟩
  · refine ⟨_, cap, rfl, hnc, (fun e => by cases e), ?_⟩
    have h' : w.ownsRow 0 5 1 (.slice (some ⟨g, 0, none⟩) l.length cap) l.length (bc (l.take k ++ l.drop k)) := by rw [List.take_append_drop]; exact h
    exact own_shrink h' (by rw [List.length_take, Nat.min_eq_left hk]) hk
theorem cutU_le (M : Vf.Nm) (F : Nat → Option Vf.File) (Y : Nat) : ∀ ss : List Vf.Bs, (∀ k ∈ ss, synOf F (Vf.num M k) ≤ Y) → cutU M F ss ≤ ss.length * Y
  | [], _ => by simp [cutU]
  | k :: r, h => by
    have h1 := cutU_le M F Y r (fun j hj => h j (List.mem_cons_of_mem _ hj))
    have h2 := h k (List.mem_cons_self ..)
    unfold cutU at h1 ⊢
    rw [List.map_cons, List.sum_cons, List.length_cons, Nat.add_mul]
    omega

/-- What the next name of the walk brings. -/
theorem next_name {σ : Vf.St} (ok : ForgetOk σ) {D : DataW Unit} (hD : NmOf D σ.durable) {left : Lit → Bool} {ss : List Vf.Bs} (hC : Collected D left ss) {x : Vf.Bs} {yd : DataW Unit} (hlk : left (.string x) = true) (hat : ∀ zd, D.atKey (.string x) zd = yd) {cnt : Nat} (hn : ss.length + cnt ≤ Maps.size D) :
    ∃ f, yd = .lit (.int .i64 (Vf.num σ.durable x : Int)) ∧ cutF σ.durable σ.files ss (Vf.num σ.durable x) = some f ∧ σ.files (Vf.num σ.durable x) = some f ∧ f.synced ≤ f.bytes.length ∧ f.synced ≤ 10000000000 ∧ cutU σ.durable σ.files ss ≤ 1000000000000000000 ∧ ss.length ≤ 100000000 := by
  have hh : Maps.has D (.string x) = true := has_true_of_atKey hat
  rw [hD.hs x] at hh
  obtain ⟨n, hx⟩ := Option.isSome_iff_exists.1 hh
  have en : Vf.num σ.durable x = n := by unfold Vf.num; rw [hx]; rfl
  obtain ⟨f, hf, h1, h2⟩ := ok.files x n hx
  have hxs : x ∉ ss := fun hm => by have := ((hC.2 x).1 hm).2; rw [hlk] at this; cases this
  have hin : ∀ k ∈ ss, ∃ m, Vf.look σ.durable k = some m ∧ Vf.num σ.durable k = m := fun k hk => by
    have := ((hC.2 k).1 hk).1
    rw [hD.hs k] at this
    obtain ⟨m, hm⟩ := Option.isSome_iff_exists.1 this
    exact ⟨m, hm, by unfold Vf.num; rw [hm]; rfl⟩
  have hnot : n ∉ ss.map (Vf.num σ.durable) := fun hm => by
    obtain ⟨k, hk, e⟩ := List.mem_map.1 hm
    obtain ⟨m, hlm, em⟩ := hin k hk
    rw [em] at e
    subst e
    exact hxs (by rw [← ok.one k x m hlm hx]; exact hk)
  have hlen : ss.length ≤ σ.durable.length := by have := hD.size; omega
  refine ⟨f, by rw [← hat (.lit (.int .i64 0)), hD.num x], ?_, by rw [en]; exact hf, h1, h2, ?_, Nat.le_trans hlen ok.few⟩
  · rw [en]; unfold cutF; rw [if_neg hnot]; exact hf
  · have hle := cutU_le σ.durable σ.files 10000000000 ss (fun k hk => by
      obtain ⟨m, hm, em⟩ := hin k hk
      obtain ⟨f', hf', _, h2'⟩ := ok.files k m hm
      rw [em]; unfold synOf; rw [hf']; exact h2')
    have : ss.length * 10000000000 ≤ 100000000 * 10000000000 := Nat.mul_le_mul_right _ (Nat.le_trans hlen ok.few)
    omega

theorem num_mem {M : Vf.Nm} (hd : (M.map (·.1)).Nodup) {p : Vf.Bs × Nat} (hp : p ∈ M) : Vf.num M p.1 = p.2 := by
  unfold Vf.num; rw [Vf.mem_look hd (k := p.1) (n := p.2) hp]; rfl
theorem all_perm {M : Vf.Nm} {ss : List Vf.Bs} (hd : (M.map (·.1)).Nodup) (hs : ss.Nodup) (hm : ∀ k, k ∈ ss ↔ (Vf.look M k).isSome = true) : ss.Perm (M.map (·.1)) := by
  refine (List.perm_ext_iff_of_nodup hs hd).2 fun k => ?_
  rw [hm k]
  have := Vf.look_none M k
  cases hk : Vf.look M k with
  | none => rw [hk] at this; simpa using this.1 rfl
  | some n => simpa using List.mem_map_of_mem (f := (·.1)) (Vf.look_mem hk)
theorem all_nums {M : Vf.Nm} {ss : List Vf.Bs} (hd : (M.map (·.1)).Nodup) (hp : ss.Perm (M.map (·.1))) : (ss.map (Vf.num M)).Perm (M.map (·.2)) := by
  refine (hp.map (Vf.num M)).trans ?_
  rw [List.map_map]
  have e : M.map (Vf.num M ∘ fun x => x.1) = M.map (·.2) := List.map_congr_left fun p hp => num_mem hd hp
  rw [e]
theorem forget_used {M : Vf.Nm} {ss : List Vf.Bs} (F : Nat → Option Vf.File) (hd : (M.map (·.1)).Nodup) (hp : ss.Perm (M.map (·.1))) : cutU M F ss = Vf.sum F M := by
  have h := ((all_nums hd hp).map (synOf F)).sum_nat
  rw [List.map_map, List.map_map] at h
  exact h
theorem forget_mem {M : Vf.Nm} {ss : List Vf.Bs} (hd : (M.map (·.1)).Nodup) (hp : ss.Perm (M.map (·.1))) (n : Nat) : n ∈ ss.map (Vf.num M) ↔ n ∈ M.map (·.2) := (all_nums hd hp).mem_iff

set_option maxHeartbeats 1000000 in
theorem forget_any (w : World) (b bf bh bd : Nat) (pv : Value) (fs : Nat → Option Nat) (sl : Nat → Value) (σ : Vf.St) (S : Nat → Prop) (h : RepAt w b bf bh bd pv fs sl σ S) (ok : ForgetOk σ) :
    Calls Try.prog 26 #[.pointer (some ⟨b, 0, none⟩)] w fun e w' => e = .returned (.tuple #[]) ∧ Rep w' b (Vf.forget σ) (grow S w w') ∧ Moved S w w' := by
  obtain ⟨D, hown, hD⟩ := h.dur
  have CL := Rep.cloneD w bd σ.durable D hown
  have c7 := h.cells.2.2.2.2.2.2.2.1
  have mk := run_makeMap_hint
  have nbd : bd ≠ b := ne_kind h.dur.kind h.kb (by simp)
  have H0 : Hid _ := h
  have HD : Hid _ := hD
  have OK : Hid _ := ok
  clear h hD hown ok
  go_enter Try.func26, Try.ntmps26
  go_wp2_with (first
    | (go_at_call 37; refine CL.mono ?_; rintro e w1 ⟨rfl, o1, o2, b1⟩; have h1 := H0.out.later b1; have d6 := h1.cells.2.2.2.2.2.2.1; have d7 := h1.cells.2.2.2.2.2.2.2.1; have f6 := h1.unfrozen 6; have o1lt : w.heap.size < w1.heap.size := o1.lt; have H1 := H0.out.swapHeld b1 (Nat.le_refl _) σ.durable ⟨D, o1, HD.out⟩; have q2 := o2.setCell (a := ⟨b, 6, none⟩) nbd (.map (some w.heap.size)); have H2 := H1.alloc (.map #[] 0); have e1 := H2.cells.2.1; have e7 := H2.cells.2.2.2.2.2.2.2.1; have g1 := H2.unfrozen 1; have H3 := H2.field 1 (.int .i64 0) { σ with held := σ.durable, used := 0 } rfl rfl rfl rfl rfl (Nat.le_refl _); have q3 := (q2.alloc (.map #[] 0)).setCell (a := ⟨b, 1, none⟩) nbd (.int .i64 0); clear o1 o2 h1)
    | (at_len; refine wpList_len_own _ rfl _ 45 rfl 9 3 Try.underlying45 _ bd σ.durable.length D rfl q2 ?_)
    | (at_range; refine wpList_range_own _ rfl _ 45 rfl 9 3 lawS Try.underlying45 _ bd σ.durable.length D rfl q3 ?_; intro w3 rg3 g3 z3; have hsz : (((w1.setCell ⟨b, 6, none⟩ (.map (some w.heap.size))).alloc (.map #[] 0)).setCell ⟨b, 1, none⟩ (.int .i64 0)).heap.size = w1.heap.size + 1 := (by simp [World.setCell]); rw [hsz] at rg3 ⊢; rw [hsz] at z3))
  have bl3 : Below (w1.heap.size + 1) (((w1.setCell ⟨b, 6, none⟩ (.map (some w.heap.size))).alloc (.map #[] 0)).setCell ⟨b, 1, none⟩ (.int .i64 0)) w3 := ⟨g3.os, g3.tape, g3.output, g3.size, fun k hk => g3.block k (by rw [hsz]; exact hk) (by simp)⟩
  have R3 := H3.later (by rw [hsz]; exact bl3)
  have hz1 := b1.size
  have PN : PtrsAt w3 w1.heap.size 0 (fun _ => none) := by
    have p0 := PtrsAt.made (w1.setCell ⟨b, 6, none⟩ (.map (some w.heap.size)))
    have e0 : (w1.setCell ⟨b, 6, none⟩ (.map (some w.heap.size))).heap.size = w1.heap.size := by simp [World.setCell]
    rw [e0] at p0
    refine p0.same ((bl3.block _ (by omega)).trans (Below.heap_setCell _ ⟨b, 1, none⟩ _ _ ?_))
    have := H0.out.low _ H0.out.sb
    show w1.heap.size ≠ b
    omega
  have M3 : Moved S w w3 := ((((Moved.below b1).setCell (p := ⟨b, 6, none⟩) (fun _ => H0.out.sb) _).alloc _).setCell (p := ⟨b, 1, none⟩) (fun _ => H0.out.sb) _).trans (T := fun _ => False) (Moved.below (by rw [hsz]; exact bl3)) (fun _ _ h => h.elim)
  have C3 := Collected.start D
  have N1 : ¬ (S w1.heap.size ∨ w1.heap.size = w.heap.size) := fun hh => by
    rcases hh with hh | hh
    · have := H0.out.low _ hh; omega
    · have := o1lt; omega
  clear H3 H2 H1 q2 q3 e1 e7 g1 d6 d7 f6 g3 bl3 hsz CL c7 mk
  have Z1 : Hid (w.heap.size < w1.heap.size) := o1lt
  clear z3 b1 hz1 o1lt
  go_frame
  generalize w1.heap.size = bn at *
  go_loopw [28] (fun _ wr => ∃ (left : Lit → Bool) (cnt : Nat) (ss : List Vf.Bs) (sl' : Nat → Value), wr.ranges Try.prog 9 (plainElem Try.prog 3) bd (bn + 1) σ.durable.length D left cnt ∧ Collected D left ss ∧ Hid (ss.length + cnt ≤ Maps.size D) ∧ RepAt wr b bf w.heap.size bd pv fs sl' { σ with held := σ.durable, used := (cutU σ.durable σ.files ss : Int), files := cutF σ.durable σ.files ss } (fun i => S i ∨ i = w.heap.size) ∧ PtrsAt wr bn ss.length (onlyG σ.durable fs ss) ∧ Moved S w wr) (fun _ wr => wr.rangeLeft bd (bn + 1))
  case atStart => exact ⟨_, _, [], sl, rg3, C3, (by show 0 + _ ≤ _; omega), (by have e0 : cutF σ.durable σ.files [] = σ.files := (by funext n; simp [cutF]); rw [e0]; exact R3), (by have e0 : onlyG σ.durable fs [] = fun _ => none := (by funext n; simp [onlyG]); rw [e0]; exact PN), M3⟩
  case round =>
    obtain ⟨left, cnt, ss, sl', hrg, hC, HC, hR, hP, hM⟩ := hrel
    clear rg3 R3 PN M3 C3
    go_wp2_with (at_next; refine wpList_next_ranges _ rfl _ rfl 9 lawS _ str (Value.int .i64) (fun key kl hk => by obtain ⟨x, hx, _⟩ := Maps.keyOf_str Try.underlying9 hk; exact ⟨x, hx⟩) (fun v y hv => by obtain ⟨c, rfl, _⟩ := plainElem_int_inv Try.underlying3 hv; exact ⟨c, rfl⟩) bd (bn + 1) σ.durable.length D left cnt rfl hrg ?_ ?_)
    · intro h0 hl
      have hdn : (σ.durable.map (·.1)).Nodup := HD.out.nodup
      have hp : ss.Perm (σ.durable.map (·.1)) := all_perm hdn hC.1 (fun k => by rw [hC.2 k, hl, HD.out.hs k]; simp)
      have hlen : ss.length ≤ σ.steps := by have h1 := HC.out; have h2 := HD.out.size; have h3 := OK.out.few2; omega
      have c5 := hR.cells.2.2.2.2.2.1
      have f5 := hR.unfrozen 5
      have FIN := hR.swapFiles (bn := bn) (onlyG σ.durable fs ss) (hP.mono hlen) N1 (fun n g hg => by unfold onlyG at hg; split at hg; exact hg; cases hg) (Vf.forget σ).files (fun n => by
        have hd := hR.dom n
        have hm := forget_mem hdn hp n
        unfold onlyG Vf.forget
        show (if _ then _ else _ : Option Nat).isSome = (if _ then _ else _ : Option Vf.File).isSome
        by_cases hn : n ∈ ss.map (Vf.num σ.durable)
        · rw [if_pos hn, if_pos (hm.1 hn), hd]
          show (cutF σ.durable σ.files ss n).isSome = _
          unfold cutF
          rw [if_pos hn]
        · rw [if_neg hn, if_neg (fun hh => hn (hm.2 hh))]; rfl) (fun n x hx => by
        have hm := forget_mem hdn hp n
        unfold Vf.forget at hx
        show cutF σ.durable σ.files ss n = some x
        have hx' : (if n ∈ σ.durable.map (·.2) then (σ.files n).map (fun x => { x with bytes := x.bytes.take x.synced }) else none) = some x := hx
        by_cases hn : n ∈ σ.durable.map (·.2)
        · rw [if_pos hn] at hx'; unfold cutF; rw [if_pos (hm.2 hn)]; exact hx'
        · rw [if_neg hn] at hx'; cases hx')
      have EU : Hid (cutU σ.durable σ.files ss = Vf.sum σ.files σ.durable) := forget_used σ.files hdn hp
      have FN : Hid _ := FIN
      have HM : Hid _ := hM
      clear hR hP hM hrg hC HC hl hp hdn FIN
      go_wp2_with (fail)
      go_end0
      refine ⟨rfl, ?_, HM.out.setCell (p := ⟨b, 5, none⟩) (fun _ => H0.out.sb) _⟩
      have R := FN.out
      rw [EU.out] at R
      refine ⟨_, _, _, _, _, _, RepAt.wide (σ := Vf.forget σ) R (fun i hi => ?_) (fun i hi => ?_)⟩
      · have lo := R.low i hi
        have hz := Z1.out
        rcases hi with (hi | hi) | hi
        · exact .inl hi
        · exact .inr ⟨by omega, lo⟩
        · exact .inr ⟨by omega, lo⟩
      · rcases hi with hi | hi
        · exact R.low i (.inl (.inl hi))
        · exact hi.2
    · intro x c kl yd yp w2 cnt2 hkey hlk hv hat hrg2 hlt hg2 hs2 hen
      clear hs2
      obtain ⟨x', ex, rfl, _⟩ := Maps.keyOf_str Try.underlying9 hkey
      obtain rfl : x = x' := by simpa using ex
      obtain ⟨f, ey, hf, hf0, hfs, hfb, hub, hlb⟩ := next_name OK.out HD.out hC hlk hat HC.out
      obtain ⟨n, hn⟩ : ∃ n, n = Vf.num σ.durable x := ⟨_, rfl⟩
      have nle : n ≤ 1000000000 := by rw [hn]; exact OK.out.nums x
      have ec : c = (n : Int) := by
        obtain ⟨c', e1, e2, _⟩ := plainElem_int_inv Try.underlying3 hv
        simp only [Prod.mk.injEq] at e2
        rw [ey] at e2
        have e3 : c = c' := by simpa using e1
        have e4 := e2.1
        simp only [DataW.lit.injEq, Lit.int.injEq, true_and] at e4
        rw [e3, ← e4, hn]
      subst ec
      rw [← hn] at hf hf0
      have hS2 : ∀ i, (S i ∨ i = w.heap.size) → i < bn := fun i hi => by
        have := Z1.out
        rcases hi with hi | hi
        · have := H0.out.low i hi; omega
        · omega
      have R2 := hR.same (w' := w2) (fun i hi => hg2.block i (hR.low i hi) (by have := hS2 i hi; simp; omega)) hg2.size
      have P2 : PtrsAt w2 bn ss.length (onlyG σ.durable fs ss) := hP.same (hg2.block bn hP.lt (by simp))
      have M2 : Moved S w w2 := hM.grown hg2 (fun k e hk => by cases e; have := Z1.out; omega)
      obtain ⟨g, hg⟩ : ∃ g, fs n = some g := by have t : (fs n).isSome = (cutF σ.durable σ.files ss n).isSome := R2.dom n; rw [hf] at t; exact Option.isSome_iff_exists.1 t
      have L2 := R2.files.look n (by omega)
      rw [ptr_some hg] at L2
      obtain ⟨a, cp, hsl, hcp, hna, hcut⟩ := row_cut (R2.file n g f hg hf).2 hfs
      have d0 : w2.cell? ⟨g, 0, none⟩ = some (.slice a f.bytes.length cp) := by rw [← hsl]; exact file_cell R2 hg hf
      have d1 : w2.cell? ⟨g, 1, none⟩ = some (.int .i64 (f.synced : Int)) := Joins.cell_of_block (R2.file n g f hg hf).1 1
      have f0 := Joins.unfrozen_of_block (R2.file n g f hg hf).1 0
      have c5 := R2.cells.2.2.2.2.2.1
      obtain ⟨U, hU⟩ : ∃ U : Int, U = (cutU σ.durable σ.files ss : Int) := ⟨_, rfl⟩
      have ub : 0 ≤ U ∧ U ≤ 1000000000000000000 := by rw [hU]; omega
      obtain ⟨ub0, ub1⟩ := ub
      have nbg : b ≠ g := ne_kind R2.kb (R2.kg hg) (by decide)
      have bB : ∀ u, (w2.setCell ⟨g, 0, none⟩ u).heap[b]? = w2.heap[b]? := fun u => Below.heap_setCell w2 ⟨g, 0, none⟩ u b nbg
      have t2 : ∀ u, (w2.setCell ⟨g, 0, none⟩ u).cell? ⟨b, 1, none⟩ = some (.int .i64 U) := fun u => by rw [hU]; exact (World.cell?_of_block (w := w2) (bB u)).trans R2.cells.2.1
      have t3 : ∀ u, (w2.setCell ⟨g, 0, none⟩ u).frozen? ⟨b, 1, none⟩ = false := fun u => (World.frozen?_of_block (w := w2) (bB u)).trans (R2.unfrozen 1)
      have i1 : (f.synced : Int) ≤ (cp : Int) := by omega
      have R4 := (R2.turnG hg hf (x' := { f with bytes := f.bytes.take f.synced }) (only_setCell w2 ⟨g, 0, none⟩ (.slice a f.synced cp)) (.slice a f.synced cp) (by rw [Joins.block_setCell (R2.file n g f hg hf).1]; rfl) (by
        have e : (f.bytes.take f.synced).length = f.synced := by rw [List.length_take, Nat.min_eq_left hfs]
        show World.ownsRow _ 0 _ 1 _ (f.bytes.take f.synced).length _
        rw [e]
        exact ownsRow_same hcut fun r hr => Below.heap_setCell w2 ⟨g, 0, none⟩ _ r (by
          have hr' : (sl' n).ownBlock = some r := by rw [hsl]; cases a with | none => cases hr | some ad => exact hr
          exact ne_kind (R2.kr (by rw [hg]; simp) hr') (R2.kg hg) (by decide))) (fun r hr => by rw [hsl]; cases a with | none => cases hr | some ad => exact hr)).drew
      have R5 := (R4.field 1 (.int .i64 (U + (f.synced : Int))) { σ with held := σ.durable, used := U + (f.synced : Int), files := Vf.setF (cutF σ.durable σ.files ss) n (some { f with bytes := f.bytes.take f.synced }) } rfl rfl rfl rfl rfl (Nat.le_refl _)).drew
      have nS : ¬ (S bn ∨ bn = w.heap.size) := fun hh => by have := hS2 bn hh; omega
      have P5 : PtrsAt (((w2.setCell ⟨g, 0, none⟩ (.slice a f.synced cp)).drew.setCell ⟨b, 1, none⟩ (.int .i64 (U + (f.synced : Int)))).drew) bn ss.length (onlyG σ.durable fs ss) := P2.same ((Below.heap_setCell _ ⟨b, 1, none⟩ _ bn (fun e => nS (by have e' : bn = b := e; rw [e']; exact R2.sb))).trans (Below.heap_setCell w2 ⟨g, 0, none⟩ _ bn (fun e => nS (by have e' : bn = g := e; rw [e']; exact R2.sg n g hg))))
      have M5 : Moved S w (((w2.setCell ⟨g, 0, none⟩ (.slice a f.synced cp)).drew.setCell ⟨b, 1, none⟩ (.int .i64 (U + (f.synced : Int)))).drew) := ((M2.setCell (p := ⟨g, 0, none⟩) (fun hl => by
        rcases R2.sg n g hg with hh | hh
        · exact hh
        · exact absurd hl (by rw [hh]; exact Nat.lt_irrefl _)) _).drew.setCell (p := ⟨b, 1, none⟩) (fun _ => H0.out.sb) _).drew
      have K5 : (((w2.setCell ⟨g, 0, none⟩ (.slice a f.synced cp)).drew.setCell ⟨b, 1, none⟩ (.int .i64 (U + (f.synced : Int)))).drew).ranges Try.prog 9 (plainElem Try.prog 3) bd (bn + 1) σ.durable.length D (fun z => left z && !z.sameKey (.string x)) cnt2 := by
        have k1 := hrg2.kept (grown_setCell w2 ⟨g, 0, none⟩ (.slice a f.synced cp)) (by simp; exact ne_kind R2.dur.kind (R2.kg hg) (by simp)) (by simp; have := hS2 g (R2.sg n g hg); omega)
        have k2 : ((w2.setCell ⟨g, 0, none⟩ (.slice a f.synced cp)).drew.setCell ⟨b, 1, none⟩ (.int .i64 (U + (f.synced : Int)))).ranges Try.prog 9 (plainElem Try.prog 3) bd (bn + 1) σ.durable.length D (fun z => left z && !z.sameKey (.string x)) cnt2 := World.ranges.kept (w := (w2.setCell ⟨g, 0, none⟩ (.slice a f.synced cp)).drew) k1 (grown_setCell _ ⟨b, 1, none⟩ _) (fun e => ne_kind R2.dur.kind R2.kb (by simp) (Option.some.inj e)) (fun e => by have h1 := hS2 b R2.sb; have h2 : bn + 1 = b := Option.some.inj e; omega)
        exact k2
      have eW : ((w2.setCell ⟨g, 0, none⟩ (.slice a f.synced cp)).drew.setCell ⟨b, 1, none⟩ (.int .i64 (U + (f.synced : Int)))).drew = ((w2.setCell ⟨g, 0, none⟩ (.slice a f.synced cp)).setCell ⟨b, 1, none⟩ (.int .i64 (U + (f.synced : Int)))).drew.drew := by rw [World.setCell_drew]
      rw [eW] at R5 P5 M5 K5
      clear eW
      have E1 : Hid (cutF σ.durable σ.files (ss ++ [x]) = Vf.setF (cutF σ.durable σ.files ss) n (some { f with bytes := f.bytes.take f.synced })) := by show _ = _; rw [hn]; exact cutF_step (by rw [← hn]; exact hf0)
      have E2 : Hid ((cutU σ.durable σ.files (ss ++ [x]) : Int) = U + (f.synced : Int)) := by
        have e : synOf σ.files (Vf.num σ.durable x) = f.synced := by unfold synOf; rw [← hn, hf0]
        show _ = _
        rw [cutU_step, e, hU]
        rfl
      have E3 : Hid (onlyG σ.durable fs (ss ++ [x]) = setG (onlyG σ.durable fs ss) n (some g)) := by show _ = _; rw [hn]; exact onlyG_step (by rw [← hn]; exact hg)
      have C5 := hC.step hlk hat
      have HC5 : Hid ((ss ++ [x]).length + cnt2 ≤ Maps.size D) := by have := HC.out; show _ ≤ _; rw [List.length_append]; simp only [List.length_singleton]; omega
      have NR : Hid (∀ i, (S i ∨ i = w.heap.size) → i ≠ bn) := fun i hi e => by have := hS2 i hi; omega
      have NBD : Hid (bd ≠ bn) := by have := hS2 bd R2.sd; show _ ≠ _; omega
      obtain ⟨sl5, R5'⟩ : ∃ s, RepAt _ b bf w.heap.size bd pv fs s _ _ := ⟨_, R5⟩
      have HR5 : Hid _ := R5'
      have HM5 : Hid _ := M5
      have LE : Hid (w2.rangeLeft bd (bn + 1) < wr.rangeLeft bd (bn + 1)) := by show _ < _; rw [hrg2.left_eq, hrg.left_eq]; exact hlt
      have LT : Hid (cnt2 < cnt) := hlt
      have KR : Hid (wr.rangeLeft bd (bn + 1) = cnt) := hrg.left_eq
      have hnil : a = none → f.bytes.length = 0 ∧ f.synced = 0 ∧ cp = 0 := fun e => by have h1 := (hna e).1; have h2 := (hna e).2; rw [h1] at hfs ⊢; simp at hfs; exact ⟨rfl, hfs, h2⟩
      clear R4 R5 R5' M5 hrg hrg2 hC hat hv hkey hlk ey hf hf0 hR hP hM HC P2 M2 R2 hcut hsl hfs hna bB hn hU hg2 hlt hS2 nS hcp ex
      cases a with
      | none =>
        have ev : (Value.slice none f.synced cp) = .slice none f.synced 0 := by obtain ⟨_, _, e3⟩ := hnil rfl; rw [e3]
        have ed : (Value.slice none f.bytes.length cp) = .slice none 0 0 := by obtain ⟨e1, _, e3⟩ := hnil rfl; rw [e1, e3]
        have i2 : (f.synced : Int) ≤ 0 := by obtain ⟨_, e2, _⟩ := hnil rfl; omega
        rw [ev] at P5 HR5 HM5 K5
        rw [ed] at d0
        clear ev ed hnil
        go_wp2_with (fail)
        go_region
        go_wp2_with (fail)
        go_region
        go_wp2_with (at_mapUpdate; refine wpList_ptrs_put _ rfl _ _ _ rfl bn ss.length (onlyG σ.durable fs ss) n g rfl rfl rfl P5 (by omega) (by omega) ?_; intro w5 p5 g5 z5; have Z5 : Hid _ := z5; clear z5)
        have K6 := World.ranges.kept K5 g5 (by simp; exact NBD.out) (by simp)
        go_roundw
        case rel =>
          refine ⟨_, _, _, _, _, _, _, _, _, _, _, _, _, _, _, _, _, _, _, _, _, _, _, _, _, _, _, _, _, _, _, _, _, _, _, _, _, _, ⟨_, cnt2, ss ++ [x], sl5, K6, C5, HC5, ?_, ?_, HM5.out.grown g5 (fun k e hk => by cases e; have := Z1.out; omega)⟩, rfl⟩
          · rw [E1.out, E2.out]
            exact HR5.out.same (fun i hi => g5.block i (HR5.out.low i hi) (by simp; exact NR.out i hi)) g5.size
          · rw [E3.out, List.length_append]
            exact p5
        case measure => rw [K6.left_eq, KR.out]; exact LT.out
      | some ad =>
        clear hnil
        go_wp2_with (fail)
        go_region
        go_wp2_with (fail)
        go_region
        go_wp2_with (at_mapUpdate; refine wpList_ptrs_put _ rfl _ _ _ rfl bn ss.length (onlyG σ.durable fs ss) n g rfl rfl rfl P5 (by omega) (by omega) ?_; intro w5 p5 g5 z5; have Z5 : Hid _ := z5; clear z5)
        have K6 := World.ranges.kept K5 g5 (by simp; exact NBD.out) (by simp)
        go_roundw
        case rel =>
          refine ⟨_, _, _, _, _, _, _, _, _, _, _, _, _, _, _, _, _, _, _, _, _, _, _, _, _, _, _, _, _, _, _, _, _, _, _, _, _, _, ⟨_, cnt2, ss ++ [x], sl5, K6, C5, HC5, ?_, ?_, HM5.out.grown g5 (fun k e hk => by cases e; have := Z1.out; omega)⟩, rfl⟩
          · rw [E1.out, E2.out]
            exact HR5.out.same (fun i hi => g5.block i (HR5.out.low i hi) (by simp; exact NR.out i hi)) g5.size
          · rw [E3.out, List.length_append]
            exact p5
        case measure => rw [K6.left_eq, KR.out]; exact LT.out
end Go.Proofs.Ytclokpkhkokfhab
