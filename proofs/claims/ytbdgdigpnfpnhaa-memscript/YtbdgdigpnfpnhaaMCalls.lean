/-
  The small calls of a memtable: whether New made it, the check of an entry, lists of numbers, New, the height of the next tower.
-/
import Derived.Test.YtbdgdigpnfpnhaaJMem
import Derived.Test.YtbdgdigpnfpnhaaMFind
import Derived.Test.YtbdgdigpnfpnhaaKF
import Derived.Test.YtbdgdigpnfpnhaaKS
import Derived.LaidEqlPtr
namespace Go.Proofs.Ytbdgdigpnfpnhaa.Q.P
open Go.RowKit

theorem eql_left {P : Program} (w : World) {tp te : TypeId} (a : Addr) (hp : P.underlying tp = some (.pointer te)) :
    (binOp .eql tp (.pointer none) (.pointer (some a))).run P w = .ok (.bool false) w := by
  have h : ∀ d : Nat, (Op.equalIn (d + 1) tp (.pointer none) (.pointer (some a))).run P w = .ok false w := fun d => by
    simp [Op.equalIn, run_underlying hp, sizeOf, typeInfo]
  simp only [binOp]
  simp [Op.equal, Op.maxDepth, h 9999]
theorem infoTab : ∃ j, Try.prog.info? 67 = some j := Option.isSome_iff_exists.1 (by kernel_rfl)
theorem infoNode : ∃ j : TypeInfo, Try.prog.info? 65 = some j ∧ j.size ≠ 0 := by
  have h : (Try.prog.info? 65).map (·.size) = some 17 := by kernel_rfl
  cases hj : Try.prog.info? 65 with
  | none => rw [hj] at h; cases h
  | some j => rw [hj] at h; exact ⟨j, rfl, by have : j.size = 17 := by simpa using h
                                              omega⟩
set_option maxRecDepth 10000 in
theorem made_yes (w : World) (b : Nat) (hc : w.cell? ⟨b, 0, none⟩ = some (.pointer (some ⟨b, 0, none⟩))) : Calls Try.prog 39 #[.pointer (some ⟨b, 0, none⟩)] w fun e w' => e = .returned (.bool true) ∧ w' = w := by
  obtain ⟨j, hj⟩ := infoTab
  have q := run_eql_ptr_same w ⟨b, 0, none⟩ Try.underlying28 hj
  clear hj
  go_enter Try.func39, Try.ntmps39
  go_wp2_with (fail)
  go_ret
  exact ⟨rfl, rfl⟩
set_option maxRecDepth 10000 in
theorem made_zero (w : World) (b : Nat) (hc : w.cell? ⟨b, 0, none⟩ = some (.pointer none)) : Calls Try.prog 39 #[.pointer (some ⟨b, 0, none⟩)] w fun e w' => e = .returned (.bool false) ∧ w' = w := by
  have q := eql_left w ⟨b, 0, none⟩ Try.underlying28
  go_enter Try.func39, Try.ntmps39
  go_wp2_with (fail)
  go_ret
  exact ⟨rfl, rfl⟩
theorem made_nil (w : World) : Calls Try.prog 39 #[.pointer none] w fun e w' => e = .returned (.bool false) ∧ w' = w := by
  go_enter Try.func39, Try.ntmps39
  go_wp2_with (fail)
  go_ret
  exact ⟨rfl, rfl⟩

end Go.Proofs.Ytbdgdigpnfpnhaa.Q.P
namespace Go.Proofs.Ytbdgdigpnfpnhaa.Q.Mm
end Go.Proofs.Ytbdgdigpnfpnhaa.Q.Mm
namespace Go.Proofs.Ytbdgdigpnfpnhaa.Q.P
open Go.RowKit

theorem wcheck_one (wx : World) (k v : Mm.Bs) (s : Int) (d : Bool) (h1 : 1 ≤ s) (h2 : s ≤ 1073741824) (hk : k.length ≤ 1000000) (hv : v.length ≤ 1000000) : Calls Try.prog 37 #[.slice (some ⟨wx.heap.size, 0, none⟩) 1 1] (wx.alloc (.cells #[str k, str v, .bool d] 70)) fun r w' => r = .returned (.int .i64 (Mm.checkE ⟨k, v, s, d⟩)) ∧ Below wx.heap.size wx w' := by
  have hb := World.alloc_heap_new wx (.cells #[str k, str v, .bool d] 70)
  have ha : WrsAt (wx.alloc (.cells #[str k, str v, .bool d] 70)) (.slice (some ⟨wx.heap.size, 0, none⟩) 1 1) [⟨k, v, d⟩] := ⟨⟨_, 1, rfl, fun _ => ⟨_, 0, rfl, fun j hj => by
    obtain rfl : j = 0 := by simpa using hj
    exact ⟨Joins.cell_of_block hb 0, Joins.cell_of_block hb 1, Joins.cell_of_block hb 2⟩⟩⟩⟩
  have hq : ∀ x ∈ [(⟨k, v, d⟩ : Wl.Wr)], x.key.length ≤ 1000000 ∧ x.value.length ≤ 1000000 := fun x hx => by
    obtain rfl : x = ⟨k, v, d⟩ := by simpa using hx
    exact ⟨hk, hv⟩
  have hE : Mm.checkE ⟨k, v, s, d⟩ = Wl.checkE [⟨k, v, d⟩] := by
    unfold Mm.checkE Mm.may Wl.checkE
    rw [decide_eq_true (p := 1 ≤ s) h1, decide_eq_true (p := s ≤ 1073741824) h2]
    simp [Wl.shared]
  refine (check_any _ _ 1 1 [⟨k, v, d⟩] ha rfl (by omega) hq _ hE).mono ?_
  rintro r w' ⟨rfl, b⟩
  exact ⟨rfl, ((Below.refl _ _).alloc (Nat.le_refl _) _).trans (b.mono (by simp))⟩

set_option maxRecDepth 10000 in
set_option maxHeartbeats 2000000 in
theorem mcheck_low (w : World) (k v : Mm.Bs) (s : Int) (d : Bool) (h1 : s < 1) : Calls Try.prog 11 #[.agg #[str k, str v, .int .i64 s, .bool d]] w fun r w' => r = .returned (.int .i64 2) ∧ Below w.heap.size w w' := by
  go_enter Try.func11, Try.ntmps11
  go_wp2_with (fail)
  go_ret
  exact ⟨rfl, (Below.refl _ _).alloc (Nat.le_refl _) _⟩
set_option maxRecDepth 10000 in
set_option maxHeartbeats 2000000 in
theorem mcheck_high (w : World) (k v : Mm.Bs) (s : Int) (d : Bool) (h1 : ¬ s < 1) (h2 : s > 1073741824) : Calls Try.prog 11 #[.agg #[str k, str v, .int .i64 s, .bool d]] w fun r w' => r = .returned (.int .i64 2) ∧ Below w.heap.size w w' := by
  go_enter Try.func11, Try.ntmps11
  go_wp2_with (fail)
  go_ret
  exact ⟨rfl, (Below.refl _ _).alloc (Nat.le_refl _) _⟩
set_option maxRecDepth 10000 in
set_option maxHeartbeats 2000000 in
theorem mcheck_mid (w : World) (k v : Mm.Bs) (s : Int) (d : Bool) (h1 : ¬ s < 1) (h2 : ¬ s > 1073741824) (E : Int)
    (CK : Hid (Calls Try.prog 37 #[.slice (some ⟨w.heap.size + 1, 0, none⟩) 1 1] ((w.alloc (.cells #[str k, str v, .int .i64 s, .bool d] 38)).alloc (.cells #[str k, str v, .bool d] 70)) fun r w' => r = .returned (.int .i64 E) ∧ Below (w.alloc (.cells #[str k, str v, .int .i64 s, .bool d] 38)).heap.size (w.alloc (.cells #[str k, str v, .int .i64 s, .bool d] 38)) w')) :
    Calls Try.prog 11 #[.agg #[str k, str v, .int .i64 s, .bool d]] w fun r w' => r = .returned (.int .i64 E) ∧ Below w.heap.size w w' := by
  go_enter Try.func11, Try.ntmps11
  go_wp2_with (first
    | (go_at_call 37; refine CK.out.mono ?_; rintro r w1 ⟨rfl, b1⟩))
  go_ret
  exact ⟨rfl, ((Below.refl _ _).alloc (Nat.le_refl _) _).trans (b1.mono (by simp))⟩
theorem mcheck_any (w : World) (e : Mm.Ent) (hk : e.key.length ≤ 1000000) (hv : e.value.length ≤ 1000000) : Calls Try.prog 11 #[entV e] w fun r w' => r = .returned (.int .i64 (Mm.checkE e)) ∧ Below w.heap.size w w' := by
  obtain ⟨k, v, s, d⟩ := e
  by_cases h1 : s < 1
  · have HE : Mm.checkE ⟨k, v, s, d⟩ = 2 := by unfold Mm.checkE Mm.may; rw [decide_eq_false (p := 1 ≤ s) (by omega)]; rfl
    rw [HE]
    exact mcheck_low w k v s d h1
  by_cases h2 : s > 1073741824
  · have HE : Mm.checkE ⟨k, v, s, d⟩ = 2 := by unfold Mm.checkE Mm.may; rw [decide_eq_false (p := s ≤ 1073741824) (by omega), Bool.and_false]; rfl
    rw [HE]
    exact mcheck_high w k v s d h1 h2
  have C := wcheck_one (w.alloc (.cells #[str k, str v, .int .i64 s, .bool d] 38)) k v s d (by omega) (by omega) hk hv
  have hz : (w.alloc (.cells #[str k, str v, .int .i64 s, .bool d] 38)).heap.size = w.heap.size + 1 := World.size_alloc ..
  generalize hE : Mm.checkE ⟨k, v, s, d⟩ = E at C ⊢
  refine mcheck_mid w k v s d h1 h2 E ?_
  show Calls _ _ _ _ _
  rw [← hz]
  exact C

/-! ### Lists of numbers -/
structure IntsAt (w : World) (v : Value) (l : List Int) : Prop where
  form : ∃ a cap, v = .slice a l.length cap ∧ (a = none → l = [] ∧ cap = 0) ∧ (l ≠ [] → ∃ b off, a = some ⟨b, off, none⟩ ∧ ∀ j (h : j < l.length), w.cell? ⟨b, off + j, none⟩ = some (.int .i64 l[j]))
theorem IntsAt.later {w w' : World} {v : Value} {l : List Int} (h : IntsAt w v l) (hb : Below w.heap.size w w') : IntsAt w' v l := by
  obtain ⟨a, cap, e, h0, hf⟩ := h
  refine ⟨a, cap, e, h0, fun hl => ?_⟩
  obtain ⟨b, off, ha, hat⟩ := hf hl
  exact ⟨b, off, ha, fun j hj => keepC hb (hat j hj)⟩
theorem IntsAt.nil (w : World) : IntsAt w (.slice none 0 0) [] := ⟨none, 0, rfl, fun _ => ⟨rfl, rfl⟩, fun h => absurd rfl h⟩
def ics (l : List Int) : List Value := l.map fun n => Value.int .i64 n
theorem ics_nat (hs : List Nat) : hcs hs = ics (hs.map fun (n : Nat) => (n : Int)) := by simp [hcs, ics]

theorem Try.infoI : (Try.prog.info? 3).map (fun i => (i.zero, i.size, i.bytes)) = some (some (.int .i64 0), 1, 8) := by kernel_rfl
theorem addr_add (b off j : Nat) : (⟨b, off, none⟩ : Addr).add j = ⟨b, off + j, none⟩ := by unfold Addr.add; split <;> simp_all

set_option maxHeartbeats 1600000 in
theorem clone_ints (w : World) (v : Value) (l : List Int) (h : IntsAt w v l) (hl : l.length ≤ 1000000) :
    Calls Try.prog 35 #[v] w fun e w' => ∃ v', e = .returned v' ∧ w'.ownsRow w.heap.size 3 1 v' l.length (ics l) ∧ Below w.heap.size w w' := by
  have keq := fun (w : World) (a : Option Addr) (n c : Nat) => Lib.run_eql_slice_nil (P := Try.prog) w 22 3 a n c 0 0 Try.underlying22
  obtain ⟨a, cap, rfl, h0, hf⟩ := h
  obtain ⟨i0, hi, hz0, hz1, hz2⟩ := info_parts Try.infoI
  cases a with
  | none =>
    obtain ⟨rfl, rfl⟩ := h0 rfl
    go_enter Try.func35, Try.ntmps35
    go_wp2_with (fail)
    go_ret
    exact ⟨_, rfl, World.ownsRow_nil _ _ _ _, Below.refl _ _⟩
  | some ad =>
    have O0 := World.ownsRow_lit (size := 1) (e := 3) (base := w.heap.size) w #[] 0 (Nat.le_refl _) (by decide) rfl
    have B0 : Below w.heap.size w (w.alloc (.cells #[] 3)) := (Below.refl _ _).alloc (Nat.le_refl _) _
    have hc : ∀ ad', some ad = some ad' → ∀ j u, (ics l)[j]? = some u → (w.alloc (.cells #[] 3)).cell? (ad'.add j) = some u := by
      intro ad' e j u hu
      cases e
      have hj : j < l.length := by
        rcases Nat.lt_or_ge j l.length with h | h
        · exact h
        · rw [List.getElem?_eq_none (by simpa [ics] using h)] at hu; cases hu
      obtain ⟨b, off, ha, hat⟩ := hf (fun e => by rw [e] at hj; simp at hj)
      cases ha
      rw [addr_add]
      refine (keepC B0 (hat j hj)).trans ?_
      rw [← hu]
      simp [ics, hj]
    have one : ∀ u ∈ ics l, u.oneCell' = true := by
      intro u hu
      simp only [ics, List.mem_map] at hu
      obtain ⟨n, _, rfl⟩ := hu
      rfl
    have HC := hide hc
    have HO := hide one
    have O1 := hide O0
    have hb0 := B0.size
    obtain ⟨n, hn⟩ : ∃ n, n = l.length := ⟨_, rfl⟩
    have ln : (ics l).length = n * 1 := by rw [hn]; simp [ics]
    have HN := hide ln
    rw [← hn] at hl ⊢
    clear hf h0 hc one O0 ln hn
    by_cases hl0 : n = 0
    · subst hl0
      go_enter Try.func35, Try.ntmps35
      go_wp2_with (at_builtin; refine wpList_append_fits_any _ rfl _ _ 22 rfl w.heap.size 3 i0 1 Try.underlying22 hi hz1 w.heap.size 0 0 [] rfl O1.out (some ad) 0 cap (ics l) rfl HN.out (fun h => by cases h) HC.out HO.out (Nat.le_refl _) ?_; intro w1 o1 g1)
      go_ret
      exact ⟨_, rfl, o1, B0.grown g1 hb0 (fun k hk => by cases hk; exact Nat.le_refl _)⟩
    · have hp : 0 < n := by omega
      go_enter Try.func35, Try.ntmps35
      go_wp2_with (at_builtin; refine wpList_append_lies _ rfl _ _ 22 rfl w.heap.size 3 i0 (.int .i64 0) 1 8 Try.underlying22 hi hz0 hz1 hz2 rfl (by decide) _ 0 [] rfl O1.out ad n cap (ics l) rfl HN.out (HC.out ad rfl) HO.out hp (by unfold maxLen; omega) (by omega) hb0 _ rfl ?_; intro g1 cap1 w1 o1 gr1 at1 lt1)
      go_ret
      exact ⟨_, rfl, by simpa using o1, B0.grown gr1 hb0 (fun k hk => by cases hk; exact Nat.le_refl _)⟩
/-- A table of the call's own, from block base on. -/
def Tab (base : Nat) (w : World) (b : Nat) (hs : List Nat) (ns : List Mm.Nd) : Prop := ∃ hv hd, TabAt w b hv hs hd ns ∧ ∀ i, (tabS b hd ns i ∨ hv.ownBlock = some i) → base ≤ i

def okH (n : Int) : Bool := decide (1 ≤ n) && decide (n ≤ 12)
theorem ints_cell {w : World} {a : Option Addr} {n cap : Nat} {l : List Int} (h : IntsAt w (.slice a n cap) l) (j : Nat) (hj : j < l.length) : ∃ b off, a = some ⟨b, off, none⟩ ∧ w.cell? ⟨b, off + j, none⟩ = some (.int .i64 l[j]) := by
  obtain ⟨a', cap', e, _, hf⟩ := h
  obtain ⟨b, off, ha, hat⟩ := hf (fun e => by rw [e] at hj; simp at hj)
  cases e
  exact ⟨b, off, ha, hat j hj⟩

abbrev zeroNd : Obj := .cells #[.string ⟨#[]⟩, .string ⟨#[]⟩, .int .i64 0, .bool false, .int .i64 0, .pointer none, .pointer none, .pointer none, .pointer none, .pointer none, .pointer none, .pointer none, .pointer none, .pointer none, .pointer none, .pointer none, .pointer none] 65
theorem new_tab {w : World} {base : Nat} {hs : List Nat} {v : Value} (o : w.ownsRow base 3 1 v hs.length (hcs hs)) (hb : base ≤ w.heap.size) (hh : ∀ n ∈ hs, 1 ≤ n ∧ n ≤ 12) :
    Tab base ((w.alloc zeroNd).alloc (.cells #[.pointer (some ⟨w.heap.size + 1, 0, none⟩), v, .pointer (some ⟨w.heap.size, 0, none⟩), .int .i64 0, .int .i64 0] 67)) (w.heap.size + 1) hs [] := by
  have n1 := World.alloc_heap_new w zeroNd
  have n2 := World.alloc_heap_new (w.alloc zeroNd) (.cells #[.pointer (some ⟨w.heap.size + 1, 0, none⟩), v, .pointer (some ⟨w.heap.size, 0, none⟩), .int .i64 0, .int .i64 0] 67)
  rw [World.size_alloc] at n2
  have lo := own_lt o
  have hg : ∀ g, v.ownBlock = some g → base ≤ g := by
    intro g hg
    rcases o.2 with ⟨rfl, _⟩ | ⟨g', cap, cur, rfl, h1, h2, h3⟩
    · cases hg
    · cases hg; exact h1
  refine ⟨v, ⟨w.heap.size, ⟨[], [], 0, false⟩, 0, 12⟩, ⟨n2, ?_, ⟨?_, trivial⟩, List.Pairwise.nil, by simp, ?_, ?_, rfl, by simp, by simp, hh⟩, ?_⟩
  · obtain ⟨h1, h2⟩ := ((o.alloc zeroNd).alloc (.cells #[.pointer (some ⟨w.heap.size + 1, 0, none⟩), v, .pointer (some ⟨w.heap.size, 0, none⟩), .int .i64 0, .int .i64 0] 67))
    refine ⟨h1, ?_⟩
    rcases h2 with h2 | ⟨g, cap, cur, e, h3, h4, h5⟩
    · exact .inl h2
    · exact .inr ⟨g, cap, cur, e, Nat.zero_le _, h4, h5⟩
  · exact (Below.heap_alloc _ _ _ (by simp)).trans n1
  · intro x hx
    obtain rfl : x = ⟨w.heap.size, ⟨[], [], 0, false⟩, 0, 12⟩ := by simpa using hx
    show w.heap.size ≠ w.heap.size + 1
    omega
  · intro g hgv
    have := lo g hgv
    refine ⟨by omega, fun x hx => ?_⟩
    obtain rfl : x = ⟨w.heap.size, ⟨[], [], 0, false⟩, 0, 12⟩ := by simpa using hx
    show w.heap.size ≠ g
    omega
  · rintro i ((rfl | hi) | hi)
    · omega
    · obtain rfl : i = w.heap.size := by simpa using hi
      exact hb
    · exact hg i hi

/-- What New answers. -/
def NewPost (w w' : World) (e : Ending) (l : List Int) : Prop := (l.all okH = true ∧ ∃ b, e = .returned (.tuple #[.pointer (some ⟨b, 0, none⟩), .int .i64 0]) ∧ Tab w.heap.size w' b (l.map Int.toNat) []) ∨ (l.all okH = false ∧ e = .returned (.tuple #[.pointer none, .int .i64 2]))

set_option maxRecDepth 100000 in
set_option maxHeartbeats 2000000 in
theorem new_any (w : World) (v : Value) (l : List Int) (h : IntsAt w v l) (hl : l.length ≤ 1000000) :
    Calls Try.prog 8 #[v] w fun e w' => Below w.heap.size w w' ∧ NewPost w w' e l := by
  have H := hide h
  obtain ⟨a, cap, rfl, _, _⟩ := h
  have HN : Hid (IntsAt w (.slice a l.length cap) l) := H
  clear H
  obtain ⟨n, hn⟩ : ∃ n, n = l.length := ⟨_, rfl⟩
  have HL : Hid (n = l.length) := hn
  rw [← hn] at hl HN ⊢
  clear hn
  have CL : Hid (∀ wx, Below w.heap.size w wx → Calls Try.prog 35 #[.slice a n cap] wx fun e w' => ∃ v', e = .returned v' ∧ w'.ownsRow wx.heap.size 3 1 v' l.length (ics l) ∧ Below wx.heap.size wx w') := fun wx hw => clone_ints wx _ l (HN.out.later hw) (by have := HL.out; omega)
  go_enter Try.func8, Try.ntmps8
  go_wp2_with (fail)
  go_loopw [9] (fun i wr => Below w.heap.size w wr ∧ ∃ j : Nat, j ≤ n ∧ i = .int .i64 j ∧ Hid ((l.take j).all okH = true)) (fun i _ => n - (intOf i).toNat)
  case atStart => exact ⟨Below.refl _ _, 0, Nat.zero_le _, rfl, by show _ = _; simp⟩
  case round =>
    obtain ⟨bx, j, hj, rfl, HT⟩ := hrel
    by_cases hlt : j < n
    · have jl : j < l.length := by have := HL.out; omega
      obtain ⟨b, off, rfl, c0⟩ := ints_cell (HN.out.later bx) j jl
      obtain ⟨x, hx⟩ : ∃ x, x = l[j] := ⟨_, rfl⟩
      rw [← hx] at c0
      have HX : Hid (x = l[j]) := hx
      clear hx
      by_cases h1 : x < 1
      · have HF : Hid (l.all okH = false) := by
          show _ = _
          rw [List.all_eq_false]
          exact ⟨l[j], List.getElem_mem jl, by rw [← HX.out]; simp [okH]; omega⟩
        clear CL HN HT
        go_wp2_with (fail)
        go_ret2
        exact ⟨bx, .inr ⟨HF.out, rfl⟩⟩
      by_cases h2 : x > 12
      · have HF : Hid (l.all okH = false) := by
          show _ = _
          rw [List.all_eq_false]
          exact ⟨l[j], List.getElem_mem jl, by rw [← HX.out]; simp [okH]; omega⟩
        clear CL HN HT
        go_wp2_with (fail)
        go_ret2
        exact ⟨bx, .inr ⟨HF.out, rfl⟩⟩
      have HF : Hid ((l.take (j + 1)).all okH = true) := by
        show _ = _
        rw [List.take_succ_eq_append_getElem jl, List.all_append, HT.out, ← HX.out]
        simp [okH]; omega
      clear CL HN HT HX jl
      go_wp2_with (fail)
      exact ⟨⟨bx, j + 1, by omega, rfl, HF⟩, by simp [intOf]; omega⟩
    · have i3 : ¬ (j : Int) < (n : Int) := by omega
      have HF : Hid (l.all okH = true) := by
        show _ = _
        have := HT.out
        rw [List.take_of_length_le (by have := HL.out; omega)] at this
        exact this
      clear HT HN
      go_wp2_with (first
        | (go_at_call 35; refine (CL.out _ bx).mono ?_; rintro e w1 ⟨v1, rfl, o1, b1⟩; have z1 := b1.size; obtain ⟨a1, c1, rfl⟩ := row_shape o1; clear CL))
      go_ret2
      have B1 := bx.trans (b1.mono bx.size)
      have zz : w.heap.size ≤ w1.heap.size := B1.size
      refine ⟨(B1.alloc zz _).alloc (by rw [World.size_alloc]; omega) _, .inl ⟨HF.out, _, rfl, ?_⟩⟩
      have e1 : (l.map Int.toNat).map (fun (n : Nat) => (n : Int)) = l := by
        rw [List.map_map]
        conv => rhs; rw [← List.map_id l]
        refine List.map_congr_left fun x hx => ?_
        have := List.all_eq_true.1 HF.out x hx
        simp [okH] at this
        simp; omega
      refine new_tab (base := w.heap.size) ?_ zz (fun n hn => ?_)
      · rw [ics_nat, e1, List.length_map]
        obtain ⟨h1, h2⟩ := o1
        refine ⟨h1, ?_⟩
        rcases h2 with h2 | ⟨g, cap, cur, e, h3, h4, h5⟩
        · exact .inl h2
        · exact .inr ⟨g, cap, cur, e, by have := bx.size; omega, h4, h5⟩
      · obtain ⟨x, hx, rfl⟩ := List.mem_map.1 hn
        have := List.all_eq_true.1 HF.out x hx
        simp [okH] at this
        omega
end Go.Proofs.Ytbdgdigpnfpnhaa.Q.P
