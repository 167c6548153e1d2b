/-
  Whether a list of writes may be: the inner calls and Check. .. and what follows from it.
-/
import Derived.Test.YtolalicliojkfaaGreatSA
import Derived.Maps.OwnSet
import Derived.Maps.AppendAt
namespace Go.Proofs.YtolalicliojkfaaGreat
open Go.RowKit Go.Maps

theorem all_take {l : List Wl.Wr} {j : Nat} (h : j < l.length) (ht : (l.take j).all Wl.mayBe = true) : (l.take (j + 1)).all Wl.mayBe = Wl.mayBe l[j] := by
  rw [List.take_succ_eq_append_getElem h, List.all_append, ht]
  simp
theorem all_no {l : List Wl.Wr} {j : Nat} (h : j < l.length) (hf : Wl.mayBe l[j] = false) : l.all Wl.mayBe = false := by
  rw [List.all_eq_false]
  exact ⟨l[j], List.getElem_mem h, by rw [hf]; simp⟩

set_option maxRecDepth 100000 in
set_option maxHeartbeats 2000000 in
theorem allMayBe_any (w : World) (a : Option Addr) (c n : Nat) (l : List Wl.Wr) (h : WrsAt w (.slice a n c) l) (hn : n = l.length) (hl : n ≤ 64) (hk : ∀ x ∈ l, x.key.length ≤ 1000000000 ∧ x.value.length ≤ 1000000000) (S : Bool) (HS : Hid (S = l.all Wl.mayBe)) :
    Calls Tryz.prog 93 #[.slice a n c] w fun e w' => e = .returned (.bool S) ∧ Below w.heap.size w w' := by
  have H : Hid _ := h
  have HN : Hid (n = l.length) := hn
  have HK : Hid (∀ x ∈ l, x.key.length ≤ 1000000000 ∧ x.value.length ≤ 1000000000) := hk
  clear h hn hk
  go_enter Tryz.func93, Tryz.ntmps93
  go_wp2_with (fail)
  go_loopw [7] (fun i wr => Below w.heap.size w wr ∧ ∃ j : Nat, j ≤ n ∧ i = .int .i64 j ∧ Hid ((l.take j).all Wl.mayBe = true)) (fun i _ => n - (intOf i).toNat)
  case atStart => exact ⟨Below.refl _ _, 0, Nat.zero_le _, rfl, by show _ = _; simp⟩
  case round =>
    obtain ⟨bx, j, hj, rfl, HT⟩ := hrel
    by_cases hlt : j < n
    · have jl : j < l.length := by have := HN.out; omega
      obtain ⟨b, off, rfl⟩ := H.out.some (by omega)
      obtain ⟨c0, c1, c2⟩ := (H.out.later bx).cells j jl
      have hk := HK.out l[j] (List.getElem_mem jl)
      obtain ⟨x, hx⟩ : ∃ x, x = l[j] := ⟨_, rfl⟩
      rw [← hx] at c0 c1 c2 hk
      have FT : Hid ((l.take (j + 1)).all Wl.mayBe = Wl.mayBe x) := by show _ = _; rw [hx]; exact all_take jl HT.out
      have FN : Hid (Wl.mayBe x = false → S = false) := fun hf => by rw [HS.out]; exact all_no jl (by rw [← hx]; exact hf)
      clear hx H HS HT HN HK jl
      obtain ⟨K, V, D⟩ := x
      obtain ⟨hK, hV⟩ := hk
      simp only at c0 c1 c2 hK hV
      match K with
      | [] =>
        have HF : Hid (S = false) := FN.out rfl
        clear FN FT
        go_wp2_with (fail)
        go_ret
        exact ⟨by rw [HF.out]; rfl, bx.alloc bx.size _⟩
      | k0 :: K =>
        by_cases g0 : ((k0 :: K).length : Int) > 512
        · have HF : Hid (S = false) := FN.out (by simp only [Wl.mayBe]; rw [decide_eq_false (p := (k0 :: K).length ≤ 512) (by omega)]; simp)
          rw [List.length_cons] at g0 hK
          clear FN FT
          go_wp2_with (fail)
          go_ret
          exact ⟨by rw [HF.out]; rfl, bx.alloc bx.size _⟩
        by_cases g1 : (V.length : Int) > 4096
        · have HF : Hid (S = false) := FN.out (by simp only [Wl.mayBe]; rw [decide_eq_false (p := V.length ≤ 4096) (by omega)]; simp)
          rw [List.length_cons] at g0 hK
          clear FN FT
          go_wp2_with (fail)
          go_ret
          exact ⟨by rw [HF.out]; rfl, bx.alloc bx.size _⟩
        cases D with
        | false =>
          have HF : Hid ((l.take (j + 1)).all Wl.mayBe = true) := by
            show _ = _
            rw [FT.out]
            simp only [Wl.mayBe]
            rw [decide_eq_true (p := (k0 :: K).length ≤ 512) (by omega), decide_eq_true (p := V.length ≤ 4096) (by omega)]
            simp
          rw [List.length_cons] at g0 hK
          clear FN FT
          go_wp2_with (fail)
          exact ⟨⟨bx.alloc bx.size _, j + 1, by omega, rfl, HF⟩, by simp [intOf]; omega⟩
        | true =>
          match V with
          | [] =>
            have HF : Hid ((l.take (j + 1)).all Wl.mayBe = true) := by
              show _ = _
              rw [FT.out]
              simp only [Wl.mayBe]
              rw [decide_eq_true (p := (k0 :: K).length ≤ 512) (by omega)]
              simp
            rw [List.length_cons] at g0 hK
            clear FN FT
            go_wp2_with (fail)
            exact ⟨⟨bx.alloc bx.size _, j + 1, by omega, rfl, HF⟩, by simp [intOf]; omega⟩
          | v0 :: V =>
            have HF : Hid (S = false) := FN.out (by simp [Wl.mayBe])
            rw [List.length_cons] at g0 hK g1 hV
            clear FN FT
            go_wp2_with (fail)
            go_ret
            exact ⟨by rw [HF.out]; rfl, bx.alloc bx.size _⟩
    · have i3 : ¬ (j : Int) < (n : Int) := by omega
      have HF : Hid (S = true) := by
        show _ = _
        rw [HS.out]
        have := HT.out
        rw [List.take_of_length_le (by have := HN.out; omega)] at this
        exact this
      clear HT H HK HN HS
      go_wp2_with (fail)
      go_ret
      exact ⟨by rw [HF.out]; rfl, bx⟩
end Go.Proofs.YtolalicliojkfaaGreat
namespace Go.Proofs.YtolalicliojkfaaGreat
open Go.RowKit Go.Maps

/-- The keys of writes. -/
def keysL (l : List Wl.Wr) : List Lit := l.map fun x => .string x.key
theorem make_hint (n : Nat) (w : World) : (Instr.makeMap 142 (some (.int .i64 (n : Int)))).run Tryz.prog w = .ok (.map (some w.heap.size)) (w.alloc (.map #[] 0)) := by
  simp [Instr.makeMap, run_underlying Tryz.underlying142, asInt, asIntOf, Result.andThen]

theorem same_string (a b : Wl.Bs) : (Lit.string a).sameKey (.string b) = decide (a = b) := by
  show (a == b) = _
  by_cases h : a = b
  · simp [h]
  · simp [h]
def dup : List Wl.Bs → List Wl.Wr → Bool
  | _, [] => false
  | acc, x :: r => acc.any (fun y => decide (y = x.key)) || dup (acc ++ [x.key]) r
theorem fold_le (l : List Wl.Wr) : ∀ acc : List Lit, ((keysL l).foldl addKey acc).length ≤ acc.length + l.length := by
  induction l with
  | nil => intro acc; exact Nat.le_refl _
  | cons x r ih =>
    intro acc
    show ((keysL r).foldl addKey (addKey acc (.string x.key))).length ≤ _
    have := ih (addKey acc (.string x.key))
    have h2 : (addKey acc (.string x.key)).length ≤ acc.length + 1 := by
      unfold addKey
      split
      · omega
      · simp
    rw [List.length_cons]
    omega
theorem fold_dup (l : List Wl.Wr) : ∀ acc : List Wl.Bs, decide (((keysL l).foldl addKey (acc.map Lit.string)).length < acc.length + l.length) = dup acc l := by
  induction l with
  | nil => intro acc; simp [keysL, dup]
  | cons x r ih =>
    intro acc
    show decide (((keysL r).foldl addKey (addKey (acc.map Lit.string) (.string x.key))).length < _) = _
    have ha : (acc.map Lit.string).any (fun y => y.sameKey (.string x.key)) = acc.any (fun y => decide (y = x.key)) := by
      rw [List.any_map]
      congr 1
      funext y
      exact same_string y x.key
    have hadd : addKey (acc.map Lit.string) (.string x.key) = if acc.any (fun y => decide (y = x.key)) = true then acc.map Lit.string else acc.map Lit.string ++ [.string x.key] := by
      unfold addKey
      rw [ha]
    rw [hadd]
    cases hc : acc.any (fun y => decide (y = x.key)) with
    | true =>
      rw [if_pos rfl]
      have := fold_le r (acc.map Lit.string)
      rw [List.length_map] at this
      rw [dup, hc, Bool.true_or]
      refine decide_eq_true ?_
      rw [List.length_cons]
      omega
    | false =>
      rw [if_neg (by simp)]
      have e : acc.map Lit.string ++ [Lit.string x.key] = (acc ++ [x.key]).map Lit.string := by simp
      have := ih (acc ++ [x.key])
      rw [e, dup, hc, Bool.false_or, ← this, List.length_append, List.length_cons, List.length_singleton]
      congr 2
      omega
theorem any_more (r : List Wl.Wr) (acc : List Wl.Bs) (k : Wl.Bs) : r.any (fun z => (acc ++ [k]).any (fun y => decide (y = z.key))) = (r.any (fun z => acc.any (fun y => decide (y = z.key))) || r.any (fun z => decide (z.key = k))) := by
  induction r with
  | nil => rfl
  | cons z t ih =>
    rw [List.any_cons, List.any_cons, List.any_cons, ih, List.any_append]
    simp only [List.any_cons, List.any_nil, Bool.or_false]
    rw [show decide (k = z.key) = decide (z.key = k) from by simp [eq_comm]]
    cases acc.any (fun y => decide (y = z.key)) <;> cases decide (z.key = k) <;> simp
theorem dup_shared (l : List Wl.Wr) : ∀ acc : List Wl.Bs, dup acc l = (l.any (fun x => acc.any (fun y => decide (y = x.key))) || Wl.shared l) := by
  induction l with
  | nil => intro acc; rfl
  | cons x r ih =>
    intro acc
    rw [dup, ih, Wl.shared, List.any_cons]
    have e := any_more r acc x.key
    rw [e]
    cases acc.any (fun y => decide (y = x.key)) <;> cases r.any (fun z => acc.any (fun y => decide (y = z.key))) <;> cases r.any (fun z => decide (z.key = x.key)) <;> simp
theorem keys_few (l : List Wl.Wr) : decide (((keysL l).foldl addKey []).length < l.length) = Wl.shared l := by
  have h := fold_dup l []
  rw [List.map_nil, List.length_nil, Nat.zero_add, dup_shared] at h
  rw [h]
  simp

theorem keysL_lit (l : List Wl.Wr) : ∀ x ∈ keysL l, WideAt.IsKeyLit x := by
  intro x hx
  unfold keysL at hx
  obtain ⟨y, _, rfl⟩ := List.mem_map.1 hx
  exact keyLitS _
theorem size_keys (l : List Wl.Wr) : Maps.size (setOf (H := Unit) (.agg []) (keysL l)) = ((keysL l).foldl addKey []).length := size_setOf _ _ (keysL_lit l)

set_option maxRecDepth 100000 in
set_option maxHeartbeats 2000000 in
theorem shareKey_any (w : World) (a : Option Addr) (c n : Nat) (l : List Wl.Wr) (h : WrsAt w (.slice a n c) l) (hn : n = l.length) (hl : n ≤ 64) (hk : ∀ x ∈ l, x.key.length ≤ 1000000) (S : Bool) (HS : Hid (S = Wl.shared l)) :
    Calls Tryz.prog 94 #[.slice a n c] w fun e w' => e = .returned (.bool S) ∧ Below w.heap.size w w' := by
  have H : Hid (WrsAt w (.slice a n c) l) := h
  have HN : Hid (n = l.length) := hn
  have HK : Hid (∀ x ∈ l, x.key.length ≤ 1000000) := hk
  have hmm := make_hint
  clear h hn hk
  go_enter Tryz.func94, Tryz.ntmps94
  go_wp2_with (fail)
  go_loopw [11] (fun i wr => Below w.heap.size w wr ∧ ∃ j : Nat, j ≤ n ∧ i = .int .i64 j ∧ wr.ownsMap Tryz.prog 9 (unitElem (H := Unit)) w.heap.size j (setOf (.agg []) (keysL (l.take j)))) (fun i _ => n - (intOf i).toNat)
  case atStart => exact ⟨(Below.refl _ _).alloc (Nat.le_refl _) _, 0, Nat.zero_le _, rfl, World.ownsMap_made _ _ _ _⟩
  case round =>
    obtain ⟨bx, j, hj, rfl, ho⟩ := hrel
    by_cases hlt : j < n
    · have jl : j < l.length := by have := HN.out; omega
      obtain ⟨b, off, rfl⟩ := H.out.some (by omega)
      obtain ⟨c0, c1, c2⟩ := (H.out.later bx).cells j jl
      have hk := HK.out l[j] (List.getElem_mem jl)
      have HT : Hid (setOf (H := Unit) (.agg []) (keysL (l.take (j + 1))) = (setOf (.agg []) (keysL (l.take j))).put (.string l[j].key) (.agg [])) := by
        show _ = _
        rw [← setOf_snoc]
        congr 1
        unfold keysL
        rw [List.take_succ_eq_append_getElem jl, List.map_append]
        rfl
      obtain ⟨x, hx⟩ : ∃ x, x = l[j] := ⟨_, rfl⟩
      rw [← hx] at c0 c1 c2 hk HT
      have hkey := keyS x.key hk
      obtain ⟨K, V, D⟩ := x
      simp only at c0 c1 c2 hk hkey
      have HO : Hid (wr.ownsMap Tryz.prog 9 (unitElem (H := Unit)) w.heap.size j (setOf (.agg []) (keysL (l.take j)))) := ho
      have jb : j < maxLen := by unfold maxLen; omega
      have HJ : Hid (j < maxLen) := jb
      clear hx H HS HN HK jl jb ho
      go_wp2_with (first
        | (at_mapUpdate; refine wpList_mapUpdate_own _ rfl _ _ _ 142 rfl 9 143 lawS Tryz.underlying142 (unitElem (H := Unit)) w.heap.size j _ rfl (by first | exact (HO.out.alloc _).alloc _ | exact HO.out.alloc _) HJ.out _ _ _ rfl rfl hkey _ [] unitElem_mk ?_; intro w1 ho1 hg1))
      rw [← HT.out] at ho1
      have b1 : Below w.heap.size w w1 := by
        first
        | exact ((bx.alloc bx.size _).grown hg1 (by simp; have := bx.size; omega) (fun k hk => by cases hk; exact Nat.le_refl _))
        | exact (((bx.alloc bx.size _).alloc (by simp; have := bx.size; omega) _).grown hg1 (by simp; have := bx.size; omega) (fun k hk => by cases hk; exact Nat.le_refl _))
      exact ⟨⟨b1, j + 1, by omega, rfl, ho1⟩, by simp [intOf]; omega⟩
    · have i3 : ¬ (j : Int) < (n : Int) := by omega
      have HF : Hid (S = decide (Maps.size (setOf (H := Unit) (.agg []) (keysL (l.take j))) < n)) := by
        show _ = _
        rw [HS.out, List.take_of_length_le (by have := HN.out; omega), size_keys, HN.out, keys_few]
      have HO : Hid (wr.ownsMap Tryz.prog 9 (unitElem (H := Unit)) w.heap.size j (setOf (.agg []) (keysL (l.take j)))) := ho
      generalize setOf (H := Unit) (.agg []) (keysL (l.take j)) = D at HO HF
      clear ho H HK HN HS hlt hj
      obtain ⟨z, hz⟩ : ∃ z, z = Maps.size D := ⟨_, rfl⟩
      by_cases hzn : z < n
      · have q1 : (z : Int) < (n : Int) := by omega
        have HF2 : Hid (S = true) := by show _ = _; rw [HF.out, ← hz]; exact decide_eq_true hzn
        rw [hz] at q1
        clear hz hzn HF
        go_wp2_with (first
          | (at_len; refine wpList_len_own _ rfl _ 142 rfl 9 143 Tryz.underlying142 _ w.heap.size j D rfl HO.out ?_))
        go_ret
        exact ⟨by rw [HF2.out]; rfl, bx⟩
      · have q1 : ¬ (z : Int) < (n : Int) := by omega
        have HF2 : Hid (S = false) := by show _ = _; rw [HF.out, ← hz]; exact decide_eq_false hzn
        rw [hz] at q1
        clear hz hzn HF
        go_wp2_with (first
          | (at_len; refine wpList_len_own _ rfl _ 142 rfl 9 143 Tryz.underlying142 _ w.heap.size j D rfl HO.out ?_))
        go_ret
        exact ⟨by rw [HF2.out]; rfl, bx⟩

set_option maxRecDepth 100000 in
set_option maxHeartbeats 2000000 in
theorem check_any (w : World) (a : Option Addr) (c n : Nat) (l : List Wl.Wr) (h : WrsAt w (.slice a n c) l) (hn : n = l.length) (hz : n ≤ 140737488355328) (hk : ∀ x ∈ l, x.key.length ≤ 1000000 ∧ x.value.length ≤ 1000000) (E : Int) (HE : Hid (E = Wl.checkE l)) :
    Calls Tryz.prog 81 #[.slice a n c] w fun e w' => e = .returned (.int .i64 E) ∧ Below w.heap.size w w' := by
  by_cases h0 : n = 0
  · have HF : Hid (E = 2) := by show _ = _; rw [HE.out]; unfold Wl.checkE; rw [if_pos (by omega)]
    have i1 : ((n : Int) == 0) = true := by simp; omega
    subst h0
    clear h hk hn
    go_enter Tryz.func81, Tryz.ntmps81
    go_wp2_with (fail)
    go_ret
    exact ⟨by rw [HF.out]; rfl, Below.refl _ _⟩
  · have i1 : ((n : Int) == 0) = false := by simp; omega
    by_cases h1 : n > 64
    · have HF : Hid (E = 3) := by show _ = _; rw [HE.out]; unfold Wl.checkE; rw [if_neg (by omega), if_pos (by omega)]
      have i2 : (n : Int) > 64 := by omega
      clear h hk hn h0 h1
      go_enter Tryz.func81, Tryz.ntmps81
      go_wp2_with (fail)
      go_ret
      exact ⟨by rw [HF.out]; rfl, Below.refl _ _⟩
    · have i2 : ¬ (n : Int) > 64 := by omega
      have AM := allMayBe_any w a c n l h hn (by omega) (fun x hx => ⟨by have := (hk x hx).1; omega, by have := (hk x hx).2; omega⟩) (l.all Wl.mayBe) rfl
      have SK : Hid (∀ wx, Below w.heap.size w wx → Calls Tryz.prog 94 #[.slice a n c] wx fun e w' => e = .returned (.bool (Wl.shared l)) ∧ Below wx.heap.size wx w') := fun wx hw => shareKey_any wx a c n l (h.later hw) hn (by omega) (fun x hx => (hk x hx).1) _ rfl
      cases hA : l.all Wl.mayBe with
      | false =>
        have HF : Hid (E = 2) := by show _ = _; rw [HE.out]; unfold Wl.checkE; rw [if_neg (by omega), if_neg (by omega), hA]; rfl
        rw [hA] at AM
        clear h hk hn h0 h1 SK hA
        go_enter Tryz.func81, Tryz.ntmps81
        go_wp2_with (first
          | (go_at_call 93; refine AM.mono ?_; rintro e w1 ⟨rfl, b1⟩))
        go_ret
        exact ⟨by rw [HF.out]; rfl, b1⟩
      | true =>
        rw [hA] at AM
        cases hS : Wl.shared l with
        | true =>
          have HF : Hid (E = 9) := by show _ = _; rw [HE.out]; unfold Wl.checkE; rw [if_neg (by omega), if_neg (by omega), hA, hS]; rfl
          rw [hS] at SK
          clear h hk hn h0 h1 hA hS
          go_enter Tryz.func81, Tryz.ntmps81
          go_wp2_with (first
            | (go_at_call 93; refine AM.mono ?_; rintro e w1 ⟨rfl, b1⟩)
            | (go_at_call 94; refine (SK.out _ b1).mono ?_; rintro e w2 ⟨rfl, b2⟩))
          go_ret
          exact ⟨by rw [HF.out]; rfl, b1.trans (b2.mono b1.size)⟩
        | false =>
          have HF : Hid (E = 0) := by show _ = _; rw [HE.out]; unfold Wl.checkE; rw [if_neg (by omega), if_neg (by omega), hA, hS]; rfl
          rw [hS] at SK
          clear h hk hn h0 h1 hA hS
          go_enter Tryz.func81, Tryz.ntmps81
          go_wp2_with (first
            | (go_at_call 93; refine AM.mono ?_; rintro e w1 ⟨rfl, b1⟩)
            | (go_at_call 94; refine (SK.out _ b1).mono ?_; rintro e w2 ⟨rfl, b2⟩))
          go_ret
          exact ⟨by rw [HF.out]; rfl, b1.trans (b2.mono b1.size)⟩
end Go.Proofs.YtolalicliojkfaaGreat
namespace Go.Proofs.YtolalicliojkfaaGreat
open Go.RowKit

abbrev entV (e : Mm.Ent) : Value := .agg #[str e.key, str e.value, .int .i64 e.seq, .bool e.del]
set_option maxHeartbeats 1600000 in
theorem ahead_any (w : World) (a b : Mm.Ent) : Calls Tryz.prog 48 #[entV a, entV b] w fun e w' => e = .returned (.bool (Mm.ahead a b)) ∧ Below w.heap.size w w' := by
  obtain ⟨k, v, s, d⟩ := a
  obtain ⟨k', v', s', d'⟩ := b
  unfold Mm.ahead entV
  simp only
  by_cases hk : k = k'
  · subst hk
    rw [if_pos rfl]
    by_cases hs : s' < s
    · have i1 : s > s' := hs
      rw [decide_eq_true hs]
      go_enter Tryz.func48, Tryz.ntmps48
      go_wp2_with (fail)
      go_ret
      exact ⟨rfl, ((Below.refl _ _).alloc (Nat.le_refl _) _).alloc (by simp) _⟩
    · have i1 : ¬ s > s' := hs
      rw [decide_eq_false hs]
      go_enter Tryz.func48, Tryz.ntmps48
      go_wp2_with (fail)
      go_ret
      exact ⟨rfl, ((Below.refl _ _).alloc (Nat.le_refl _) _).alloc (by simp) _⟩
  · rw [if_neg hk]
    have q : (!k == k') = true := by simp [hk]
    cases hB : Op.bytesLess k k' with
    | true =>
      go_enter Tryz.func48, Tryz.ntmps48
      go_wp2_with (fail)
      go_ret
      exact ⟨rfl, ((Below.refl _ _).alloc (Nat.le_refl _) _).alloc (by simp) _⟩
    | false =>
      go_enter Tryz.func48, Tryz.ntmps48
      go_wp2_with (fail)
      go_ret
      exact ⟨rfl, ((Below.refl _ _).alloc (Nat.le_refl _) _).alloc (by simp) _⟩
namespace Mm
/-- May an entry be? -/
def may (e : Ent) : Bool := decide (1 ≤ e.seq) && decide (e.seq ≤ 1073741824) && Wl.mayBe ⟨e.key, e.value, e.del⟩
def checkE (e : Ent) : Int := if may e then 0 else 2
end Mm

theorem wcheck_one (wx : World) (k v : Mm.Bs) (s : Int) (d : Bool) (h1 : 1 ≤ s) (h2 : s ≤ 1073741824) (hk : k.length ≤ 1000000) (hv : v.length ≤ 1000000) : Calls Tryz.prog 81 #[.slice (some ⟨wx.heap.size, 0, none⟩) 1 1] (wx.alloc (.cells #[str k, str v, .bool d] 102)) fun r w' => r = .returned (.int .i64 (Mm.checkE ⟨k, v, s, d⟩)) ∧ Below wx.heap.size wx w' := by
  have hb := World.alloc_heap_new wx (.cells #[str k, str v, .bool d] 102)
  have ha : WrsAt (wx.alloc (.cells #[str k, str v, .bool d] 102)) (.slice (some ⟨wx.heap.size, 0, none⟩) 1 1) [⟨k, v, d⟩] := ⟨⟨_, 1, rfl, fun _ => ⟨_, 0, rfl, fun j hj => by
    obtain rfl : j = 0 := by simpa using hj
    exact ⟨Joins.cell_of_block hb 0, Joins.cell_of_block hb 1, Joins.cell_of_block hb 2⟩⟩⟩⟩
  have hq : ∀ x ∈ [(⟨k, v, d⟩ : Wl.Wr)], x.key.length ≤ 1000000 ∧ x.value.length ≤ 1000000 := fun x hx => by
    obtain rfl : x = ⟨k, v, d⟩ := by simpa using hx
    exact ⟨hk, hv⟩
  have hE : Mm.checkE ⟨k, v, s, d⟩ = Wl.checkE [⟨k, v, d⟩] := by
    unfold Mm.checkE Mm.may Wl.checkE
    rw [decide_eq_true (p := 1 ≤ s) h1, decide_eq_true (p := s ≤ 1073741824) h2]
    simp [Wl.shared]
  refine (check_any _ _ 1 1 [⟨k, v, d⟩] ha rfl (by omega) hq _ hE).mono ?_
  rintro r w' ⟨rfl, b⟩
  exact ⟨rfl, ((Below.refl _ _).alloc (Nat.le_refl _) _).trans (b.mono (by simp))⟩

set_option maxRecDepth 10000 in
set_option maxHeartbeats 2000000 in
theorem mcheck_low (w : World) (k v : Mm.Bs) (s : Int) (d : Bool) (h1 : s < 1) : Calls Tryz.prog 52 #[.agg #[str k, str v, .int .i64 s, .bool d]] w fun r w' => r = .returned (.int .i64 2) ∧ Below w.heap.size w w' := by
  go_enter Tryz.func52, Tryz.ntmps52
  go_wp2_with (fail)
  go_ret
  exact ⟨rfl, (Below.refl _ _).alloc (Nat.le_refl _) _⟩
set_option maxRecDepth 10000 in
set_option maxHeartbeats 2000000 in
theorem mcheck_high (w : World) (k v : Mm.Bs) (s : Int) (d : Bool) (h1 : ¬ s < 1) (h2 : s > 1073741824) : Calls Tryz.prog 52 #[.agg #[str k, str v, .int .i64 s, .bool d]] w fun r w' => r = .returned (.int .i64 2) ∧ Below w.heap.size w w' := by
  go_enter Tryz.func52, Tryz.ntmps52
  go_wp2_with (fail)
  go_ret
  exact ⟨rfl, (Below.refl _ _).alloc (Nat.le_refl _) _⟩
set_option maxRecDepth 10000 in
set_option maxHeartbeats 2000000 in
theorem mcheck_mid (w : World) (k v : Mm.Bs) (s : Int) (d : Bool) (h1 : ¬ s < 1) (h2 : ¬ s > 1073741824) (E : Int)
    (CK : Hid (Calls Tryz.prog 81 #[.slice (some ⟨w.heap.size + 1, 0, none⟩) 1 1] ((w.alloc (.cells #[str k, str v, .int .i64 s, .bool d] 42)).alloc (.cells #[str k, str v, .bool d] 102)) fun r w' => r = .returned (.int .i64 E) ∧ Below (w.alloc (.cells #[str k, str v, .int .i64 s, .bool d] 42)).heap.size (w.alloc (.cells #[str k, str v, .int .i64 s, .bool d] 42)) w')) :
    Calls Tryz.prog 52 #[.agg #[str k, str v, .int .i64 s, .bool d]] w fun r w' => r = .returned (.int .i64 E) ∧ Below w.heap.size w w' := by
  go_enter Tryz.func52, Tryz.ntmps52
  go_wp2_with (first
    | (go_at_call 81; refine CK.out.mono ?_; rintro r w1 ⟨rfl, b1⟩))
  go_ret
  exact ⟨rfl, ((Below.refl _ _).alloc (Nat.le_refl _) _).trans (b1.mono (by simp))⟩
theorem mcheck_any (w : World) (e : Mm.Ent) (hk : e.key.length ≤ 1000000) (hv : e.value.length ≤ 1000000) : Calls Tryz.prog 52 #[entV e] w fun r w' => r = .returned (.int .i64 (Mm.checkE e)) ∧ Below w.heap.size w w' := by
  obtain ⟨k, v, s, d⟩ := e
  by_cases h1 : s < 1
  · have HE : Mm.checkE ⟨k, v, s, d⟩ = 2 := by unfold Mm.checkE Mm.may; rw [decide_eq_false (p := 1 ≤ s) (by omega)]; rfl
    rw [HE]
    exact mcheck_low w k v s d h1
  by_cases h2 : s > 1073741824
  · have HE : Mm.checkE ⟨k, v, s, d⟩ = 2 := by unfold Mm.checkE Mm.may; rw [decide_eq_false (p := s ≤ 1073741824) (by omega), Bool.and_false]; rfl
    rw [HE]
    exact mcheck_high w k v s d h1 h2
  have C := wcheck_one (w.alloc (.cells #[str k, str v, .int .i64 s, .bool d] 42)) k v s d (by omega) (by omega) hk hv
  have hz : (w.alloc (.cells #[str k, str v, .int .i64 s, .bool d] 42)).heap.size = w.heap.size + 1 := World.size_alloc ..
  generalize hE : Mm.checkE ⟨k, v, s, d⟩ = E at C ⊢
  refine mcheck_mid w k v s d h1 h2 E ?_
  show Calls _ _ _ _ _
  rw [← hz]
  exact C

/-- The cells of an entry. -/
def ec (x : Mm.Ent) : List Value := [str x.key, str x.value, .int .i64 x.seq, .bool x.del]
def ecs (l : List Mm.Ent) : List Value := l.flatMap ec
theorem ecs_length (l : List Mm.Ent) : (ecs l).length = l.length * 4 := by
  induction l with
  | nil => rfl
  | cons s r ih =>
    have : ecs (s :: r) = ec s ++ ecs r := rfl
    rw [this, List.length_append, ih, List.length_cons]
    show 4 + _ = _
    omega
theorem ecs_append (l m : List Mm.Ent) : ecs (l ++ m) = ecs l ++ ecs m := by simp [ecs]
theorem ecs_get (l : List Mm.Ent) (j : Nat) (h : j < l.length) : (ecs l)[j * 4]? = some (str l[j].key) ∧ (ecs l)[j * 4 + 1]? = some (str l[j].value) ∧ (ecs l)[j * 4 + 2]? = some (.int .i64 l[j].seq) ∧ (ecs l)[j * 4 + 3]? = some (.bool l[j].del) := by
  induction l generalizing j with
  | nil => simp at h
  | cons s r ih =>
    have e : ecs (s :: r) = str s.key :: str s.value :: .int .i64 s.seq :: .bool s.del :: ecs r := rfl
    cases j with
    | zero => rw [e]; exact ⟨rfl, rfl, rfl, rfl⟩
    | succ j =>
      have := ih j (by simpa using h)
      have e1 : (j + 1) * 4 = j * 4 + 1 + 1 + 1 + 1 := by omega
      rw [e, e1]
      exact this
theorem ecs_one (l : List Mm.Ent) : ∀ u ∈ ecs l, u.oneCell' = true := by
  intro u hu
  simp only [ecs, List.mem_flatMap, ec] at hu
  obtain ⟨x, _, hx⟩ := hu
  simp only [List.mem_cons, List.not_mem_nil, or_false] at hx
  rcases hx with rfl | rfl | rfl | rfl <;> rfl

/-- Entries, where they can be read. -/
structure EntsAt (w : World) (v : Value) (l : List Mm.Ent) : Prop where
  form : ∃ a cap, v = .slice a l.length cap ∧ (l ≠ [] → ∃ b off, a = some ⟨b, off, none⟩ ∧ ∀ j (h : j < l.length), w.cell? ⟨b, off + j * 4, none⟩ = some (str l[j].key) ∧ w.cell? ⟨b, off + j * 4 + 1, none⟩ = some (str l[j].value) ∧ w.cell? ⟨b, off + j * 4 + 2, none⟩ = some (.int .i64 l[j].seq) ∧ w.cell? ⟨b, off + j * 4 + 3, none⟩ = some (.bool l[j].del))
theorem EntsAt.later {w w' : World} {v : Value} {l : List Mm.Ent} (h : EntsAt w v l) (hb : Below w.heap.size w w') : EntsAt w' v l := by
  obtain ⟨⟨a, cap, e, hf⟩⟩ := h
  refine ⟨⟨a, cap, e, fun h0 => ?_⟩⟩
  obtain ⟨b, off, ha, hat⟩ := hf h0
  exact ⟨b, off, ha, fun j hj => ⟨keepC hb (hat j hj).1, keepC hb (hat j hj).2.1, keepC hb (hat j hj).2.2.1, keepC hb (hat j hj).2.2.2⟩⟩
theorem EntsAt.cells {w : World} {b off n cap : Nat} {l : List Mm.Ent} (h : EntsAt w (.slice (some ⟨b, off, none⟩) n cap) l) (j : Nat) (hj : j < l.length) :
    w.cell? ⟨b, off + j * 4, none⟩ = some (str l[j].key) ∧ w.cell? ⟨b, off + j * 4 + 1, none⟩ = some (str l[j].value) ∧ w.cell? ⟨b, off + j * 4 + 2, none⟩ = some (.int .i64 l[j].seq) ∧ w.cell? ⟨b, off + j * 4 + 3, none⟩ = some (.bool l[j].del) := by
  obtain ⟨⟨a, c, e, hf⟩⟩ := h
  obtain ⟨b', off', ha, hat⟩ := hf (fun h0 => by rw [h0] at hj; cases hj)
  cases e
  cases ha
  exact hat j hj
theorem EntsAt.some {w : World} {a : Option Addr} {n cap : Nat} {l : List Mm.Ent} (h : EntsAt w (.slice a n cap) l) (h0 : 0 < l.length) : ∃ b off, a = some ⟨b, off, none⟩ := by
  obtain ⟨⟨a', c', e, hf⟩⟩ := h
  obtain ⟨b, off, ha, _⟩ := hf (fun h1 => by rw [h1] at h0; cases h0)
  cases e
  exact ⟨b, off, ha⟩
theorem EntsAt.nil (w : World) (a : Option Addr) (c : Nat) : EntsAt w (.slice a 0 c) [] := ⟨⟨a, c, rfl, fun h => absurd rfl h⟩⟩
theorem EntsAt.own {w : World} {base : Nat} {v : Value} {l : List Mm.Ent} (h : w.ownsRow base 42 4 v l.length (ecs l)) : EntsAt w v l := by
  rcases h.2 with ⟨rfl, h0⟩ | ⟨g, cap, cur, rfl, _⟩
  · have : l = [] := List.eq_nil_of_length_eq_zero h0
    subst this
    exact EntsAt.nil _ _ _
  · refine ⟨⟨_, cap, rfl, fun _ => ⟨g, 0, rfl, fun j hj => ?_⟩⟩⟩
    obtain ⟨e0, e1, e2, e3⟩ := ecs_get l j hj
    rw [Nat.zero_add, h.cellAt (j * 4) (by omega), h.cellAt (j * 4 + 1) (by omega), h.cellAt (j * 4 + 2) (by omega), h.cellAt (j * 4 + 3) (by omega)]
    exact ⟨e0, e1, e2, e3⟩

set_option maxHeartbeats 1600000 in
theorem samee_some (w : World) (b off cap b2 off2 cap2 : Nat) (l : List Mm.Ent) (hv : EntsAt w (.slice (some ⟨b, off, none⟩) l.length cap) l) (hv2 : EntsAt w (.slice (some ⟨b2, off2, none⟩) l.length cap2) l) (hlen : l.length ≤ 1000000) :
    Calls Tryz.prog 37 #[.slice (some ⟨b, off, none⟩) l.length cap, .slice (some ⟨b2, off2, none⟩) l.length cap2] w fun e w' => e = .returned (.bool true) ∧ Below w.heap.size w w' := by
  go_enter Tryz.func37, Tryz.ntmps37
  go_wp2
  go_loopw [5] (fun i wr => ∃ j : Nat, j ≤ l.length ∧ i = .int .i64 j ∧ Below w.heap.size w wr) (fun i _ => l.length - (intOf i).toNat)
  case atStart => exact ⟨0, Nat.zero_le _, rfl, Below.refl _ _⟩
  case round =>
    obtain ⟨j, hj, rfl, hbel⟩ := hrel
    by_cases hlt : j < l.length
    · obtain ⟨d0, d1, d2, d3⟩ := (hv.later hbel).cells j hlt
      obtain ⟨e0, e1, e2, e3⟩ := (hv2.later hbel).cells j hlt
      generalize l[j] = c at d0 d1 d2 d3 e0 e1 e2 e3
      obtain ⟨ck, cv, cs, cd⟩ := c
      clear hv hv2
      go_wp2
      go_quiet (fail)
      go_wp2
      go_roundw
      case rel => exact ⟨j + 1, by omega, by go_num, below_drewN hbel _⟩
      case measure => simp [intOf]; omega
    · go_wp2
      go_ret
      exact ⟨rfl, hbel⟩
set_option maxHeartbeats 800000 in
theorem samee_none (w : World) (a a2 : Option Addr) (cap cap2 : Nat) :
    Calls Tryz.prog 37 #[.slice a 0 cap, .slice a2 0 cap2] w fun e w' => e = .returned (.bool true) ∧ w' = w := by
  go_enter Tryz.func37, Tryz.ntmps37
  go_wp2
  refine wp_loop_rounds 1 ?_
  rw [rounds_succ]
  go_wp2
  go_ret
  exact ⟨rfl, rfl⟩
theorem samee_any (w : World) (v v2 : Value) (l : List Mm.Ent) (h : EntsAt w v l) (h2 : EntsAt w v2 l) (hlen : l.length ≤ 1000000) :
    Calls Tryz.prog 37 #[v, v2] w fun e w' => e = .returned (.bool true) ∧ Below w.heap.size w w' := by
  have h' := h
  have h2' := h2
  obtain ⟨⟨a, cap, rfl, hf⟩⟩ := h'
  obtain ⟨⟨a2, cap2, rfl, hf2⟩⟩ := h2'
  by_cases h0 : l = []
  · subst h0
    refine (samee_none w a a2 cap cap2).mono ?_
    rintro e w' ⟨rfl, rfl⟩
    exact ⟨rfl, Below.refl _ _⟩
  · obtain ⟨b, off, rfl, _⟩ := hf h0
    obtain ⟨b2, off2, rfl, _⟩ := hf2 h0
    exact samee_some w b off cap b2 off2 cap2 l h h2 hlen
end Go.Proofs.YtolalicliojkfaaGreat
