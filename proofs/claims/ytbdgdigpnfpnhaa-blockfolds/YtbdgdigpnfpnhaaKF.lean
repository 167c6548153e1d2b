/-
  Whether a list of writes may be: the inner calls and Check. .. and what follows from it.
-/
import Derived.Test.YtbdgdigpnfpnhaaKA
import Derived.Maps.OwnSet
import Derived.Maps.AppendAt
namespace Go.Proofs.Ytbdgdigpnfpnhaa.Q
open Go.RowKit Go.Maps

theorem all_take {l : List Wl.Wr} {j : Nat} (h : j < l.length) (ht : (l.take j).all Wl.mayBe = true) : (l.take (j + 1)).all Wl.mayBe = Wl.mayBe l[j] := by
  rw [List.take_succ_eq_append_getElem h, List.all_append, ht]
  simp
theorem all_no {l : List Wl.Wr} {j : Nat} (h : j < l.length) (hf : Wl.mayBe l[j] = false) : l.all Wl.mayBe = false := by
  rw [List.all_eq_false]
  exact ⟨l[j], List.getElem_mem h, by rw [hf]; simp⟩

set_option maxRecDepth 100000 in
set_option maxHeartbeats 2000000 in
theorem allMayBe_any (w : World) (a : Option Addr) (c n : Nat) (l : List Wl.Wr) (h : WrsAt w (.slice a n c) l) (hn : n = l.length) (hl : n ≤ 64) (hk : ∀ x ∈ l, x.key.length ≤ 1000000000 ∧ x.value.length ≤ 1000000000) (S : Bool) (HS : Hid (S = l.all Wl.mayBe)) :
    Calls Try.prog 70 #[.slice a n c] w fun e w' => e = .returned (.bool S) ∧ Below w.heap.size w w' := by
  have H : Hid _ := h
  have HN : Hid (n = l.length) := hn
  have HK : Hid (∀ x ∈ l, x.key.length ≤ 1000000000 ∧ x.value.length ≤ 1000000000) := hk
  clear h hn hk
  go_enter Try.func70, Try.ntmps70
  go_wp2_with (fail)
  go_loopw [7] (fun i wr => Below w.heap.size w wr ∧ ∃ j : Nat, j ≤ n ∧ i = .int .i64 j ∧ Hid ((l.take j).all Wl.mayBe = true)) (fun i _ => n - (intOf i).toNat)
  case atStart => exact ⟨Below.refl _ _, 0, Nat.zero_le _, rfl, by show _ = _; simp⟩
  case round =>
    obtain ⟨bx, j, hj, rfl, HT⟩ := hrel
    by_cases hlt : j < n
    · have jl : j < l.length := by have := HN.out; omega
      obtain ⟨b, off, rfl⟩ := H.out.some (by omega)
      obtain ⟨c0, c1, c2⟩ := (H.out.later bx).cells j jl
      have hk := HK.out l[j] (List.getElem_mem jl)
      obtain ⟨x, hx⟩ : ∃ x, x = l[j] := ⟨_, rfl⟩
      rw [← hx] at c0 c1 c2 hk
      have FT : Hid ((l.take (j + 1)).all Wl.mayBe = Wl.mayBe x) := by show _ = _; rw [hx]; exact all_take jl HT.out
      have FN : Hid (Wl.mayBe x = false → S = false) := fun hf => by rw [HS.out]; exact all_no jl (by rw [← hx]; exact hf)
      clear hx H HS HT HN HK jl
      obtain ⟨K, V, D⟩ := x
      obtain ⟨hK, hV⟩ := hk
      simp only at c0 c1 c2 hK hV
      match K with
      | [] =>
        have HF : Hid (S = false) := FN.out rfl
        clear FN FT
        go_wp2_with (fail)
        go_ret
        exact ⟨by rw [HF.out]; rfl, bx.alloc bx.size _⟩
      | k0 :: K =>
        by_cases g0 : ((k0 :: K).length : Int) > 512
        · have HF : Hid (S = false) := FN.out (by simp only [Wl.mayBe]; rw [decide_eq_false (p := (k0 :: K).length ≤ 512) (by omega)]; simp)
          rw [List.length_cons] at g0 hK
          clear FN FT
          go_wp2_with (fail)
          go_ret
          exact ⟨by rw [HF.out]; rfl, bx.alloc bx.size _⟩
        by_cases g1 : (V.length : Int) > 4096
        · have HF : Hid (S = false) := FN.out (by simp only [Wl.mayBe]; rw [decide_eq_false (p := V.length ≤ 4096) (by omega)]; simp)
          rw [List.length_cons] at g0 hK
          clear FN FT
          go_wp2_with (fail)
          go_ret
          exact ⟨by rw [HF.out]; rfl, bx.alloc bx.size _⟩
        cases D with
        | false =>
          have HF : Hid ((l.take (j + 1)).all Wl.mayBe = true) := by
            show _ = _
            rw [FT.out]
            simp only [Wl.mayBe]
            rw [decide_eq_true (p := (k0 :: K).length ≤ 512) (by omega), decide_eq_true (p := V.length ≤ 4096) (by omega)]
            simp
          rw [List.length_cons] at g0 hK
          clear FN FT
          go_wp2_with (fail)
          exact ⟨⟨bx.alloc bx.size _, j + 1, by omega, rfl, HF⟩, by simp [intOf]; omega⟩
        | true =>
          match V with
          | [] =>
            have HF : Hid ((l.take (j + 1)).all Wl.mayBe = true) := by
              show _ = _
              rw [FT.out]
              simp only [Wl.mayBe]
              rw [decide_eq_true (p := (k0 :: K).length ≤ 512) (by omega)]
              simp
            rw [List.length_cons] at g0 hK
            clear FN FT
            go_wp2_with (fail)
            exact ⟨⟨bx.alloc bx.size _, j + 1, by omega, rfl, HF⟩, by simp [intOf]; omega⟩
          | v0 :: V =>
            have HF : Hid (S = false) := FN.out (by simp [Wl.mayBe])
            rw [List.length_cons] at g0 hK g1 hV
            clear FN FT
            go_wp2_with (fail)
            go_ret
            exact ⟨by rw [HF.out]; rfl, bx.alloc bx.size _⟩
    · have i3 : ¬ (j : Int) < (n : Int) := by omega
      have HF : Hid (S = true) := by
        show _ = _
        rw [HS.out]
        have := HT.out
        rw [List.take_of_length_le (by have := HN.out; omega)] at this
        exact this
      clear HT H HK HN HS
      go_wp2_with (fail)
      go_ret
      exact ⟨by rw [HF.out]; rfl, bx⟩
end Go.Proofs.Ytbdgdigpnfpnhaa.Q
namespace Go.Proofs.Ytbdgdigpnfpnhaa.Q
open Go.RowKit Go.Maps

/-- The keys of writes. -/
def keysL (l : List Wl.Wr) : List Lit := l.map fun x => .string x.key
theorem make_hint (n : Nat) (w : World) : (Instr.makeMap 125 (some (.int .i64 (n : Int)))).run Try.prog w = .ok (.map (some w.heap.size)) (w.alloc (.map #[] 0)) := by
  simp [Instr.makeMap, run_underlying Try.underlying125, asInt, asIntOf, Result.andThen]

theorem same_string (a b : Wl.Bs) : (Lit.string a).sameKey (.string b) = decide (a = b) := by
  show (a == b) = _
  by_cases h : a = b
  · simp [h]
  · simp [h]
def dup : List Wl.Bs → List Wl.Wr → Bool
  | _, [] => false
  | acc, x :: r => acc.any (fun y => decide (y = x.key)) || dup (acc ++ [x.key]) r
theorem fold_le (l : List Wl.Wr) : ∀ acc : List Lit, ((keysL l).foldl addKey acc).length ≤ acc.length + l.length := by
  induction l with
  | nil => intro acc; exact Nat.le_refl _
  | cons x r ih =>
    intro acc
    show ((keysL r).foldl addKey (addKey acc (.string x.key))).length ≤ _
    have := ih (addKey acc (.string x.key))
    have h2 : (addKey acc (.string x.key)).length ≤ acc.length + 1 := by
      unfold addKey
      split
      · omega
      · simp
    rw [List.length_cons]
    omega
theorem fold_dup (l : List Wl.Wr) : ∀ acc : List Wl.Bs, decide (((keysL l).foldl addKey (acc.map Lit.string)).length < acc.length + l.length) = dup acc l := by
  induction l with
  | nil => intro acc; simp [keysL, dup]
  | cons x r ih =>
    intro acc
    show decide (((keysL r).foldl addKey (addKey (acc.map Lit.string) (.string x.key))).length < _) = _
    have ha : (acc.map Lit.string).any (fun y => y.sameKey (.string x.key)) = acc.any (fun y => decide (y = x.key)) := by
      rw [List.any_map]
      congr 1
      funext y
      exact same_string y x.key
    have hadd : addKey (acc.map Lit.string) (.string x.key) = if acc.any (fun y => decide (y = x.key)) = true then acc.map Lit.string else acc.map Lit.string ++ [.string x.key] := by
      unfold addKey
      rw [ha]
    rw [hadd]
    cases hc : acc.any (fun y => decide (y = x.key)) with
    | true =>
      rw [if_pos rfl]
      have := fold_le r (acc.map Lit.string)
      rw [List.length_map] at this
      rw [dup, hc, Bool.true_or]
      refine decide_eq_true ?_
      rw [List.length_cons]
      omega
    | false =>
      rw [if_neg (by simp)]
      have e : acc.map Lit.string ++ [Lit.string x.key] = (acc ++ [x.key]).map Lit.string := by simp
      have := ih (acc ++ [x.key])
      rw [e, dup, hc, Bool.false_or, ← this, List.length_append, List.length_cons, List.length_singleton]
      congr 2
      omega
theorem any_more (r : List Wl.Wr) (acc : List Wl.Bs) (k : Wl.Bs) : r.any (fun z => (acc ++ [k]).any (fun y => decide (y = z.key))) = (r.any (fun z => acc.any (fun y => decide (y = z.key))) || r.any (fun z => decide (z.key = k))) := by
  induction r with
  | nil => rfl
  | cons z t ih =>
    rw [List.any_cons, List.any_cons, List.any_cons, ih, List.any_append]
    simp only [List.any_cons, List.any_nil, Bool.or_false]
    rw [show decide (k = z.key) = decide (z.key = k) from by simp [eq_comm]]
    cases acc.any (fun y => decide (y = z.key)) <;> cases decide (z.key = k) <;> simp
theorem dup_shared (l : List Wl.Wr) : ∀ acc : List Wl.Bs, dup acc l = (l.any (fun x => acc.any (fun y => decide (y = x.key))) || Wl.shared l) := by
  induction l with
  | nil => intro acc; rfl
  | cons x r ih =>
    intro acc
    rw [dup, ih, Wl.shared, List.any_cons]
    have e := any_more r acc x.key
    rw [e]
    cases acc.any (fun y => decide (y = x.key)) <;> cases r.any (fun z => acc.any (fun y => decide (y = z.key))) <;> cases r.any (fun z => decide (z.key = x.key)) <;> simp
theorem keys_few (l : List Wl.Wr) : decide (((keysL l).foldl addKey []).length < l.length) = Wl.shared l := by
  have h := fold_dup l []
  rw [List.map_nil, List.length_nil, Nat.zero_add, dup_shared] at h
  rw [h]
  simp

theorem keysL_lit (l : List Wl.Wr) : ∀ x ∈ keysL l, WideAt.IsKeyLit x := by
  intro x hx
  unfold keysL at hx
  obtain ⟨y, _, rfl⟩ := List.mem_map.1 hx
  exact keyLitS _
theorem size_keys (l : List Wl.Wr) : Maps.size (setOf (H := Unit) (.agg []) (keysL l)) = ((keysL l).foldl addKey []).length := size_setOf _ _ (keysL_lit l)

set_option maxRecDepth 100000 in
set_option maxHeartbeats 2000000 in
theorem shareKey_any (w : World) (a : Option Addr) (c n : Nat) (l : List Wl.Wr) (h : WrsAt w (.slice a n c) l) (hn : n = l.length) (hl : n ≤ 64) (hk : ∀ x ∈ l, x.key.length ≤ 1000000) (S : Bool) (HS : Hid (S = Wl.shared l)) :
    Calls Try.prog 71 #[.slice a n c] w fun e w' => e = .returned (.bool S) ∧ Below w.heap.size w w' := by
  have H : Hid (WrsAt w (.slice a n c) l) := h
  have HN : Hid (n = l.length) := hn
  have HK : Hid (∀ x ∈ l, x.key.length ≤ 1000000) := hk
  have hmm := make_hint
  clear h hn hk
  go_enter Try.func71, Try.ntmps71
  go_wp2_with (fail)
  go_loopw [11] (fun i wr => Below w.heap.size w wr ∧ ∃ j : Nat, j ≤ n ∧ i = .int .i64 j ∧ wr.ownsMap Try.prog 9 (unitElem (H := Unit)) w.heap.size j (setOf (.agg []) (keysL (l.take j)))) (fun i _ => n - (intOf i).toNat)
  case atStart => exact ⟨(Below.refl _ _).alloc (Nat.le_refl _) _, 0, Nat.zero_le _, rfl, World.ownsMap_made _ _ _ _⟩
  case round =>
    obtain ⟨bx, j, hj, rfl, ho⟩ := hrel
    by_cases hlt : j < n
    · have jl : j < l.length := by have := HN.out; omega
      obtain ⟨b, off, rfl⟩ := H.out.some (by omega)
      obtain ⟨c0, c1, c2⟩ := (H.out.later bx).cells j jl
      have hk := HK.out l[j] (List.getElem_mem jl)
      have HT : Hid (setOf (H := Unit) (.agg []) (keysL (l.take (j + 1))) = (setOf (.agg []) (keysL (l.take j))).put (.string l[j].key) (.agg [])) := by
        show _ = _
        rw [← setOf_snoc]
        congr 1
        unfold keysL
        rw [List.take_succ_eq_append_getElem jl, List.map_append]
        rfl
      obtain ⟨x, hx⟩ : ∃ x, x = l[j] := ⟨_, rfl⟩
      rw [← hx] at c0 c1 c2 hk HT
      have hkey := keyS x.key hk
      obtain ⟨K, V, D⟩ := x
      simp only at c0 c1 c2 hk hkey
      have HO : Hid (wr.ownsMap Try.prog 9 (unitElem (H := Unit)) w.heap.size j (setOf (.agg []) (keysL (l.take j)))) := ho
      have jb : j < maxLen := by unfold maxLen; omega
      have HJ : Hid (j < maxLen) := jb
      clear hx H HS HN HK jl jb ho
      go_wp2_with (first
        | (at_mapUpdate; refine wpList_mapUpdate_own _ rfl _ _ _ 125 rfl 9 126 lawS Try.underlying125 (unitElem (H := Unit)) w.heap.size j _ rfl (by first | exact (HO.out.alloc _).alloc _ | exact HO.out.alloc _) HJ.out _ _ _ rfl rfl hkey _ [] unitElem_mk ?_; intro w1 ho1 hg1))
      rw [← HT.out] at ho1
      have b1 : Below w.heap.size w w1 := by
        first
        | exact ((bx.alloc bx.size _).grown hg1 (by simp; have := bx.size; omega) (fun k hk => by cases hk; exact Nat.le_refl _))
        | exact (((bx.alloc bx.size _).alloc (by simp; have := bx.size; omega) _).grown hg1 (by simp; have := bx.size; omega) (fun k hk => by cases hk; exact Nat.le_refl _))
      exact ⟨⟨b1, j + 1, by omega, rfl, ho1⟩, by simp [intOf]; omega⟩
    · have i3 : ¬ (j : Int) < (n : Int) := by omega
      have HF : Hid (S = decide (Maps.size (setOf (H := Unit) (.agg []) (keysL (l.take j))) < n)) := by
        show _ = _
        rw [HS.out, List.take_of_length_le (by have := HN.out; omega), size_keys, HN.out, keys_few]
      have HO : Hid (wr.ownsMap Try.prog 9 (unitElem (H := Unit)) w.heap.size j (setOf (.agg []) (keysL (l.take j)))) := ho
      generalize setOf (H := Unit) (.agg []) (keysL (l.take j)) = D at HO HF
      clear ho H HK HN HS hlt hj
      obtain ⟨z, hz⟩ : ∃ z, z = Maps.size D := ⟨_, rfl⟩
      by_cases hzn : z < n
      · have q1 : (z : Int) < (n : Int) := by omega
        have HF2 : Hid (S = true) := by show _ = _; rw [HF.out, ← hz]; exact decide_eq_true hzn
        rw [hz] at q1
        clear hz hzn HF
        go_wp2_with (first
          | (at_len; refine wpList_len_own _ rfl _ 125 rfl 9 126 Try.underlying125 _ w.heap.size j D rfl HO.out ?_))
        go_ret
        exact ⟨by rw [HF2.out]; rfl, bx⟩
      · have q1 : ¬ (z : Int) < (n : Int) := by omega
        have HF2 : Hid (S = false) := by show _ = _; rw [HF.out, ← hz]; exact decide_eq_false hzn
        rw [hz] at q1
        clear hz hzn HF
        go_wp2_with (first
          | (at_len; refine wpList_len_own _ rfl _ 125 rfl 9 126 Try.underlying125 _ w.heap.size j D rfl HO.out ?_))
        go_ret
        exact ⟨by rw [HF2.out]; rfl, bx⟩

set_option maxRecDepth 100000 in
set_option maxHeartbeats 2000000 in
theorem check_any (w : World) (a : Option Addr) (c n : Nat) (l : List Wl.Wr) (h : WrsAt w (.slice a n c) l) (hn : n = l.length) (hz : n ≤ 140737488355328) (hk : ∀ x ∈ l, x.key.length ≤ 1000000 ∧ x.value.length ≤ 1000000) (E : Int) (HE : Hid (E = Wl.checkE l)) :
    Calls Try.prog 37 #[.slice a n c] w fun e w' => e = .returned (.int .i64 E) ∧ Below w.heap.size w w' := by
  by_cases h0 : n = 0
  · have HF : Hid (E = 2) := by show _ = _; rw [HE.out]; unfold Wl.checkE; rw [if_pos (by omega)]
    have i1 : ((n : Int) == 0) = true := by simp; omega
    subst h0
    clear h hk hn
    go_enter Try.func37, Try.ntmps37
    go_wp2_with (fail)
    go_ret
    exact ⟨by rw [HF.out]; rfl, Below.refl _ _⟩
  · have i1 : ((n : Int) == 0) = false := by simp; omega
    by_cases h1 : n > 64
    · have HF : Hid (E = 3) := by show _ = _; rw [HE.out]; unfold Wl.checkE; rw [if_neg (by omega), if_pos (by omega)]
      have i2 : (n : Int) > 64 := by omega
      clear h hk hn h0 h1
      go_enter Try.func37, Try.ntmps37
      go_wp2_with (fail)
      go_ret
      exact ⟨by rw [HF.out]; rfl, Below.refl _ _⟩
    · have i2 : ¬ (n : Int) > 64 := by omega
      have AM := allMayBe_any w a c n l h hn (by omega) (fun x hx => ⟨by have := (hk x hx).1; omega, by have := (hk x hx).2; omega⟩) (l.all Wl.mayBe) rfl
      have SK : Hid (∀ wx, Below w.heap.size w wx → Calls Try.prog 71 #[.slice a n c] wx fun e w' => e = .returned (.bool (Wl.shared l)) ∧ Below wx.heap.size wx w') := fun wx hw => shareKey_any wx a c n l (h.later hw) hn (by omega) (fun x hx => (hk x hx).1) _ rfl
      cases hA : l.all Wl.mayBe with
      | false =>
        have HF : Hid (E = 2) := by show _ = _; rw [HE.out]; unfold Wl.checkE; rw [if_neg (by omega), if_neg (by omega), hA]; rfl
        rw [hA] at AM
        clear h hk hn h0 h1 SK hA
        go_enter Try.func37, Try.ntmps37
        go_wp2_with (first
          | (go_at_call 70; refine AM.mono ?_; rintro e w1 ⟨rfl, b1⟩))
        go_ret
        exact ⟨by rw [HF.out]; rfl, b1⟩
      | true =>
        rw [hA] at AM
        cases hS : Wl.shared l with
        | true =>
          have HF : Hid (E = 9) := by show _ = _; rw [HE.out]; unfold Wl.checkE; rw [if_neg (by omega), if_neg (by omega), hA, hS]; rfl
          rw [hS] at SK
          clear h hk hn h0 h1 hA hS
          go_enter Try.func37, Try.ntmps37
          go_wp2_with (first
            | (go_at_call 70; refine AM.mono ?_; rintro e w1 ⟨rfl, b1⟩)
            | (go_at_call 71; refine (SK.out _ b1).mono ?_; rintro e w2 ⟨rfl, b2⟩))
          go_ret
          exact ⟨by rw [HF.out]; rfl, b1.trans (b2.mono b1.size)⟩
        | false =>
          have HF : Hid (E = 0) := by show _ = _; rw [HE.out]; unfold Wl.checkE; rw [if_neg (by omega), if_neg (by omega), hA, hS]; rfl
          rw [hS] at SK
          clear h hk hn h0 h1 hA hS
          go_enter Try.func37, Try.ntmps37
          go_wp2_with (first
            | (go_at_call 70; refine AM.mono ?_; rintro e w1 ⟨rfl, b1⟩)
            | (go_at_call 71; refine (SK.out _ b1).mono ?_; rintro e w2 ⟨rfl, b2⟩))
          go_ret
          exact ⟨by rw [HF.out]; rfl, b1.trans (b2.mono b1.size)⟩
end Go.Proofs.Ytbdgdigpnfpnhaa.Q
