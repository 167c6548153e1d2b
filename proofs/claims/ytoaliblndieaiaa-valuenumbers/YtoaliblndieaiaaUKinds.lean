/-
  What kinds promise, values keep: the plain fact, and the law's walk.
-/
import Derived.Test.YtoaliblndieaiaaULaw
namespace Go.Proofs.Ytoaliblndieaiaa
open Go.RowKit
attribute [local go_sem ↓] Go.wp_at_zero Go.wp_at_succ

/-- A result that keeps what its kind promises. -/
def keeps (k : Int) (R : Val × Int) : Prop := (R.2 = 0 ∧ R.1.may = true ∧ (R.1.k = k ∨ R.1.k = 0)) ∨ ((R.2 = 221 ∨ R.2 = 222 ∨ R.2 = 3) ∧ R.1 = nullV)

theorem keeps_null (k : Int) : keeps k (nullV, 0) := .inl ⟨rfl, by decide +kernel, .inr rfl⟩
theorem keeps_tv (b : Bool) : keeps 1 (tv b, 0) := .inl ⟨rfl, by cases b <;> decide +kernel, .inl rfl⟩
theorem may_num (n : Int) : (numV n).may = true := by simp [Val.may, mayV, numV]
theorem keeps_fit (n : Int) : keeps 2 (fitR n) := by
  unfold fitR; split
  · exact .inl ⟨rfl, may_num n, .inl rfl⟩
  · exact .inr ⟨.inl rfl, rfl⟩
theorem keeps_div (a b : Int) : keeps 2 (divR a b) := by
  unfold divR; split
  · exact .inr ⟨.inr (.inl rfl), rfl⟩
  · exact keeps_fit _
theorem keeps_mod (a b : Int) : keeps 2 (modR a b) := by
  unfold modR; split
  · exact .inr ⟨.inr (.inl rfl), rfl⟩
  · exact .inl ⟨rfl, may_num _, .inl rfl⟩
theorem keeps_join (a b : ByteArray) : keeps 3 (joinR a b) := by
  unfold joinR; split
  · next h =>
    refine .inl ⟨rfl, ?_, .inl rfl⟩
    simp [Val.may, mayV, ByteArray.size_append, h]
  · exact .inr ⟨.inr (.inr rfl), rfl⟩
theorem keeps_dec (d : Bool) (l : List Val) : keeps 1 (decL d l, 0) := by
  unfold decL; split
  · exact keeps_tv _
  · split
    · exact keeps_null _
    · exact keeps_tv _

theorem keeps_makes (op : Int) (l : List Val) : keeps (answK op) (makesR op l) := by
  unfold makesR
  by_cases h19 : op = 19
  · subst h19; exact keeps_tv _
  rw [if_neg h19]
  by_cases h20 : op = 20
  · subst h20; exact keeps_tv _
  rw [if_neg h20]
  by_cases h15 : op = 15
  · subst h15; exact keeps_dec _ _
  rw [if_neg h15]
  by_cases h16 : op = 16
  · subst h16; exact keeps_dec _ _
  rw [if_neg h16]
  split
  · exact keeps_null _
  by_cases h17 : op = 17
  · subst h17; exact keeps_tv _
  rw [if_neg h17]
  by_cases h18 : op = 18
  · subst h18; exact keeps_fit _
  rw [if_neg h18]
  unfold twoR
  by_cases h3 : op = 3
  · subst h3; exact keeps_fit _
  rw [if_neg h3]
  by_cases h4 : op = 4
  · subst h4; exact keeps_fit _
  rw [if_neg h4]
  by_cases h5 : op = 5
  · subst h5; exact keeps_fit _
  rw [if_neg h5]
  by_cases h6 : op = 6
  · subst h6; exact keeps_div _ _
  rw [if_neg h6]
  by_cases h7 : op = 7
  · subst h7; exact keeps_mod _ _
  rw [if_neg h7]
  by_cases h8 : op = 8
  · subst h8; exact keeps_join _ _
  rw [if_neg h8]
  have e : answK op = 1 := by
    have h1 : numOp op = false := by unfold numOp; simp; omega
    unfold answK
    rw [h1, if_neg (by simp), if_neg h8]
  rw [e]
  exact keeps_tv _

theorem ref_all {op : Int} {l : List Val} (h : l.all Val.may = true) : refE op l = givesE op (l.map Val.k) := by
  unfold refE
  rw [h, Bool.and_true]
  by_cases j : justB op l.length = true
  · rw [if_pos j]
  · rw [if_neg j]
    unfold givesE
    rw [List.length_map, if_neg (by simp [j])]

/-- What Do answers beside Gives. -/
theorem do_gives {op : Int} {l : List Val} (h : l.all Val.may = true) :
    (¬ givesE op (l.map Val.k) = 0 ∧ doR op l = (nullV, givesE op (l.map Val.k))) ∨ (givesE op (l.map Val.k) = 0 ∧ keeps (givesK op (l.map Val.k)) (doR op l)) := by
  unfold doR
  rw [ref_all h]
  by_cases e : givesE op (l.map Val.k) = 0
  · refine .inr ⟨e, ?_⟩
    rw [if_pos e]
    unfold givesK
    rw [if_pos e]
    exact keeps_makes op l
  · exact .inl ⟨e, by rw [if_neg e]⟩

theorem do_not_may {op : Int} {l : List Val} (h : l.all Val.may = false) : doR op l = (nullV, 2) := by
  have e : refE op l = 2 := by unfold refE; rw [h, Bool.and_false]; rfl
  unfold doR
  rw [e]; rfl

/-- The ways in which the law goes on behind Do and Gives. -/
theorem kind_ways {op : Int} {l : List Val} (h : l.all Val.may = true) {R : Val × Int} (hR : R = doR op l) {k f : Int} (hk : k = givesK op (l.map Val.k)) (hf : f = givesE op (l.map Val.k)) :
    ((f != 0) = true ∧ R = (nullV, f)) ∨ (f = 0 ∧ (R = (nullV, 221) ∨ R = (nullV, 222) ∨ R = (nullV, 3))) ∨ (f = 0 ∧ R.2 = 0 ∧ mayV R.1.k R.1.n R.1.t = true ∧ ((R.1.k == k) = true ∨ ((R.1.k == k) = false ∧ R.1.k = 0))) := by
  rcases do_gives (op := op) h with ⟨a, b⟩ | ⟨a, b⟩
  · refine .inl ⟨by rw [hf]; simpa using a, by rw [hR, b, hf]⟩
  · rw [← hR, ← hk] at b
    rcases b with ⟨b1, b2, b3⟩ | ⟨b1, b2⟩
    · refine .inr (.inr ⟨by rw [hf, a], b1, b2, ?_⟩)
      by_cases c : R.1.k = k
      · exact .inl (by simpa using c)
      · refine .inr ⟨by simpa using c, ?_⟩
        rcases b3 with d | d
        · exact absurd d c
        · exact d
    · refine .inr (.inl ⟨by rw [hf, a], ?_⟩)
      obtain ⟨R1, R2⟩ := R
      simp only at b1 b2
      subst b2
      rcases b1 with rfl | rfl | rfl
      · exact .inl rfl
      · exact .inr (.inl rfl)
      · exact .inr (.inr rfl)

theorem may_len {k n : Int} {t : ByteArray} (h : mayV k n t = true) : t.size ≤ maxLen := by
  have := may_size (v := ⟨k, n, t⟩) h
  unfold maxLen
  simp only at this
  omega

set_option maxHeartbeats 3200000 in
theorem kinds_walk (w : World) (op : Int) (v : Value) (l : List Val) (h : ValsIn w v l) :
    Calls Try.prog 6 #[.int .u8 op, v] w fun e w' => e = .returned (.bool true) ∧ Below w.heap.size w w' := by
  have LV : Hid (∀ wx : World, Calls Try.prog 7 #[] wx fun e w' => e = .returned (.bool true) ∧ Below wx.heap.size wx w') := fun wx => lives_any wx
  have hh := h
  obtain ⟨⟨a, cap, rfl, hf⟩, hwf, hlen⟩ := h
  by_cases h5 : l.length ≤ 5
  · have HL : Hid (l ≠ [] → ∃ b off, a = some ⟨b, off, none⟩ ∧ ValsAt w b off l) := hf
    have HW : Hid (∀ v ∈ l, v.wf) := hwf
    obtain ⟨R, hR⟩ : ∃ R, R = doR op l := ⟨_, rfl⟩
    have CD : Hid (∀ wx, Below w.heap.size w wx → Calls Try.prog 9 #[.int .u8 op, .slice a l.length cap] wx fun e w' => e = .returned (tupR R) ∧ Below wx.heap.size wx w') := fun wx hb => by rw [hR]; exact do_any wx op _ l (hh.later hb)
    have HR := hide hR
    clear hf hwf hh hR
    have g5 : ¬ (5 : Int) < (l.length : Int) := by omega
    obtain ⟨i0, hi, hz0, hz1, hz2⟩ := info_parts kindInfo
    go_enter Try.func6, Try.ntmps6
    go_wp2_with (go_at_call 7; refine (LV.out _).mono ?_; rintro e w1 ⟨rfl, hb1⟩)
    go_loopw [5, 6, 7, 8] (fun kv i _ _ wr => ∃ j : Nat, j ≤ l.length ∧ i = .int .i64 j ∧ KindsOwn w.heap.size w wr kv ((l.map Val.k).take j) ∧ (l.take j).all Val.may = true) (fun _ i _ _ _ => l.length - (intOf i).toNat)
    case atStart => exact ⟨0, Nat.zero_le _, rfl, ⟨World.ownsRow_nil _ _ _ _, hb1⟩, by simp⟩
    case round =>
      obtain ⟨j, hj, rfl, hko, hall⟩ := hrel
      have HA := hide hall
      have hbel := hko.bel
      have hs := hbel.size
      clear hall hb1
      by_cases hlt : j < l.length
      · obtain ⟨b, off, rfl, hv⟩ := HL.out (by intro e; rw [e] at hlt; simp at hlt)
        obtain ⟨c0, c1, c2⟩ := (hv.later hbel) j hlt
        have lbw : b < wr.heap.size := World.block_lt_of_cell? wr _ c0
        have hw1 := (HW.out _ (List.getElem_mem hlt)).t1
        have HT := hide (take_kinds l j hlt)
        have HM : Hid ((l.take (j + 1)).all Val.may = (l[j]).may) := by
          show _ = _
          rw [List.take_succ_eq_append_getElem hlt, List.all_append, HA.out]; simp
        have HN : Hid ((l[j]).may = false → l.all Val.may = false) := fun h => by
          rw [Bool.eq_false_iff]; intro h2
          have := List.all_eq_true.mp h2 _ (List.getElem_mem hlt)
          rw [h] at this; cases this
        obtain ⟨x, hx⟩ : ∃ x, x = l[j] := ⟨_, rfl⟩
        rw [← hx] at c0 c1 c2 hw1 HT HM HN
        clear hx hv
        obtain ⟨xk, xn, xt⟩ := x
        have hkl : ((l.map Val.k).take j).length = j := by rw [List.length_take, List.length_map]; omega
        have own := hko.own
        rw [hkl] at own
        cases hmay : mayV xk xn xt
        · have hchk : chk xk xn xt = 2 := by unfold chk; rw [hmay]; rfl
          have e : R = (nullV, 2) := by rw [HR.out]; exact do_not_may (HN.out hmay)
          subst e
          have B1 := hbel.alloc hs (.cells #[.int .u8 xk, .int .i64 xn, .string xt] 25)
          clear own hko
          go_wp2_with (first
            | (go_at_call 11; refine (check_any _ _ _ _ hw1).mono ?_; rintro e w' ⟨rfl, rfl⟩)
            | (go_at_call 9; refine (CD.out _ B1).mono ?_; rintro e w2 ⟨rfl, hb2⟩; have B2 := B1.trans (hb2.mono B1.size)))
          go_ret
          exact ⟨rfl, B2.alloc B2.size _⟩
        · have hchk : chk xk xn xt = 0 := by unfold chk; rw [hmay]; rfl
          have HMA : Hid ((l.take (j + 1)).all Val.may = true) := by show _ = _; rw [HM.out]; exact hmay
          have own3 := ((own.alloc (.cells #[.int .u8 xk, .int .i64 xn, .string xt] 25))).alloc (.cells #[.int .u8 xk] 23)
          have b3 := ((hbel.alloc hs (.cells #[.int .u8 xk, .int .i64 xn, .string xt] 25))).alloc (by simp; omega) (.cells #[.int .u8 xk] 23)
          have news0 := World.news_of_block (cs := #[.int .u8 xk]) (heap_alloc_new ((wr.alloc (.cells #[.int .u8 xk, .int .i64 xn, .string xt] 25))) (.cells #[.int .u8 xk] 23))
          have news : ∀ i u, (kc [xk])[i]? = some u → ((wr.alloc (.cells #[.int .u8 xk, .int .i64 xn, .string xt] 25)).alloc (.cells #[.int .u8 xk] 23)).cell? ((⟨wr.heap.size + 1, 0, none⟩ : Addr).add i) = some u := by simpa [kc] using news0
          have m1 : j + 1 ≤ maxLen := by unfold maxLen; omega
          have m2 : (j + 1) * 1 ≤ 140737488355328 := by omega
          have OWN := hide own3
          have BEL := hide b3
          have NEWS := hide news
          clear own own3 b3 news news0 hko hmay
          go_wp2_with (first
            | (go_at_call 11; refine (check_any _ _ _ _ hw1).mono ?_; rintro e w' ⟨rfl, rfl⟩)
            | (at_builtin; refine wpList_append_own _ rfl (.tmp 38) (.tmp 44) 41 rfl w.heap.size 23 i0 (.int .u8 0) 1 1 Try.underlying41 hi hz0 hz1 hz2 rfl (by decide) _ j (kc ((l.map Val.k).take j)) rfl OWN.out ⟨wr.heap.size + 1, 0, none⟩ 1 1 (kc [xk]) rfl rfl NEWS.out (kc_one _) m1 m2 BEL.out.size ?_; intro v' w' o1 g1 _))
          have KO : KindsOwn w.heap.size w w' v' ((l.map Val.k).take j ++ [xk]) := by
            refine KindsOwn.push ⟨?_, BEL.out⟩ hkl.symm BEL.out.size o1 g1
            rw [hkl]; exact OWN.out
          rw [← HT.out] at KO
          clear o1 g1
          go_roundw
          case rel => exact ⟨j + 1, by omega, by go_num, KO, HMA.out⟩
          case measure => simp [intOf]; omega
      · have hfull : (l.map Val.k).take j = l.map Val.k := List.take_of_length_le (by rw [List.length_map]; omega)
        have hmf : l.all Val.may = true := by
          have h := HA.out
          rwa [List.take_of_length_le (by omega)] at h
        rw [hfull] at hko
        have KI := hide (kinds_of_own hko.own (by rw [List.length_map]; omega))
        obtain ⟨k, hk⟩ : ∃ k, k = givesK op (l.map Val.k) := ⟨_, rfl⟩
        obtain ⟨f, hf⟩ : ∃ f, f = givesE op (l.map Val.k) := ⟨_, rfl⟩
        have GV := hide (fun (wx : World) (hb : Below wr.heap.size wr wx) => gives_any wx op _ _ (KI.out.later hb))
        rw [← hk, ← hf] at GV
        have WAYS := kind_ways hmf HR.out hk hf
        clear hfull hmf hko HA hk hf HR KI
        obtain ⟨⟨rk, rn, rt⟩, re⟩ := R
        rcases WAYS with ⟨f0, e⟩ | ⟨rfl, e | e | e⟩ | ⟨rfl, e, hm, hk⟩
        · cases e
          have EQ := eql_val 0 0 ⟨#[]⟩ 0 0 ⟨#[]⟩
          rw [show sameV ⟨0, 0, ⟨#[]⟩⟩ ⟨0, 0, ⟨#[]⟩⟩ = true from sameV_refl _] at EQ
          go_wp2_with (first
            | (go_at_call 9; refine (CD.out _ hbel).mono ?_; rintro e w2 ⟨rfl, hb2⟩; have B2 := hbel.trans (hb2.mono hbel.size); have X2 := hb2.alloc hb2.size (.cells #[.int .u8 0, .int .i64 0, .string ⟨#[]⟩] 25))
            | (go_at_call 16; refine still (GV.out _ X2) ?_))
          go_ret
          exact ⟨rfl, B2.alloc B2.size _⟩
        · cases e
          have EQ := eql_val 0 0 ⟨#[]⟩ 0 0 ⟨#[]⟩
          rw [show sameV ⟨0, 0, ⟨#[]⟩⟩ ⟨0, 0, ⟨#[]⟩⟩ = true from sameV_refl _] at EQ
          go_wp2_with (first
            | (go_at_call 9; refine (CD.out _ hbel).mono ?_; rintro e w2 ⟨rfl, hb2⟩; have B2 := hbel.trans (hb2.mono hbel.size); have X2 := hb2.alloc hb2.size (.cells #[.int .u8 0, .int .i64 0, .string ⟨#[]⟩] 25))
            | (go_at_call 16; refine still (GV.out _ X2) ?_))
          go_ret
          exact ⟨rfl, B2.alloc B2.size _⟩
        · cases e
          have EQ := eql_val 0 0 ⟨#[]⟩ 0 0 ⟨#[]⟩
          rw [show sameV ⟨0, 0, ⟨#[]⟩⟩ ⟨0, 0, ⟨#[]⟩⟩ = true from sameV_refl _] at EQ
          go_wp2_with (first
            | (go_at_call 9; refine (CD.out _ hbel).mono ?_; rintro e w2 ⟨rfl, hb2⟩; have B2 := hbel.trans (hb2.mono hbel.size); have X2 := hb2.alloc hb2.size (.cells #[.int .u8 0, .int .i64 0, .string ⟨#[]⟩] 25))
            | (go_at_call 16; refine still (GV.out _ X2) ?_))
          go_ret
          exact ⟨rfl, B2.alloc B2.size _⟩
        · cases e
          have EQ := eql_val 0 0 ⟨#[]⟩ 0 0 ⟨#[]⟩
          rw [show sameV ⟨0, 0, ⟨#[]⟩⟩ ⟨0, 0, ⟨#[]⟩⟩ = true from sameV_refl _] at EQ
          go_wp2_with (first
            | (go_at_call 9; refine (CD.out _ hbel).mono ?_; rintro e w2 ⟨rfl, hb2⟩; have B2 := hbel.trans (hb2.mono hbel.size); have X2 := hb2.alloc hb2.size (.cells #[.int .u8 0, .int .i64 0, .string ⟨#[]⟩] 25))
            | (go_at_call 16; refine still (GV.out _ X2) ?_))
          go_ret
          exact ⟨rfl, B2.alloc B2.size _⟩
        · simp only at e hm hk
          subst e
          have hch : chk rk rn rt = 0 := by unfold chk; rw [hm]; rfl
          have CH := hide (fun wx => check_any wx rk rn rt (may_len hm))
          rw [hch] at CH
          rcases hk with hk | ⟨hk, rfl⟩
          · clear hch hm
            go_wp2_with (first
              | (go_at_call 9; refine (CD.out _ hbel).mono ?_; rintro e w2 ⟨rfl, hb2⟩; have B2 := hbel.trans (hb2.mono hbel.size); have X2 := hb2.alloc hb2.size (.cells #[.int .u8 rk, .int .i64 rn, .string rt] 25))
              | (go_at_call 16; refine still (GV.out _ X2) ?_)
              | (go_at_call 11; refine (CH.out _).mono ?_; rintro e w' ⟨rfl, rfl⟩))
            go_ret
            exact ⟨rfl, (B2.alloc B2.size _).alloc (B2.alloc B2.size _).size _⟩
          · clear hch hm
            go_wp2_with (first
              | (go_at_call 9; refine (CD.out _ hbel).mono ?_; rintro e w2 ⟨rfl, hb2⟩; have B2 := hbel.trans (hb2.mono hbel.size); have X2 := hb2.alloc hb2.size (.cells #[.int .u8 0, .int .i64 rn, .string rt] 25))
              | (go_at_call 16; refine still (GV.out _ X2) ?_)
              | (go_at_call 11; refine (CH.out _).mono ?_; rintro e w' ⟨rfl, rfl⟩))
            go_ret
            exact ⟨rfl, (B2.alloc B2.size _).alloc (B2.alloc B2.size _).size _⟩
  · have g5 : (5 : Int) < (l.length : Int) := by omega
    clear hf hwf hh
    go_enter Try.func6, Try.ntmps6
    go_wp2_with (go_at_call 7; refine (LV.out _).mono ?_; rintro e w1 ⟨rfl, hb1⟩)
    go_ret
    exact ⟨rfl, hb1⟩
end Go.Proofs.Ytoaliblndieaiaa
