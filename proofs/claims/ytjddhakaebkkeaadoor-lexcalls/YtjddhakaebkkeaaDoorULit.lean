/-
  The literal of a value: what the call answers of any value, where the library's tables are laid.
-/
import Derived.Test.YtjddhakaebkkeaaDoorURep
import Derived.Test.YtjddhakaebkkeaaDoorUShelf
import Derived.Lib.SmallJoins
namespace Go.Proofs.YtjddhakaebkkeaaDoor
open Go.RowKit
attribute [local go_sem ↓] Go.wp_at_zero Go.wp_at_succ

/-- The library's tables lie there, and the longest haystack of its search is some number. -/
structure Tabs (w : World) : Prop where
  pow : Lib.TabIs Tryd.prog w "internal/strconv.uint64pow10" .u64 Lib.pow10Tab
  utf : Lib.Utf8Tabs 0 1 w
  max : ∃ m, w.cell? ⟨3, 0, none⟩ = some (.int .i64 m)

theorem pow_named : Tryd.prog.globalNamed "internal/strconv.uint64pow10" = some 2 := by kernel_rfl
theorem utf_later {w w' : World} {a b : Nat} (h : Lib.Utf8Tabs a b w) (hb : Below w.heap.size w w') : Lib.Utf8Tabs a b w' :=
  ⟨fun c hc => (hb.cell (World.block_lt_of_cell? w _ (h.1 c hc))).trans (h.1 c hc), fun i hi => ⟨(hb.cell (World.block_lt_of_cell? w _ (h.2 i hi).1)).trans (h.2 i hi).1, (hb.cell (World.block_lt_of_cell? w _ (h.2 i hi).2)).trans (h.2 i hi).2⟩⟩
theorem Tabs.later {w w' : World} (h : Tabs w) (hb : Below w.heap.size w w') : Tabs w' :=
  ⟨Joins.tab_stays pow_named h.pow hb (Nat.le_refl _), utf_later h.utf hb, by obtain ⟨m, hm⟩ := h.max; exact ⟨m, (hb.cell (World.block_lt_of_cell? w _ hm)).trans hm⟩⟩

/-- A value's literal. -/
def litB (v : Val) : List UInt8 :=
  if v.k = 1 then (if isT v then [84, 82, 85, 69] else [70, 65, 76, 83, 69]) else if v.k = 2 then Lib.itoa v.n else if v.k = 3 then 39 :: (twiceL v.t.data.toList ++ [39]) else [78, 85, 76, 76]
def litE (v : Val) : Int := if v.may && (!(v.k == 3) || Lib.validD v.t.data.toList) then 0 else 2
def litS (v : Val) : ByteArray := if litE v = 0 then ⟨(litB v).toArray⟩ else ⟨#[]⟩

theorem quoted_bytes (l : List UInt8) : (⟨#[39]⟩ : ByteArray) ++ ⟨l.toArray⟩ ++ ⟨#[39]⟩ = ⟨(39 :: (l ++ [39])).toArray⟩ := by
  apply ByteArray.ext
  simp [ByteArray.data_append]

theorem below_grow (w : World) (k : Nat) (os : Array Obj) : Below w.heap.size w (Sort.grow (w.drewN k) os) :=
  ⟨rfl, rfl, rfl, by simp [Sort.grow], fun i hi => by
    show ((w.drewN k).heap ++ os)[i]? = _
    rw [Array.getElem?_append_left (by show i < w.heap.size; omega)]
    rfl⟩

theorem lit_cases (v : Val) (hm : v.may = true) : v.k = 0 ∨ v.k = 1 ∨ v.k = 2 ∨ v.k = 3 := by
  rcases may_cases v hm with ⟨a, _⟩ | ⟨a, _⟩ | ⟨a, _⟩ | ⟨a, _⟩ <;> simp [a]

set_option maxHeartbeats 3200000 in
theorem literal_any (w : World) (v : Val) (hv : v.wf) (hT : Tabs w) :
    Calls Tryd.prog 38 #[.agg #[.int .u8 v.k, .int .i64 v.n, .string v.t]] w fun e w' => e = .returned (.tuple #[.string (litS v), .int .i64 (litE v)]) ∧ Below w.heap.size w w' := by
  have CH := hide (fun wx => check_any wx v.k v.n v.t hv.t1)
  have B1 : Below w.heap.size w (w.alloc (.cells #[.int .u8 v.k, .int .i64 v.n, .string v.t] 64)) := (Below.refl _ _).alloc (Nat.le_refl _) _
  have B2 := B1.alloc B1.size (.cells #[.int .u8 v.k, .int .i64 v.n, .string v.t] 64)
  have T2 := hide (hT.later B2)
  cases hm : v.may
  · have e1 : litE v = 2 := by unfold litE; rw [hm]; rfl
    have e2 : litS v = ⟨#[]⟩ := by unfold litS; rw [e1]; rfl
    rw [e1, e2]
    rw [show chk v.k v.n v.t = 2 from by unfold chk; rw [show mayV v.k v.n v.t = false from hm]; rfl] at CH
    clear hv hT hm e1 e2
    obtain ⟨k, n, t⟩ := v
    go_enter Tryd.func38, Tryd.ntmps38
    go_wp2_with (go_at_call 56; refine (CH.out _).mono ?_; rintro e w' ⟨rfl, rfl⟩)
    go_ret2
    exact ⟨rfl, B2⟩
  · rw [show chk v.k v.n v.t = 0 from by unfold chk; rw [show mayV v.k v.n v.t = true from hm]; rfl] at CH
    have hz := may_size hm
    rcases lit_cases v hm with hk | hk | hk | hk
    · have e1 : litE v = 0 := by unfold litE; rw [hm, hk]; rfl
      have e2 : litS v = ⟨#[78, 85, 76, 76]⟩ := by unfold litS litB; rw [e1, hk]; rfl
      rw [e1, e2]
      clear hv hT hm e1 e2 hz
      obtain ⟨k, n, t⟩ := v
      simp only at hk
      subst hk
      go_enter Tryd.func38, Tryd.ntmps38
      go_wp2_with (go_at_call 56; refine (CH.out _).mono ?_; rintro e w' ⟨rfl, rfl⟩)
      go_ret2
      exact ⟨rfl, B2⟩
    · have e1 : litE v = 0 := by unfold litE; rw [hm, hk]; rfl
      obtain ⟨T, hTv⟩ : ∃ T, T = isT v := ⟨_, rfl⟩
      have e2 : litS v = if T then ⟨#[84, 82, 85, 69]⟩ else ⟨#[70, 65, 76, 83, 69]⟩ := by
        unfold litS litB; rw [e1, hk, if_pos rfl, if_pos rfl, hTv]; split <;> rfl
      have CT := hide (fun wx => true_any wx v)
      rw [← hTv] at CT
      rw [e1, e2]
      clear hv hT hm e1 e2 hz hTv
      obtain ⟨k, n, t⟩ := v
      simp only at hk
      subst hk
      cases T
      all_goals
        go_enter Tryd.func38, Tryd.ntmps38
        go_wp2_with (first
          | (go_at_call 56; refine (CH.out _).mono ?_; rintro e w' ⟨rfl, rfl⟩)
          | (go_at_call 57; refine (CT.out _).mono ?_; rintro e w3 ⟨rfl, hb3⟩; have B3 := B2.trans (hb3.mono B2.size)))
        go_ret2
        exact ⟨rfl, B3⟩
    · have e1 : litE v = 0 := by unfold litE; rw [hm, hk]; rfl
      have e2 : litS v = ⟨(Lib.itoa v.n).toArray⟩ := by unfold litS litB; rw [e1, hk]; rfl
      rw [e1, e2]
      have FM := hide (fun wx (h : Tabs wx) => Tryd.strconv_FormatInt_10 v.n hv.n0 hv.n1 wx h.pow)
      clear hv hT hm e1 e2 hz
      obtain ⟨k, n, t⟩ := v
      simp only at hk
      subst hk
      go_enter Tryd.func38, Tryd.ntmps38
      go_wp2_with (first
        | (go_at_call 56; refine (CH.out _).mono ?_; rintro e w' ⟨rfl, rfl⟩)
        | (go_at_call 58; refine (FM.out _ T2.out).mono ?_; rintro e w3 ⟨rfl, kk, os, hw3⟩; have B3 : Below w.heap.size w w3 := (by rw [hw3]; exact B2.trans ((below_grow _ _ _).mono B2.size)); clear hw3))
      go_ret2
      exact ⟨rfl, B3⟩
    · obtain ⟨V, hV⟩ : ∃ V, V = Lib.validD v.t.data.toList := ⟨_, rfl⟩
      have e1 : litE v = if V then 0 else 2 := by unfold litE; rw [hm, hk, hV]; simp
      have VS := hide (fun wx (h : Tabs wx) => Tryd.utf8_ValidString v.t wx (by omega) h.utf)
      rw [← hV] at VS
      cases V
      · have e2 : litS v = ⟨#[]⟩ := by unfold litS; rw [e1]; rfl
        rw [e1, e2]
        clear hv hT hm e1 e2 hz hV
        obtain ⟨k, n, t⟩ := v
        simp only at hk
        subst hk
        go_enter Tryd.func38, Tryd.ntmps38
        go_wp2_with (first
          | (go_at_call 56; refine (CH.out _).mono ?_; rintro e w' ⟨rfl, rfl⟩)
          | (go_at_call 59; refine (VS.out _ T2.out).mono ?_; rintro e w3 ⟨rfl, hb3⟩; have B3 := B2.trans (hb3.mono B2.size)))
        go_ret2
        exact ⟨rfl, B3⟩
      · obtain ⟨l, hl⟩ : ∃ l, l = twiceL v.t.data.toList := ⟨_, rfl⟩
        have e2 : litS v = (⟨#[39]⟩ : ByteArray) ++ ⟨l.toArray⟩ ++ ⟨#[39]⟩ := by
          unfold litS litB; rw [e1, hk, quoted_bytes, hl]; rfl
        have hlz : l.length ≤ 2000 := by
          rw [hl]
          have := twiceL_length v.t.data.toList
          have hs : v.t.data.toList.length = v.t.size := by rw [Array.length_toList]; rfl
          omega
        have RA := hide (fun wx (h : Tabs wx) => by
          obtain ⟨m, hm⟩ := h.max
          have c := Lib.countB_mul_le ⟨#[39]⟩ (by decide) _ v.t (Nat.le_refl _)
          have hs : (⟨#[39]⟩ : ByteArray).size = 1 := rfl
          have hs2 : (⟨#[39, 39]⟩ : ByteArray).size = 2 := rfl
          have := Tryd.strings_ReplaceAll v.t ⟨#[39]⟩ ⟨#[39, 39]⟩ m wx (by omega) hm (by decide) (by rw [hs2]; rw [hs] at c; omega)
          rw [show (⟨#[39]⟩ : ByteArray).data.toList = [39] from rfl, show (⟨#[39, 39]⟩ : ByteArray).data.toList = [39, 39] from rfl, replace_twice, ← hl] at this
          exact this)
        have hsz : (⟨l.toArray⟩ : ByteArray).size ≤ 2000 := by show l.toArray.size ≤ 2000; rw [List.size_toArray]; exact hlz
        rw [e1, e2]
        obtain ⟨R, hR⟩ : ∃ R : ByteArray, R = ⟨l.toArray⟩ := ⟨_, rfl⟩
        rw [← hR] at RA hsz ⊢
        clear hv hT hm e1 e2 hz hV hl hlz hR
        obtain ⟨k, n, t⟩ := v
        simp only at hk
        subst hk
        go_enter Tryd.func38, Tryd.ntmps38
        go_wp2_with (first
          | (go_at_call 56; refine (CH.out _).mono ?_; rintro e w' ⟨rfl, rfl⟩)
          | (go_at_call 59; refine (VS.out _ T2.out).mono ?_; rintro e w3 ⟨rfl, hb3⟩; have B3 := B2.trans (hb3.mono B2.size); have T3 := T2.out.later hb3; have k2 : w3.cell? ⟨w.heap.size, 2, none⟩ = some (.string t) := (ahead_slot hb3).2.2)
          | (go_at_call 50; refine (RA.out _ T3).mono ?_; rintro e w4 ⟨rfl, hb4⟩; have B4 := B3.trans (hb4.mono B3.size)))
        go_ret2
        exact ⟨rfl, B4⟩
end Go.Proofs.YtjddhakaebkkeaaDoor
