/-
  Sorting tables' words by a comparison: the library's contract, laid at this program. .. and what follows from it.
-/
import Derived.Shelf.SlSortCmp.NoneTotal
import Derived.Shelf.SlGeneric
import Derived.Ground.SlsfProg
import Derived.Test.YtlhnjloimhcpfabGreatDoorProg
import Derived.Test.YtlhnjloimhcpfabGreatDoorYA
import Derived.Sort.OwnSorted
namespace Go.Proofs.YtlhnjloimhcpfabGreatDoor
open Go.Shelf
def Tryz.sortY_ren : Go.Shelf.Ren := ⟨fun | 6 => 56 | 15 => 90 | 14 => 89 | 28 => 122 | 29 => 123 | 20 => 114 | 21 => 115 | 22 => 116 | 23 => 117 | 24 => 118 | 25 => 119 | 26 => 120 | 27 => 121 | 46 => 151 | 47 => 152 | 48 => 153 | 49 => 154 | 50 => 155 | 57 => 166 | n => n, fun | 22 => 37 | 24 => 43 | 25 => 108 | 3 => 3 | 39 => 125 | 0 => 0 | 53 => 23 | 55 => 81 | 4 => 4 | 46 => 168 | 45 => 167 | 50 => 103 | 5 => 5 | 9 => 9 | 66 => 199 | 70 => 203 | 76 => 217 | 77 => 218 | n => n, fun | n => n⟩
theorem Tryz.sortY : Go.Proofs.SlLaysF0.n6 Tryz.prog Tryz.sortY_ren := {
  mixed := by kernel_rfl
  f6 := ⟨Tryz.f56.name, by decide, Tryz.func56.trans (congrArg some (by kernel_rfl))⟩
  f14 := ⟨Tryz.f89.name, by decide, Tryz.func89.trans (congrArg some (by kernel_rfl))⟩
  f15 := Tryz.func90.trans (congrArg some (by kernel_rfl))
  f20 := ⟨Tryz.f114.name, by decide, Tryz.func114.trans (congrArg some (by kernel_rfl))⟩
  f21 := ⟨Tryz.f115.name, by decide, Tryz.func115.trans (congrArg some (by kernel_rfl))⟩
  f22 := ⟨Tryz.f116.name, by decide, Tryz.func116.trans (congrArg some (by kernel_rfl))⟩
  f23 := ⟨Tryz.f117.name, by decide, Tryz.func117.trans (congrArg some (by kernel_rfl))⟩
  f24 := ⟨Tryz.f118.name, by decide, Tryz.func118.trans (congrArg some (by kernel_rfl))⟩
  f25 := ⟨Tryz.f119.name, by decide, Tryz.func119.trans (congrArg some (by kernel_rfl))⟩
  f26 := ⟨Tryz.f120.name, by decide, Tryz.func120.trans (congrArg some (by kernel_rfl))⟩
  f27 := ⟨Tryz.f121.name, by decide, Tryz.func121.trans (congrArg some (by kernel_rfl))⟩
  f28 := Tryz.func122.trans (congrArg some (by kernel_rfl))
  f29 := Tryz.func123.trans (congrArg some (by kernel_rfl))
  f46 := ⟨Tryz.f151.name, by decide, Tryz.func151.trans (congrArg some (by kernel_rfl))⟩
  f47 := Tryz.func152.trans (congrArg some (by kernel_rfl))
  f48 := Tryz.func153.trans (congrArg some (by kernel_rfl))
  f49 := ⟨Tryz.f154.name, by decide, Tryz.func154.trans (congrArg some (by kernel_rfl))⟩
  f50 := ⟨Tryz.f155.name, by decide, Tryz.func155.trans (congrArg some (by kernel_rfl))⟩
  f57 := ⟨Tryz.f166.name, by decide, Tryz.func166.trans (congrArg some (by kernel_rfl))⟩
  t0 := Tryz.underlying0
  a0 := Tryz.isAgg0
  z0 := Tryz.sizeOf0
  v0 := Tryz.zeroValue0
  t3 := Tryz.underlying3
  a3 := Tryz.isAgg3
  z3 := Tryz.sizeOf3
  v3 := Tryz.zeroValue3
  t4 := Tryz.underlying4
  a4 := Tryz.isAgg4
  z4 := Tryz.sizeOf4
  v4 := Tryz.zeroValue4
  t5 := Tryz.underlying5
  a5 := Tryz.isAgg5
  z5 := Tryz.sizeOf5
  v5 := Tryz.zeroValue5
  t9 := Tryz.underlying9
  a9 := Tryz.isAgg9
  z9 := Tryz.sizeOf9
  v9 := Tryz.zeroValue9
  t22 := Tryz.underlying37
  a22 := Tryz.isAgg37
  z22 := Tryz.sizeOf37
  v22 := Tryz.zeroValue37
  t25 := Tryz.underlying108
  a25 := Tryz.isAgg108
  z25 := Tryz.sizeOf108
  v25 := Tryz.zeroValue108
  t39 := Tryz.underlying125
  a39 := Tryz.isAgg125
  z39 := Tryz.sizeOf125
  v39 := Tryz.zeroValue125
  t45 := Tryz.underlying167
  a45 := Tryz.isAgg167
  z45 := Tryz.sizeOf167
  v45 := Tryz.zeroValue167
  t46 := Tryz.underlying168
  a46 := Tryz.isAgg168
  z46 := Tryz.sizeOf168
  v46 := Tryz.zeroValue168
  t50 := Tryz.underlying103
  a50 := Tryz.isAgg103
  z50 := Tryz.sizeOf103
  v50 := Tryz.zeroValue103
  t53 := Tryz.underlying23
  a53 := Tryz.isAgg23
  z53 := Tryz.sizeOf23
  v53 := Tryz.zeroValue23
  t55 := Tryz.underlying81
  a55 := Tryz.isAgg81
  z55 := Tryz.sizeOf81
  v55 := Tryz.zeroValue81
  t66 := Tryz.underlying199
  a66 := Tryz.isAgg199
  z66 := Tryz.sizeOf199
  v66 := Tryz.zeroValue199
  t70 := Tryz.underlying203
  a70 := Tryz.isAgg203
  z70 := Tryz.sizeOf203
  v70 := Tryz.zeroValue203
  t76 := Tryz.underlying217
  a76 := Tryz.isAgg217
  z76 := Tryz.sizeOf217
  v76 := Tryz.zeroValue217
  t77 := Tryz.underlying218
  a77 := Tryz.isAgg218
  z77 := Tryz.sizeOf218
  v77 := Tryz.zeroValue218 }
end Go.Proofs.YtlhnjloimhcpfabGreatDoor
namespace Go.Proofs.YtlhnjloimhcpfabGreatDoor
open Go.RowKit Go.Lib Go.Sort

theorem mt_swo : SWO (ltOf Mf.ord) where
  irrefl x := Mf.lt_irrefl x
  trans _ _ _ h1 h2 := Mf.lt_trans h1 h2
  ntrans _ _ _ h1 h2 := Mf.lt_ntrans h1 h2

theorem mcs_at (l : List Mf.Mt) (q m : Nat) (hq : q < l.length) (hm : m < 5) : (mcs l)[q * 5 + m]? = (mc l[q])[m]? := by
  obtain ⟨e0, e1, e2, e3, e4⟩ := mcs_get l q hq
  match m, hm with
  | 0, _ => exact e0
  | 1, _ => exact e1
  | 2, _ => exact e2
  | 3, _ => exact e3
  | 4, _ => exact e4
theorem mcs_flat (l : List Mf.Mt) (t : Nat) (h : t < l.length * 5) : (mcs l)[t]? = (mc (l[t / 5]'(by omega)))[t % 5]? := by
  have := mcs_at l (t / 5) (t % 5) (by omega) (Nat.mod_lt _ (by decide))
  rw [← this]
  congr 1
  omega
theorem mc_getD (x : Mf.Mt) (m : Nat) (hm : m < 5) : (mc x)[m]? = some (mc x)[m]! := by
  match m, hm with
  | 0, _ => rfl
  | 1, _ => rfl
  | 2, _ => rfl
  | 3, _ => rfl
  | 4, _ => rfl
theorem flat_mcs [Inhabited Mf.Mt] (d : Array Mf.Mt) (t : Nat) (h : t < d.size * 5) : (flatK mc 5 d)[t]! = (mcs d.toList)[t]?.getD undef := by
  rw [get_flatK _ _ _ t h, mcs_flat d.toList t (by simpa using h), mc_getD _ _ (Nat.mod_lt _ (by decide)), getElem!_pos d (t / 5) (by omega)]
  simp

theorem holds_mts [Inhabited Mf.Mt] {w : World} {base g cap : Nat} {l : List Mf.Mt} (h : w.ownsRow base 43 5 (.slice (some ⟨g, 0, none⟩) l.length cap) l.length (mcs l)) : HoldsK mc 5 w g 0 l.toArray := by
  intro j hj
  have hj' : j < l.length * 5 := by simpa using hj
  have hc := h.cellAt j hj'
  rcases h.2 with ⟨e, _⟩ | ⟨g', cap', cur, e, _, hb, _⟩
  · cases e
  · cases e
    rw [Nat.zero_add]
    refine ⟨?_, Joins.unfrozen_of_block hb j⟩
    rw [hc, flat_mcs _ j (by simpa using hj')]
    have : (mcs l)[j]? = some ((mcs l)[j]'(by rw [mcs_length]; omega)) := List.getElem?_eq_getElem _
    simp [this]

theorem sorted_world [Inhabited Mf.Mt] {w : World} {base g cap n : Nat} {os : Array Obj} {l : List Mf.Mt} {d : Array Mf.Mt} (h : w.ownsRow base 43 5 (.slice (some ⟨g, 0, none⟩) l.length cap) l.length (mcs l)) (hd : d.size = l.length) :
    (sortWorldK mc 5 w g 0 n d os).ownsRow base 43 5 (.slice (some ⟨g, 0, none⟩) l.length cap) l.length (mcs d.toList) ∧ w.grownBy (sortWorldK mc 5 w g 0 n d os) (some g) := by
  rcases h.2 with ⟨e, _⟩ | ⟨g', cap', cur, e, hb, hg, h1, h2, h3, h4⟩
  · cases e
  cases e
  have hgl : g < w.heap.size := (Array.getElem?_eq_some_iff.1 hg).1
  refine ⟨⟨by rw [mcs_length]; simp [hd], .inr ⟨g, cap, putCells id 0 (flatK mc 5 d) cur, rfl, hb, ?_, h1, h2, by simp [putCells, h3], ?_⟩⟩, ⟨rfl, rfl, rfl, by simp [sortWorldK, putRowK], fun k hk hne => ?_⟩⟩
  · unfold sortWorldK putRowK
    rw [heap_grow_old _ _ (by simpa using hgl)]
    simp [putRow, mapBlock, Sort.ahead, Array.getElem?_modify, hg, onCells]
  · apply List.ext_getElem?
    intro j
    have hcs : l.length * 5 ≤ cur.size := by rw [h3]; omega
    by_cases hj : j < l.length * 5
    · rw [List.getElem?_take_of_lt hj, Array.getElem?_toList]
      have hfl := flat_mcs d j (by rw [hd]; exact hj)
      have hsome : (mcs d.toList)[j]? = some ((mcs d.toList)[j]'(by rw [mcs_length]; simp [hd]; omega)) := List.getElem?_eq_getElem _
      rw [hsome] at hfl ⊢
      simp only [Option.getD_some] at hfl
      have hfl2 : (flatK mc 5 d)[j]'(by rw [size_flatK, hd]; exact hj) = (mcs d.toList)[j]'(by rw [mcs_length]; simp [hd]; omega) := by
        rw [← hfl, getElem!_pos _ j (by rw [size_flatK, hd]; exact hj)]
      simp [putCells, show j < cur.size by omega, hd, hj, hfl2]
    · rw [List.getElem?_take_eq_none (by omega), List.getElem?_eq_none (by rw [mcs_length]; simp [hd]; omega)]
  · unfold sortWorldK putRowK
    rw [heap_grow_old _ _ (by simpa using hk)]
    have : g ≠ k := fun e => hne (by rw [e])
    simp [putRow, mapBlock, Sort.ahead, Array.getElem?_modify, this]

theorem sort_any (w : World) (base g cap : Nat) (l : List Mf.Mt) (h : w.ownsRow base 43 5 (.slice (some ⟨g, 0, none⟩) l.length cap) l.length (mcs l)) (hl : l.length ≤ 1000000000) :
    Calls Tryz.prog 56 #[.slice (some ⟨g, 0, none⟩) l.length cap, .func (.func 57) #[] #[]] w fun e w' => e = .returned (.tuple #[]) ∧ ∃ m : List Mf.Mt, m.Perm l ∧ m.Pairwise (fun a b => Mf.lt b a = false) ∧ w'.ownsRow base 43 5 (.slice (some ⟨g, 0, none⟩) l.length cap) l.length (mcs m) ∧ w.grownBy w' (some g) := by
  haveI : Inhabited Mf.Mt := ⟨⟨0, 0, 0, [], []⟩⟩
  have eg : ∀ args w, (callFunc 57 args).run Tryz.prog w = .ok (.enter 57 args) w := enters_of Tryz.func57 (by kernel_rfl) rfl
  have hcmp : CmpLays Tryz.prog 57 #[] mc 5 Mf.ord g 0 l.toArray.size w := fun m os dk _ x y => by
    refine (order_any _ x y).mono ?_
    rintro e w' ⟨rfl, rfl⟩
    exact ⟨rfl, 0, _, by unfold ordW; rw [alloc_eq_grow, alloc_eq_grow, grow_grow]; rfl⟩
  have hgl : g < w.heap.size := (h.lt g rfl).2
  have hcon := AnyQ.slices_SortFunc Tryz.sortY 5 Tryz.isAgg43 Tryz.sizeOf43 mc (fun _ => rfl) (fun x v hv => by simp [mc] at hv; rcases hv with rfl | rfl | rfl | rfl | rfl <;> rfl) Mf.ord mt_swo 57 #[] g 0 cap l.toArray w eg hcmp (holds_mts h) hgl (by simp; omega)
  rw [show l.toArray.size = l.length from List.size_toArray ..] at hcon
  refine Calls.mono (show Calls Tryz.prog 56 _ _ _ from hcon) ?_
  rintro e w' ⟨rfl, d, n, os, hp, hs, rfl⟩
  have hd : d.size = l.length := by rw [hp.1]; simp
  obtain ⟨ho, hg⟩ := sorted_world (n := n) (os := os) h hd
  refine ⟨rfl, d.toList, ?_, ?_, ho, hg⟩
  · have := hp.2.2
    have e1 : (d.extract 0 l.toArray.size).toList = d.toList := by rw [show l.toArray.size = d.size by simp [hd]]; simp
    have e2 : (l.toArray.extract 0 l.toArray.size).toList = l := by simp
    rw [← e1]
    refine List.Perm.trans ?_ (List.Perm.of_eq e2)
    exact this
  · rw [List.pairwise_iff_getElem]
    intro i j hi hj hij
    have := hs i j (Nat.zero_le _) hij (by simpa [hd] using hj)
    rw [getElem!_pos d i (by simpa using hi), getElem!_pos d j (by simpa using hj)] at this
    exact this
theorem sort_none (w : World) (a : Option Addr) (cap : Nat) (f : Value) :
    Calls Tryz.prog 56 #[.slice a 0 cap, f] w fun e w' => e = .returned (.tuple #[]) ∧ w' = w := AnyF.slices_SortFunc_none Tryz.sortY a cap f w
theorem sort_own (w : World) (base n c : Nat) (a : Option Addr) (l : List Mf.Mt) (h : w.ownsRow base 43 5 (.slice a n c) n (mcs l)) (hl : n ≤ 1000000000) :
    Calls Tryz.prog 56 #[.slice a n c, .func (.func 57) #[] #[]] w fun e w' => e = .returned (.tuple #[]) ∧ ∃ m : List Mf.Mt, m.Perm l ∧ m.Pairwise (fun a b => Mf.lt b a = false) ∧ w'.ownsRow base 43 5 (.slice a n c) n (mcs m) ∧ w.grownBy w' (Value.slice a n c).ownBlock := by
  have hn : n = l.length := by have := h.1; rw [mcs_length] at this; omega
  rcases h.2 with ⟨e, h0⟩ | ⟨g, cap, cur, e, _⟩
  · simp only [Value.slice.injEq] at e
    obtain ⟨rfl, rfl, rfl⟩ := e
    have hl0 : l = [] := List.eq_nil_of_length_eq_zero hn.symm
    subst hl0
    refine (sort_none w none 0 _).mono ?_
    rintro e w' ⟨rfl, rfl⟩
    exact ⟨rfl, [], List.Perm.refl _, List.Pairwise.nil, h, ⟨rfl, rfl, rfl, Nat.le_refl _, fun _ _ _ => rfl⟩⟩
  · simp only [Value.slice.injEq, true_and] at e
    obtain ⟨rfl, rfl⟩ := e
    subst hn
    exact sort_any w base g c l h hl
end Go.Proofs.YtlhnjloimhcpfabGreatDoor
