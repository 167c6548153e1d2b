/-
  Sorting tables' words by a comparison: the library's contract, laid at this program. .. and what follows from it.
-/
import Derived.Shelf.SlSortCmp.NoneTotal
import Derived.Shelf.SlGeneric
import Derived.Ground.SlsfProg
import Derived.Test.YtlhnjloimhcpfaaGreatDoorProg
import Derived.Test.YtlhnjloimhcpfaaGreatDoorYA
import Derived.Sort.OwnSorted
namespace Go.Proofs.YtlhnjloimhcpfaaGreatDoor
open Go.Shelf
def Tryz.sortY_ren : Go.Shelf.Ren := ⟨fun | 6 => 110 | 15 => 171 | 14 => 170 | 28 => 215 | 29 => 216 | 20 => 207 | 21 => 208 | 22 => 209 | 23 => 210 | 24 => 211 | 25 => 212 | 26 => 213 | 27 => 214 | 46 => 246 | 47 => 247 | 48 => 248 | 49 => 249 | 50 => 250 | 57 => 261 | n => n, fun | 22 => 32 | 24 => 45 | 25 => 153 | 3 => 3 | 39 => 192 | 0 => 0 | 53 => 183 | 55 => 115 | 4 => 4 | 46 => 230 | 45 => 229 | 50 => 200 | 5 => 5 | 9 => 9 | 66 => 259 | 70 => 263 | 76 => 275 | 77 => 276 | n => n, fun | n => n⟩
theorem Tryz.sortY : Go.Proofs.SlLaysF0.n6 Tryz.prog Tryz.sortY_ren := {
  mixed := by kernel_rfl
  f6 := ⟨Tryz.f110.name, by decide, Tryz.func110.trans (congrArg some (by kernel_rfl))⟩
  f14 := ⟨Tryz.f170.name, by decide, Tryz.func170.trans (congrArg some (by kernel_rfl))⟩
  f15 := Tryz.func171.trans (congrArg some (by kernel_rfl))
  f20 := ⟨Tryz.f207.name, by decide, Tryz.func207.trans (congrArg some (by kernel_rfl))⟩
  f21 := ⟨Tryz.f208.name, by decide, Tryz.func208.trans (congrArg some (by kernel_rfl))⟩
  f22 := ⟨Tryz.f209.name, by decide, Tryz.func209.trans (congrArg some (by kernel_rfl))⟩
  f23 := ⟨Tryz.f210.name, by decide, Tryz.func210.trans (congrArg some (by kernel_rfl))⟩
  f24 := ⟨Tryz.f211.name, by decide, Tryz.func211.trans (congrArg some (by kernel_rfl))⟩
  f25 := ⟨Tryz.f212.name, by decide, Tryz.func212.trans (congrArg some (by kernel_rfl))⟩
  f26 := ⟨Tryz.f213.name, by decide, Tryz.func213.trans (congrArg some (by kernel_rfl))⟩
  f27 := ⟨Tryz.f214.name, by decide, Tryz.func214.trans (congrArg some (by kernel_rfl))⟩
  f28 := Tryz.func215.trans (congrArg some (by kernel_rfl))
  f29 := Tryz.func216.trans (congrArg some (by kernel_rfl))
  f46 := ⟨Tryz.f246.name, by decide, Tryz.func246.trans (congrArg some (by kernel_rfl))⟩
  f47 := Tryz.func247.trans (congrArg some (by kernel_rfl))
  f48 := Tryz.func248.trans (congrArg some (by kernel_rfl))
  f49 := ⟨Tryz.f249.name, by decide, Tryz.func249.trans (congrArg some (by kernel_rfl))⟩
  f50 := ⟨Tryz.f250.name, by decide, Tryz.func250.trans (congrArg some (by kernel_rfl))⟩
  f57 := ⟨Tryz.f261.name, by decide, Tryz.func261.trans (congrArg some (by kernel_rfl))⟩
  t0 := Tryz.underlying0
  a0 := Tryz.isAgg0
  z0 := Tryz.sizeOf0
  v0 := Tryz.zeroValue0
  t3 := Tryz.underlying3
  a3 := Tryz.isAgg3
  z3 := Tryz.sizeOf3
  v3 := Tryz.zeroValue3
  t4 := Tryz.underlying4
  a4 := Tryz.isAgg4
  z4 := Tryz.sizeOf4
  v4 := Tryz.zeroValue4
  t5 := Tryz.underlying5
  a5 := Tryz.isAgg5
  z5 := Tryz.sizeOf5
  v5 := Tryz.zeroValue5
  t9 := Tryz.underlying9
  a9 := Tryz.isAgg9
  z9 := Tryz.sizeOf9
  v9 := Tryz.zeroValue9
  t22 := Tryz.underlying32
  a22 := Tryz.isAgg32
  z22 := Tryz.sizeOf32
  v22 := Tryz.zeroValue32
  t25 := Tryz.underlying153
  a25 := Tryz.isAgg153
  z25 := Tryz.sizeOf153
  v25 := Tryz.zeroValue153
  t39 := Tryz.underlying192
  a39 := Tryz.isAgg192
  z39 := Tryz.sizeOf192
  v39 := Tryz.zeroValue192
  t45 := Tryz.underlying229
  a45 := Tryz.isAgg229
  z45 := Tryz.sizeOf229
  v45 := Tryz.zeroValue229
  t46 := Tryz.underlying230
  a46 := Tryz.isAgg230
  z46 := Tryz.sizeOf230
  v46 := Tryz.zeroValue230
  t50 := Tryz.underlying200
  a50 := Tryz.isAgg200
  z50 := Tryz.sizeOf200
  v50 := Tryz.zeroValue200
  t53 := Tryz.underlying183
  a53 := Tryz.isAgg183
  z53 := Tryz.sizeOf183
  v53 := Tryz.zeroValue183
  t55 := Tryz.underlying115
  a55 := Tryz.isAgg115
  z55 := Tryz.sizeOf115
  v55 := Tryz.zeroValue115
  t66 := Tryz.underlying259
  a66 := Tryz.isAgg259
  z66 := Tryz.sizeOf259
  v66 := Tryz.zeroValue259
  t70 := Tryz.underlying263
  a70 := Tryz.isAgg263
  z70 := Tryz.sizeOf263
  v70 := Tryz.zeroValue263
  t76 := Tryz.underlying275
  a76 := Tryz.isAgg275
  z76 := Tryz.sizeOf275
  v76 := Tryz.zeroValue275
  t77 := Tryz.underlying276
  a77 := Tryz.isAgg276
  z77 := Tryz.sizeOf276
  v77 := Tryz.zeroValue276 }
end Go.Proofs.YtlhnjloimhcpfaaGreatDoor
namespace Go.Proofs.YtlhnjloimhcpfaaGreatDoor
open Go.RowKit Go.Lib Go.Sort

theorem mt_swo : SWO (ltOf Mf.ord) where
  irrefl x := Mf.lt_irrefl x
  trans _ _ _ h1 h2 := Mf.lt_trans h1 h2
  ntrans _ _ _ h1 h2 := Mf.lt_ntrans h1 h2

theorem mcs_at (l : List Mf.Mt) (q m : Nat) (hq : q < l.length) (hm : m < 5) : (mcs l)[q * 5 + m]? = (mc l[q])[m]? := by
  obtain ⟨e0, e1, e2, e3, e4⟩ := mcs_get l q hq
  match m, hm with
  | 0, _ => exact e0
  | 1, _ => exact e1
  | 2, _ => exact e2
  | 3, _ => exact e3
  | 4, _ => exact e4
theorem mcs_flat (l : List Mf.Mt) (t : Nat) (h : t < l.length * 5) : (mcs l)[t]? = (mc (l[t / 5]'(by omega)))[t % 5]? := by
  have := mcs_at l (t / 5) (t % 5) (by omega) (Nat.mod_lt _ (by decide))
  rw [← this]
  congr 1
  omega
theorem mc_getD (x : Mf.Mt) (m : Nat) (hm : m < 5) : (mc x)[m]? = some (mc x)[m]! := by
  match m, hm with
  | 0, _ => rfl
  | 1, _ => rfl
  | 2, _ => rfl
  | 3, _ => rfl
  | 4, _ => rfl
theorem flat_mcs [Inhabited Mf.Mt] (d : Array Mf.Mt) (t : Nat) (h : t < d.size * 5) : (flatK mc 5 d)[t]! = (mcs d.toList)[t]?.getD undef := by
  rw [get_flatK _ _ _ t h, mcs_flat d.toList t (by simpa using h), mc_getD _ _ (Nat.mod_lt _ (by decide)), getElem!_pos d (t / 5) (by omega)]
  simp

theorem holds_mts [Inhabited Mf.Mt] {w : World} {base g cap : Nat} {l : List Mf.Mt} (h : w.ownsRow base 45 5 (.slice (some ⟨g, 0, none⟩) l.length cap) l.length (mcs l)) : HoldsK mc 5 w g 0 l.toArray := by
  intro j hj
  have hj' : j < l.length * 5 := by simpa using hj
  have hc := h.cellAt j hj'
  rcases h.2 with ⟨e, _⟩ | ⟨g', cap', cur, e, _, hb, _⟩
  · cases e
  · cases e
    rw [Nat.zero_add]
    refine ⟨?_, Joins.unfrozen_of_block hb j⟩
    rw [hc, flat_mcs _ j (by simpa using hj')]
    have : (mcs l)[j]? = some ((mcs l)[j]'(by rw [mcs_length]; omega)) := List.getElem?_eq_getElem _
    simp [this]

theorem sorted_world [Inhabited Mf.Mt] {w : World} {base g cap n : Nat} {os : Array Obj} {l : List Mf.Mt} {d : Array Mf.Mt} (h : w.ownsRow base 45 5 (.slice (some ⟨g, 0, none⟩) l.length cap) l.length (mcs l)) (hd : d.size = l.length) :
    (sortWorldK mc 5 w g 0 n d os).ownsRow base 45 5 (.slice (some ⟨g, 0, none⟩) l.length cap) l.length (mcs d.toList) ∧ w.grownBy (sortWorldK mc 5 w g 0 n d os) (some g) := by
  rcases h.2 with ⟨e, _⟩ | ⟨g', cap', cur, e, hb, hg, h1, h2, h3, h4⟩
  · cases e
  cases e
  have hgl : g < w.heap.size := (Array.getElem?_eq_some_iff.1 hg).1
  refine ⟨⟨by rw [mcs_length]; simp [hd], .inr ⟨g, cap, putCells id 0 (flatK mc 5 d) cur, rfl, hb, ?_, h1, h2, by simp [putCells, h3], ?_⟩⟩, ⟨rfl, rfl, rfl, by simp [sortWorldK, putRowK], fun k hk hne => ?_⟩⟩
  · unfold sortWorldK putRowK
    rw [heap_grow_old _ _ (by simpa using hgl)]
    simp [putRow, mapBlock, Sort.ahead, Array.getElem?_modify, hg, onCells]
  · apply List.ext_getElem?
    intro j
    have hcs : l.length * 5 ≤ cur.size := by rw [h3]; omega
    by_cases hj : j < l.length * 5
    · rw [List.getElem?_take_of_lt hj, Array.getElem?_toList]
      have hfl := flat_mcs d j (by rw [hd]; exact hj)
      have hsome : (mcs d.toList)[j]? = some ((mcs d.toList)[j]'(by rw [mcs_length]; simp [hd]; omega)) := List.getElem?_eq_getElem _
      rw [hsome] at hfl ⊢
      simp only [Option.getD_some] at hfl
      have hfl2 : (flatK mc 5 d)[j]'(by rw [size_flatK, hd]; exact hj) = (mcs d.toList)[j]'(by rw [mcs_length]; simp [hd]; omega) := by
        rw [← hfl, getElem!_pos _ j (by rw [size_flatK, hd]; exact hj)]
      simp [putCells, show j < cur.size by omega, hd, hj, hfl2]
    · rw [List.getElem?_take_eq_none (by omega), List.getElem?_eq_none (by rw [mcs_length]; simp [hd]; omega)]
  · unfold sortWorldK putRowK
    rw [heap_grow_old _ _ (by simpa using hk)]
    have : g ≠ k := fun e => hne (by rw [e])
    simp [putRow, mapBlock, Sort.ahead, Array.getElem?_modify, this]

theorem sort_any (w : World) (base g cap : Nat) (l : List Mf.Mt) (h : w.ownsRow base 45 5 (.slice (some ⟨g, 0, none⟩) l.length cap) l.length (mcs l)) (hl : l.length ≤ 1000000000) :
    Calls Tryz.prog 110 #[.slice (some ⟨g, 0, none⟩) l.length cap, .func (.func 111) #[] #[]] w fun e w' => e = .returned (.tuple #[]) ∧ ∃ m : List Mf.Mt, m.Perm l ∧ m.Pairwise (fun a b => Mf.lt b a = false) ∧ w'.ownsRow base 45 5 (.slice (some ⟨g, 0, none⟩) l.length cap) l.length (mcs m) ∧ w.grownBy w' (some g) := by
  haveI : Inhabited Mf.Mt := ⟨⟨0, 0, 0, [], []⟩⟩
  have eg : ∀ args w, (callFunc 111 args).run Tryz.prog w = .ok (.enter 111 args) w := enters_of Tryz.func111 (by kernel_rfl) rfl
  have hcmp : CmpLays Tryz.prog 111 #[] mc 5 Mf.ord g 0 l.toArray.size w := fun m os dk _ x y => by
    refine (order_any _ x y).mono ?_
    rintro e w' ⟨rfl, rfl⟩
    exact ⟨rfl, 0, _, by unfold ordW; rw [alloc_eq_grow, alloc_eq_grow, grow_grow]; rfl⟩
  have hgl : g < w.heap.size := (h.lt g rfl).2
  have hcon := AnyQ.slices_SortFunc Tryz.sortY 5 Tryz.isAgg45 Tryz.sizeOf45 mc (fun _ => rfl) (fun x v hv => by simp [mc] at hv; rcases hv with rfl | rfl | rfl | rfl | rfl <;> rfl) Mf.ord mt_swo 111 #[] g 0 cap l.toArray w eg hcmp (holds_mts h) hgl (by simp; omega)
  rw [show l.toArray.size = l.length from List.size_toArray ..] at hcon
  refine Calls.mono (show Calls Tryz.prog 110 _ _ _ from hcon) ?_
  rintro e w' ⟨rfl, d, n, os, hp, hs, rfl⟩
  have hd : d.size = l.length := by rw [hp.1]; simp
  obtain ⟨ho, hg⟩ := sorted_world (n := n) (os := os) h hd
  refine ⟨rfl, d.toList, ?_, ?_, ho, hg⟩
  · have := hp.2.2
    have e1 : (d.extract 0 l.toArray.size).toList = d.toList := by rw [show l.toArray.size = d.size by simp [hd]]; simp
    have e2 : (l.toArray.extract 0 l.toArray.size).toList = l := by simp
    rw [← e1]
    refine List.Perm.trans ?_ (List.Perm.of_eq e2)
    exact this
  · rw [List.pairwise_iff_getElem]
    intro i j hi hj hij
    have := hs i j (Nat.zero_le _) hij (by simpa [hd] using hj)
    rw [getElem!_pos d i (by simpa using hi), getElem!_pos d j (by simpa using hj)] at this
    exact this
theorem sort_none (w : World) (a : Option Addr) (cap : Nat) (f : Value) :
    Calls Tryz.prog 110 #[.slice a 0 cap, f] w fun e w' => e = .returned (.tuple #[]) ∧ w' = w := AnyF.slices_SortFunc_none Tryz.sortY a cap f w
theorem sort_own (w : World) (base n c : Nat) (a : Option Addr) (l : List Mf.Mt) (h : w.ownsRow base 45 5 (.slice a n c) n (mcs l)) (hl : n ≤ 1000000000) :
    Calls Tryz.prog 110 #[.slice a n c, .func (.func 111) #[] #[]] w fun e w' => e = .returned (.tuple #[]) ∧ ∃ m : List Mf.Mt, m.Perm l ∧ m.Pairwise (fun a b => Mf.lt b a = false) ∧ w'.ownsRow base 45 5 (.slice a n c) n (mcs m) ∧ w.grownBy w' (Value.slice a n c).ownBlock := by
  have hn : n = l.length := by have := h.1; rw [mcs_length] at this; omega
  rcases h.2 with ⟨e, h0⟩ | ⟨g, cap, cur, e, _⟩
  · simp only [Value.slice.injEq] at e
    obtain ⟨rfl, rfl, rfl⟩ := e
    have hl0 : l = [] := List.eq_nil_of_length_eq_zero hn.symm
    subst hl0
    refine (sort_none w none 0 _).mono ?_
    rintro e w' ⟨rfl, rfl⟩
    exact ⟨rfl, [], List.Perm.refl _, List.Pairwise.nil, h, ⟨rfl, rfl, rfl, Nat.le_refl _, fun _ _ _ => rfl⟩⟩
  · simp only [Value.slice.injEq, true_and] at e
    obtain ⟨rfl, rfl⟩ := e
    subst hn
    exact sort_any w base g c l h hl
end Go.Proofs.YtlhnjloimhcpfaaGreatDoor
