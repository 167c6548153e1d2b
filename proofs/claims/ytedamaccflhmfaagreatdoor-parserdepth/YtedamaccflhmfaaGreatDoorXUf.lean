/-
  The library's numerals, a text with parts put for others, and whether a text is valid UTF-8: the library's contracts, laid at this program. .. and what follows from it.
-/
import Derived.Test.YtedamaccflhmfaaGreatDoorProg
import Derived.Shelf.Strconv.Itoa4
import Derived.Shelf.LaysM
import Derived.Shelf.Strings.Replace
import Derived.Shelf.Unicode.ValidAny
import Derived.Test.YtedamaccflhmfaaGreatDoorXUe
import Derived.Lib.SmallJoins
namespace Go.Proofs.YtedamaccflhmfaaGreatDoor
open Go.Shelf
def Tryz.laysM173_ren : Go.Shelf.Ren := ⟨fun | 173 => 162 | 246 => 183 | 283 => 178 | 284 => 179 | 285 => 180 | 286 => 181 | 129 => 192 | 317 => 191 | 318 => 193 | 319 => 194 | 320 => 195 | 337 => 201 | 338 => 202 | n => n, fun | 2 => 2 | 3 => 3 | 9 => 9 | 4 => 4 | 171 => 217 | 0 => 0 | 53 => 58 | 37 => 83 | 5 => 5 | 173 => 220 | 212 => 232 | 51 => 194 | 20 => 20 | 213 => 233 | 46 => 190 | 232 => 239 | 233 => 240 | n => n, fun | 17 => 7 | 18 => 8 | 19 => 9 | n => n⟩
theorem Tryz.laysM173 : Go.Proofs.LaysM.n173 Tryz.prog Tryz.laysM173_ren := {
  mixed := by kernel_rfl
  f129 := Tryz.func192.trans (congrArg some (by kernel_rfl))
  f173 := Tryz.func162.trans (congrArg some (by kernel_rfl))
  f246 := Tryz.func183.trans (congrArg some (by kernel_rfl))
  f283 := Tryz.func178.trans (congrArg some (by kernel_rfl))
  f284 := Tryz.func179.trans (congrArg some (by kernel_rfl))
  f285 := Tryz.func180.trans (congrArg some (by kernel_rfl))
  f286 := Tryz.func181.trans (congrArg some (by kernel_rfl))
  f317 := Tryz.func191.trans (congrArg some (by kernel_rfl))
  f318 := Tryz.func193.trans (congrArg some (by kernel_rfl))
  f319 := Tryz.func194.trans (congrArg some (by kernel_rfl))
  f320 := Tryz.func195.trans (congrArg some (by kernel_rfl))
  f337 := Tryz.func201.trans (congrArg some (by kernel_rfl))
  f338 := Tryz.func202.trans (congrArg some (by kernel_rfl))
  t0 := Tryz.underlying0
  a0 := Tryz.isAgg0
  z0 := Tryz.sizeOf0
  v0 := Tryz.zeroValue0
  t2 := Tryz.underlying2
  a2 := Tryz.isAgg2
  z2 := Tryz.sizeOf2
  v2 := Tryz.zeroValue2
  t3 := Tryz.underlying3
  a3 := Tryz.isAgg3
  z3 := Tryz.sizeOf3
  v3 := Tryz.zeroValue3
  t4 := Tryz.underlying4
  a4 := Tryz.isAgg4
  z4 := Tryz.sizeOf4
  v4 := Tryz.zeroValue4
  t5 := Tryz.underlying5
  a5 := Tryz.isAgg5
  z5 := Tryz.sizeOf5
  v5 := Tryz.zeroValue5
  t9 := Tryz.underlying9
  a9 := Tryz.isAgg9
  z9 := Tryz.sizeOf9
  v9 := Tryz.zeroValue9
  t20 := Tryz.underlying20
  a20 := Tryz.isAgg20
  z20 := Tryz.sizeOf20
  v20 := Tryz.zeroValue20
  t37 := Tryz.underlying83
  a37 := Tryz.isAgg83
  z37 := Tryz.sizeOf83
  v37 := Tryz.zeroValue83
  t46 := Tryz.underlying190
  a46 := Tryz.isAgg190
  z46 := Tryz.sizeOf190
  v46 := Tryz.zeroValue190
  t51 := Tryz.underlying194
  a51 := Tryz.isAgg194
  z51 := Tryz.sizeOf194
  v51 := Tryz.zeroValue194
  t53 := Tryz.underlying58
  a53 := Tryz.isAgg58
  z53 := Tryz.sizeOf58
  v53 := Tryz.zeroValue58
  t171 := Tryz.underlying217
  a171 := Tryz.isAgg217
  z171 := Tryz.sizeOf217
  v171 := Tryz.zeroValue217
  t173 := Tryz.underlying220
  a173 := Tryz.isAgg220
  z173 := Tryz.sizeOf220
  v173 := Tryz.zeroValue220
  t212 := Tryz.underlying232
  a212 := Tryz.isAgg232
  z212 := Tryz.sizeOf232
  v212 := Tryz.zeroValue232
  t213 := Tryz.underlying233
  a213 := Tryz.isAgg233
  z213 := Tryz.sizeOf233
  t232 := Tryz.underlying239
  a232 := Tryz.isAgg239
  z232 := Tryz.sizeOf239
  v232 := Tryz.zeroValue239
  t233 := Tryz.underlying240
  a233 := Tryz.isAgg240
  z233 := Tryz.sizeOf240
  v233 := Tryz.zeroValue240
  g17 := by kernel_rfl
  g18 := by kernel_rfl
  g19 := by kernel_rfl
  i0 := by kernel_rfl
  i2 := by kernel_rfl
  i3 := by kernel_rfl
  i4 := by kernel_rfl
  i5 := by kernel_rfl
  i9 := by kernel_rfl
  i20 := by kernel_rfl
  i37 := by kernel_rfl
  i46 := by kernel_rfl
  i51 := by kernel_rfl
  i53 := by kernel_rfl
  i171 := by kernel_rfl
  i173 := by kernel_rfl
  i212 := by kernel_rfl
  i232 := by kernel_rfl
  i233 := by kernel_rfl
  m17 := by kernel_rfl
  m18 := by kernel_rfl
  m19 := by kernel_rfl }
open Go.RowKit Go.Sort Go.Lib in
theorem Tryz.strconv_FormatInt_10 (n : Int) (h0 : -9223372036854775808 ≤ n) (h1 : n ≤ 9223372036854775807) (w : World) (htab : Lib.TabIs Tryz.prog w "internal/strconv.uint64pow10" .u64 Lib.pow10Tab) :
    Calls Tryz.prog 162 #[.int .i64 n, .int .i64 10] w fun e w' => e = .returned (.string ⟨(Lib.itoa n).toArray⟩) ∧ ∃ k os, w' = grow (w.drewN k) os := Any.strconv_FormatInt_10 Tryz.laysM173 n h0 h1 w htab
def Tryz.lays155_ren : Go.Shelf.Ren := ⟨fun | 155 => 103 | 154 => 153 | 138 => 176 | 165 => 29 | 143 => 177 | 166 => 30 | 197 => 64 | 169 => 32 | 195 => 188 | 218 => 189 | 240 => 62 | 241 => 63 | 219 => 190 | 260 => 109 | 276 => 107 | 277 => 108 | 217 => 197 | 225 => 198 | 224 => 199 | 267 => 200 | 266 => 204 | 314 => 205 | n => n, fun | 9 => 9 | 3 => 3 | 4 => 4 | 72 => 85 | 0 => 0 | 76 => 89 | 105 => 126 | 21 => 21 | 5 => 5 | 70 => 82 | 20 => 20 | 37 => 83 | 75 => 88 | 127 => 125 | 164 => 146 | 46 => 190 | 119 => 189 | 139 => 193 | 138 => 192 | 146 => 237 | 51 => 194 | 80 => 92 | n => n, fun | 1 => 1 | 3 => 2 | 4 => 3 | n => n⟩
theorem Tryz.lays155 : Go.Proofs.Lays.n155 Tryz.prog Tryz.lays155_ren := {
  mixed := by kernel_rfl
  f138 := Tryz.func176.trans (congrArg some (by kernel_rfl))
  f143 := Tryz.func177.trans (congrArg some (by kernel_rfl))
  f154 := Tryz.func153.trans (congrArg some (by kernel_rfl))
  f155 := Tryz.func103.trans (congrArg some (by kernel_rfl))
  f165 := Tryz.func29.trans (congrArg some (by kernel_rfl))
  f166 := Tryz.func30.trans (congrArg some (by kernel_rfl))
  f169 := Tryz.func32.trans (congrArg some (by kernel_rfl))
  f195 := Tryz.func188.trans (congrArg some (by kernel_rfl))
  f197 := Tryz.func64.trans (congrArg some (by kernel_rfl))
  f217 := Tryz.func197.trans (congrArg some (by kernel_rfl))
  f218 := Tryz.func189.trans (congrArg some (by kernel_rfl))
  f219 := Tryz.func190.trans (congrArg some (by kernel_rfl))
  f224 := Tryz.func199.trans (congrArg some (by kernel_rfl))
  f225 := Tryz.func198.trans (congrArg some (by kernel_rfl))
  f240 := Tryz.func62.trans (congrArg some (by kernel_rfl))
  f241 := Tryz.func63.trans (congrArg some (by kernel_rfl))
  f260 := Tryz.func109.trans (congrArg some (by kernel_rfl))
  f266 := Tryz.func204.trans (congrArg some (by kernel_rfl))
  f267 := Tryz.func200.trans (congrArg some (by kernel_rfl))
  f276 := Tryz.func107.trans (congrArg some (by kernel_rfl))
  f277 := Tryz.func108.trans (congrArg some (by kernel_rfl))
  f314 := Tryz.func205.trans (congrArg some (by kernel_rfl))
  t0 := Tryz.underlying0
  a0 := Tryz.isAgg0
  z0 := Tryz.sizeOf0
  v0 := Tryz.zeroValue0
  t3 := Tryz.underlying3
  a3 := Tryz.isAgg3
  z3 := Tryz.sizeOf3
  v3 := Tryz.zeroValue3
  t4 := Tryz.underlying4
  a4 := Tryz.isAgg4
  z4 := Tryz.sizeOf4
  v4 := Tryz.zeroValue4
  t5 := Tryz.underlying5
  a5 := Tryz.isAgg5
  z5 := Tryz.sizeOf5
  v5 := Tryz.zeroValue5
  t9 := Tryz.underlying9
  a9 := Tryz.isAgg9
  z9 := Tryz.sizeOf9
  v9 := Tryz.zeroValue9
  t20 := Tryz.underlying20
  a20 := Tryz.isAgg20
  z20 := Tryz.sizeOf20
  v20 := Tryz.zeroValue20
  t21 := Tryz.underlying21
  a21 := Tryz.isAgg21
  z21 := Tryz.sizeOf21
  v21 := Tryz.zeroValue21
  t37 := Tryz.underlying83
  a37 := Tryz.isAgg83
  z37 := Tryz.sizeOf83
  v37 := Tryz.zeroValue83
  t46 := Tryz.underlying190
  a46 := Tryz.isAgg190
  z46 := Tryz.sizeOf190
  v46 := Tryz.zeroValue190
  t51 := Tryz.underlying194
  a51 := Tryz.isAgg194
  z51 := Tryz.sizeOf194
  v51 := Tryz.zeroValue194
  t70 := Tryz.underlying82
  a70 := Tryz.isAgg82
  z70 := Tryz.sizeOf82
  v70 := Tryz.zeroValue82
  t72 := Tryz.underlying85
  a72 := Tryz.isAgg85
  z72 := Tryz.sizeOf85
  v72 := Tryz.zeroValue85
  t75 := Tryz.underlying88
  a75 := Tryz.isAgg88
  z75 := Tryz.sizeOf88
  v75 := Tryz.zeroValue88
  t76 := Tryz.underlying89
  a76 := Tryz.isAgg89
  z76 := Tryz.sizeOf89
  v76 := Tryz.zeroValue89
  t105 := Tryz.underlying126
  a105 := Tryz.isAgg126
  z105 := Tryz.sizeOf126
  v105 := Tryz.zeroValue126
  t119 := Tryz.underlying189
  a119 := Tryz.isAgg189
  z119 := Tryz.sizeOf189
  t127 := Tryz.underlying125
  a127 := Tryz.isAgg125
  z127 := Tryz.sizeOf125
  v127 := Tryz.zeroValue125
  t138 := Tryz.underlying192
  a138 := Tryz.isAgg192
  z138 := Tryz.sizeOf192
  v138 := Tryz.zeroValue192
  t139 := Tryz.underlying193
  a139 := Tryz.isAgg193
  z139 := Tryz.sizeOf193
  v139 := Tryz.zeroValue193
  t146 := Tryz.underlying237
  a146 := Tryz.isAgg237
  z146 := Tryz.sizeOf237
  v146 := Tryz.zeroValue237
  t164 := Tryz.underlying146
  a164 := Tryz.isAgg146
  z164 := Tryz.sizeOf146
  v164 := Tryz.zeroValue146
  g1 := by kernel_rfl
  g3 := by kernel_rfl
  g4 := by kernel_rfl }
theorem Tryz.Builder_Extra_155 : Builder.Extra Tryz.prog Tryz.lays155_ren := {
  sizeBuilder := by kernel_rfl
  liesBuilder := by kernel_rfl
  t5 := Tryz.underlying5
  a5 := Tryz.isAgg5
  z5 := Tryz.sizeOf5
  v5 := Tryz.zeroValue5
  infoByte := by kernel_rfl
  cellsByte := by kernel_rfl
  sizeByte := by kernel_rfl
  neB5 := by decide }
open Go.RowKit Go.Lib in
theorem Tryz.strings_ReplaceAll (s old new : ByteArray) (m : Int) (w : World) (hs : s.size < 4294967281) (hm : w.cell? ⟨1, 0, none⟩ = some (.int .i64 m)) (h1 : 1 ≤ old.size) (hlen : s.size + Lib.countB s old * new.size ≤ 140737488355328) :
    Calls Tryz.prog 103 #[.string s, .string old, .string new] w fun e w' =>
      e = .returned (.string ⟨(Lib.replaceAll s.data.toList old.data.toList new.data.toList).toArray⟩) ∧ Below w.heap.size w w' := Any.strings_ReplaceAll Tryz.lays155 Tryz.Builder_Extra_155 s old new m w hs hm h1 hlen
def Tryz.lays196_ren : Go.Shelf.Ren := ⟨fun | 196 => 163 | 259 => 184 | n => n, fun | 9 => 9 | 4 => 4 | 3 => 3 | 5 => 5 | 12 => 12 | 119 => 189 | 0 => 0 | 46 => 190 | 139 => 193 | 138 => 192 | 53 => 58 | n => n, fun | 3 => 2 | 4 => 3 | n => n⟩
theorem Tryz.lays196 : Go.Proofs.Lays.n196 Tryz.prog Tryz.lays196_ren := {
  mixed := by kernel_rfl
  f196 := Tryz.func163.trans (congrArg some (by kernel_rfl))
  f259 := Tryz.func184.trans (congrArg some (by kernel_rfl))
  t0 := Tryz.underlying0
  a0 := Tryz.isAgg0
  z0 := Tryz.sizeOf0
  v0 := Tryz.zeroValue0
  t3 := Tryz.underlying3
  a3 := Tryz.isAgg3
  z3 := Tryz.sizeOf3
  v3 := Tryz.zeroValue3
  t4 := Tryz.underlying4
  a4 := Tryz.isAgg4
  z4 := Tryz.sizeOf4
  v4 := Tryz.zeroValue4
  t5 := Tryz.underlying5
  a5 := Tryz.isAgg5
  z5 := Tryz.sizeOf5
  v5 := Tryz.zeroValue5
  t9 := Tryz.underlying9
  a9 := Tryz.isAgg9
  z9 := Tryz.sizeOf9
  v9 := Tryz.zeroValue9
  t12 := Tryz.underlying12
  a12 := Tryz.isAgg12
  z12 := Tryz.sizeOf12
  v12 := Tryz.zeroValue12
  t46 := Tryz.underlying190
  a46 := Tryz.isAgg190
  z46 := Tryz.sizeOf190
  v46 := Tryz.zeroValue190
  t53 := Tryz.underlying58
  a53 := Tryz.isAgg58
  z53 := Tryz.sizeOf58
  v53 := Tryz.zeroValue58
  t119 := Tryz.underlying189
  a119 := Tryz.isAgg189
  z119 := Tryz.sizeOf189
  t138 := Tryz.underlying192
  a138 := Tryz.isAgg192
  z138 := Tryz.sizeOf192
  v138 := Tryz.zeroValue192
  t139 := Tryz.underlying193
  a139 := Tryz.isAgg193
  z139 := Tryz.sizeOf193
  v139 := Tryz.zeroValue193
  g3 := by kernel_rfl
  g4 := by kernel_rfl }
open Go.RowKit Go.Lib in
theorem Tryz.utf8_ValidString (s : ByteArray) (w : World) (hs : s.size ≤ 9223372036854775807) (hT : Lib.Utf8Tabs 2 3 w) :
    Calls Tryz.prog 163 #[.string s] w fun e w' => e = .returned (.bool (Lib.validD s.data.toList)) ∧ Below w.heap.size w w' := Any.utf8_ValidString Tryz.lays196 s w hs hT
end Go.Proofs.YtedamaccflhmfaaGreatDoor
namespace Go.Proofs.YtedamaccflhmfaaGreatDoor
open Go.RowKit
attribute [local go_sem ↓] Go.wp_at_zero Go.wp_at_succ

/-- The library's tables lie there, and the longest haystack of its search is some number. -/
structure Tabs (w : World) : Prop where
  pow : Lib.TabIs Tryz.prog w "internal/strconv.uint64pow10" .u64 Lib.pow10Tab
  utf : Lib.Utf8Tabs 2 3 w
  max : ∃ m, w.cell? ⟨1, 0, none⟩ = some (.int .i64 m)

theorem pow_named : Tryz.prog.globalNamed "internal/strconv.uint64pow10" = some 7 := by kernel_rfl
theorem utf_later {w w' : World} {a b : Nat} (h : Lib.Utf8Tabs a b w) (hb : Below w.heap.size w w') : Lib.Utf8Tabs a b w' :=
  ⟨fun c hc => (hb.cell (World.block_lt_of_cell? w _ (h.1 c hc))).trans (h.1 c hc), fun i hi => ⟨(hb.cell (World.block_lt_of_cell? w _ (h.2 i hi).1)).trans (h.2 i hi).1, (hb.cell (World.block_lt_of_cell? w _ (h.2 i hi).2)).trans (h.2 i hi).2⟩⟩
theorem Tabs.later {w w' : World} (h : Tabs w) (hb : Below w.heap.size w w') : Tabs w' :=
  ⟨Joins.tab_stays pow_named h.pow hb (Nat.le_refl _), utf_later h.utf hb, by obtain ⟨m, hm⟩ := h.max; exact ⟨m, (hb.cell (World.block_lt_of_cell? w _ hm)).trans hm⟩⟩

/-- A value's literal. -/
def litB (v : Val) : List UInt8 :=
  if v.k = 1 then (if isT v then [84, 82, 85, 69] else [70, 65, 76, 83, 69]) else if v.k = 2 then Lib.itoa v.n else if v.k = 3 then 39 :: (twiceL v.t.data.toList ++ [39]) else [78, 85, 76, 76]
def litE (v : Val) : Int := if v.may && (!(v.k == 3) || Lib.validD v.t.data.toList) then 0 else 2
def litS (v : Val) : ByteArray := if litE v = 0 then ⟨(litB v).toArray⟩ else ⟨#[]⟩

theorem quoted_bytes (l : List UInt8) : (⟨#[39]⟩ : ByteArray) ++ ⟨l.toArray⟩ ++ ⟨#[39]⟩ = ⟨(39 :: (l ++ [39])).toArray⟩ := by
  apply ByteArray.ext
  simp [ByteArray.data_append]

theorem below_grow (w : World) (k : Nat) (os : Array Obj) : Below w.heap.size w (Sort.grow (w.drewN k) os) :=
  ⟨rfl, rfl, rfl, by simp [Sort.grow], fun i hi => by
    show ((w.drewN k).heap ++ os)[i]? = _
    rw [Array.getElem?_append_left (by show i < w.heap.size; omega)]
    rfl⟩

theorem lit_cases (v : Val) (hm : v.may = true) : v.k = 0 ∨ v.k = 1 ∨ v.k = 2 ∨ v.k = 3 := by
  rcases may_cases v hm with ⟨a, _⟩ | ⟨a, _⟩ | ⟨a, _⟩ | ⟨a, _⟩ <;> simp [a]

set_option maxHeartbeats 3200000 in
theorem literal_any (w : World) (v : Val) (hv : v.wf) (hT : Tabs w) :
    Calls Tryz.prog 119 #[.agg #[.int .u8 v.k, .int .i64 v.n, .string v.t]] w fun e w' => e = .returned (.tuple #[.string (litS v), .int .i64 (litE v)]) ∧ Below w.heap.size w w' := by
  have CH := hide (fun wx => check_any wx v.k v.n v.t hv.t1)
  have B1 : Below w.heap.size w (w.alloc (.cells #[.int .u8 v.k, .int .i64 v.n, .string v.t] 31)) := (Below.refl _ _).alloc (Nat.le_refl _) _
  have B2 := B1.alloc B1.size (.cells #[.int .u8 v.k, .int .i64 v.n, .string v.t] 31)
  have T2 := hide (hT.later B2)
  cases hm : v.may
  · have e1 : litE v = 2 := by unfold litE; rw [hm]; rfl
    have e2 : litS v = ⟨#[]⟩ := by unfold litS; rw [e1]; rfl
    rw [e1, e2]
    rw [show chk v.k v.n v.t = 2 from by unfold chk; rw [show mayV v.k v.n v.t = false from hm]; rfl] at CH
    clear hv hT hm e1 e2
    obtain ⟨k, n, t⟩ := v
    go_enter Tryz.func119, Tryz.ntmps119
    go_wp2_with (go_at_call 160; refine (CH.out _).mono ?_; rintro e w' ⟨rfl, rfl⟩)
    go_ret2
    exact ⟨rfl, B2⟩
  · rw [show chk v.k v.n v.t = 0 from by unfold chk; rw [show mayV v.k v.n v.t = true from hm]; rfl] at CH
    have hz := may_size hm
    rcases lit_cases v hm with hk | hk | hk | hk
    · have e1 : litE v = 0 := by unfold litE; rw [hm, hk]; rfl
      have e2 : litS v = ⟨#[78, 85, 76, 76]⟩ := by unfold litS litB; rw [e1, hk]; rfl
      rw [e1, e2]
      clear hv hT hm e1 e2 hz
      obtain ⟨k, n, t⟩ := v
      simp only at hk
      subst hk
      go_enter Tryz.func119, Tryz.ntmps119
      go_wp2_with (go_at_call 160; refine (CH.out _).mono ?_; rintro e w' ⟨rfl, rfl⟩)
      go_ret2
      exact ⟨rfl, B2⟩
    · have e1 : litE v = 0 := by unfold litE; rw [hm, hk]; rfl
      obtain ⟨T, hTv⟩ : ∃ T, T = isT v := ⟨_, rfl⟩
      have e2 : litS v = if T then ⟨#[84, 82, 85, 69]⟩ else ⟨#[70, 65, 76, 83, 69]⟩ := by
        unfold litS litB; rw [e1, hk, if_pos rfl, if_pos rfl, hTv]; split <;> rfl
      have CT := hide (fun wx => true_any wx v)
      rw [← hTv] at CT
      rw [e1, e2]
      clear hv hT hm e1 e2 hz hTv
      obtain ⟨k, n, t⟩ := v
      simp only at hk
      subst hk
      cases T
      all_goals
        go_enter Tryz.func119, Tryz.ntmps119
        go_wp2_with (first
          | (go_at_call 160; refine (CH.out _).mono ?_; rintro e w' ⟨rfl, rfl⟩)
          | (go_at_call 161; refine (CT.out _).mono ?_; rintro e w3 ⟨rfl, hb3⟩; have B3 := B2.trans (hb3.mono B2.size)))
        go_ret2
        exact ⟨rfl, B3⟩
    · have e1 : litE v = 0 := by unfold litE; rw [hm, hk]; rfl
      have e2 : litS v = ⟨(Lib.itoa v.n).toArray⟩ := by unfold litS litB; rw [e1, hk]; rfl
      rw [e1, e2]
      have FM := hide (fun wx (h : Tabs wx) => Tryz.strconv_FormatInt_10 v.n hv.n0 hv.n1 wx h.pow)
      clear hv hT hm e1 e2 hz
      obtain ⟨k, n, t⟩ := v
      simp only at hk
      subst hk
      go_enter Tryz.func119, Tryz.ntmps119
      go_wp2_with (first
        | (go_at_call 160; refine (CH.out _).mono ?_; rintro e w' ⟨rfl, rfl⟩)
        | (go_at_call 162; refine (FM.out _ T2.out).mono ?_; rintro e w3 ⟨rfl, kk, os, hw3⟩; have B3 : Below w.heap.size w w3 := (by rw [hw3]; exact B2.trans ((below_grow _ _ _).mono B2.size)); clear hw3))
      go_ret2
      exact ⟨rfl, B3⟩
    · obtain ⟨V, hV⟩ : ∃ V, V = Lib.validD v.t.data.toList := ⟨_, rfl⟩
      have e1 : litE v = if V then 0 else 2 := by unfold litE; rw [hm, hk, hV]; simp
      have VS := hide (fun wx (h : Tabs wx) => Tryz.utf8_ValidString v.t wx (by omega) h.utf)
      rw [← hV] at VS
      cases V
      · have e2 : litS v = ⟨#[]⟩ := by unfold litS; rw [e1]; rfl
        rw [e1, e2]
        clear hv hT hm e1 e2 hz hV
        obtain ⟨k, n, t⟩ := v
        simp only at hk
        subst hk
        go_enter Tryz.func119, Tryz.ntmps119
        go_wp2_with (first
          | (go_at_call 160; refine (CH.out _).mono ?_; rintro e w' ⟨rfl, rfl⟩)
          | (go_at_call 163; refine (VS.out _ T2.out).mono ?_; rintro e w3 ⟨rfl, hb3⟩; have B3 := B2.trans (hb3.mono B2.size)))
        go_ret2
        exact ⟨rfl, B3⟩
      · obtain ⟨l, hl⟩ : ∃ l, l = twiceL v.t.data.toList := ⟨_, rfl⟩
        have e2 : litS v = (⟨#[39]⟩ : ByteArray) ++ ⟨l.toArray⟩ ++ ⟨#[39]⟩ := by
          unfold litS litB; rw [e1, hk, quoted_bytes, hl]; rfl
        have hlz : l.length ≤ 2000 := by
          rw [hl]
          have := twiceL_length v.t.data.toList
          have hs : v.t.data.toList.length = v.t.size := by rw [Array.length_toList]; rfl
          omega
        have RA := hide (fun wx (h : Tabs wx) => by
          obtain ⟨m, hm⟩ := h.max
          have c := Lib.countB_mul_le ⟨#[39]⟩ (by decide) _ v.t (Nat.le_refl _)
          have hs : (⟨#[39]⟩ : ByteArray).size = 1 := rfl
          have hs2 : (⟨#[39, 39]⟩ : ByteArray).size = 2 := rfl
          have := Tryz.strings_ReplaceAll v.t ⟨#[39]⟩ ⟨#[39, 39]⟩ m wx (by omega) hm (by decide) (by rw [hs2]; rw [hs] at c; omega)
          rw [show (⟨#[39]⟩ : ByteArray).data.toList = [39] from rfl, show (⟨#[39, 39]⟩ : ByteArray).data.toList = [39, 39] from rfl, replace_twice, ← hl] at this
          exact this)
        have hsz : (⟨l.toArray⟩ : ByteArray).size ≤ 2000 := by show l.toArray.size ≤ 2000; rw [List.size_toArray]; exact hlz
        rw [e1, e2]
        obtain ⟨R, hR⟩ : ∃ R : ByteArray, R = ⟨l.toArray⟩ := ⟨_, rfl⟩
        rw [← hR] at RA hsz ⊢
        clear hv hT hm e1 e2 hz hV hl hlz hR
        obtain ⟨k, n, t⟩ := v
        simp only at hk
        subst hk
        go_enter Tryz.func119, Tryz.ntmps119
        go_wp2_with (first
          | (go_at_call 160; refine (CH.out _).mono ?_; rintro e w' ⟨rfl, rfl⟩)
          | (go_at_call 163; refine (VS.out _ T2.out).mono ?_; rintro e w3 ⟨rfl, hb3⟩; have B3 := B2.trans (hb3.mono B2.size); have T3 := T2.out.later hb3; have k2 : w3.cell? ⟨w.heap.size, 2, none⟩ = some (.string t) := (ahead_slot hb3).2.2)
          | (go_at_call 103; refine (RA.out _ T3).mono ?_; rintro e w4 ⟨rfl, hb4⟩; have B4 := B3.trans (hb4.mono B3.size)))
        go_ret2
        exact ⟨rfl, B4⟩
end Go.Proofs.YtedamaccflhmfaaGreatDoor
