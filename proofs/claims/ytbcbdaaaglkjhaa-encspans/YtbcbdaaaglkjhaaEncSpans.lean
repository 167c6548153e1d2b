/-
  Proved: for every two texts s and key, every span p and every two stamps t and u the call EncSpans(s, key, p, t, u) returns true and leaves its arguments as they were: stamps' texts, reading them, the least text above, being in a span and being later are what the document says.
  Conditions: none beyond the form's own reach.
-/
import Derived.Test.YtbcbdaaaglkjhaaRows
import Derived.Test.YtbcbdaaaglkjhaaLives
import Derived.Test.YtbcbdaaaglkjhaaRefStamp
import Derived.Test.YtbcbdaaaglkjhaaRefSpan
import Derived.Test.YtbcbdaaaglkjhaaRefUnstamp
import Derived.ProofKit
import Derived.OpenShut
import Derived.ShutString
import Derived.ChangeOld
import Derived.Lib.SmallJoins
import Derived.Deep.RegionHeld3
import Derived.Deep.DrawnRows
namespace Go.Proofs.Ytbcbdaaaglkjhaa.encSpans
open Go.ChangeShapes Go.WideShapes Go.ChangeAt Go.RowKit
open Go.ChangeMaps (open_string shut_string)
open Go.Proofs.Ytbcbdaaaglkjhaa
attribute [local go_sem ↓] Go.wp_at_zero Go.wp_at_succ

theorem own : ownKnob Try.prog.godebug = none := by kernel_rfl

theorem keep1 {W w1 : World} (hb : Below W.heap.size W w1) {p : Addr} {v : Value} (h : W.cell? p = some v) : w1.cell? p = some v := (hb.cell (World.block_lt_of_cell? W p h)).trans h

theorem chain {w W w' : World} (h : Below w.heap.size w W) (k : Below W.heap.size W w') : Below w.heap.size w w' := h.trans (k.mono h.size)

/-- The cells of the span and the two stamps. -/
structure Eight (w : World) (N : Nat) (f t : ByteArray) (a b c a' b' c' : Int) : Prop where
  s0 : w.cell? ⟨N, 0, none⟩ = some (.string f)
  s1 : w.cell? ⟨N, 1, none⟩ = some (.string t)
  c0 : w.cell? ⟨N + 1, 0, none⟩ = some (.int .i64 a)
  c1 : w.cell? ⟨N + 1, 1, none⟩ = some (.int .i32 b)
  c2 : w.cell? ⟨N + 1, 2, none⟩ = some (.int .i32 c)
  d0 : w.cell? ⟨N + 1 + 1, 0, none⟩ = some (.int .i64 a')
  d1 : w.cell? ⟨N + 1 + 1, 1, none⟩ = some (.int .i32 b')
  d2 : w.cell? ⟨N + 1 + 1, 2, none⟩ = some (.int .i32 c')
theorem Eight.later {W w1 : World} {N : Nat} {f t : ByteArray} {a b c a' b' c' : Int} (h : Eight W N f t a b c a' b' c') (hb : Below W.heap.size W w1) : Eight w1 N f t a b c a' b' c' :=
  ⟨keep1 hb h.s0, keep1 hb h.s1, keep1 hb h.c0, keep1 hb h.c1, keep1 hb h.c2, keep1 hb h.d0, keep1 hb h.d1, keep1 hb h.d2⟩
theorem Eight.alloc {W : World} {N : Nat} {f t : ByteArray} {a b c a' b' c' : Int} (h : Eight W N f t a b c a' b' c') (o : Obj) : Eight (W.alloc o) N f t a b c a' b' c' := h.later ((Below.refl _ _).alloc (Nat.le_refl _) o)
theorem eight_new (w : World) (f t : ByteArray) (a b c a' b' c' : Int) : Eight (((w.alloc (.cells #[.string f, .string t] 43)).alloc (.cells #[.int .i64 a, .int .i32 b, .int .i32 c] 35)).alloc (.cells #[.int .i64 a', .int .i32 b', .int .i32 c'] 35)) w.heap.size f t a b c a' b' c' := by
  constructor <;> simp [go_sem, World.cell?_alloc_past]

theorem in_b (w : World) (k f t : ByteArray) : Calls Try.prog 15 #[.string k, .agg #[.string f, .string t]] w fun e w' => e = .returned (.bool (inB k.toList f.toList t.toList)) ∧ Below w.heap.size w w' :=
  (in_any w k f t).mono fun e w' ⟨he, hw⟩ => ⟨he, by rw [hw]; exact (Below.refl _ _).alloc (Nat.le_refl _) _⟩
theorem refIn_b (w : World) (k f t : ByteArray) : Calls Try.prog 40 #[.string k, .agg #[.string f, .string t]] w fun e w' => e = .returned (.bool (inB k.toList f.toList t.toList)) ∧ Below w.heap.size w w' :=
  (refIn_any w k f t).mono fun e w' ⟨he, hw⟩ => ⟨he, by rw [hw]; exact (Below.refl _ _).alloc (Nat.le_refl _) _⟩

set_option maxHeartbeats 8000000 in
theorem walk (s k f t : ByteArray) (a b c a' b' c' : Int) (w : World) (hs : s.size ≤ 9223372036854775807) :
    Calls Try.prog 6 #[.string s, .string k, .agg #[.string f, .string t], .agg #[.int .i64 a, .int .i32 b, .int .i32 c], .agg #[.int .i64 a', .int .i32 b', .int .i32 c']] w fun e w' => e = .returned (.bool true) ∧ Below w.heap.size w w' := by
  obtain ⟨SA, hSA⟩ : ∃ S, S = stS a b c := ⟨_, rfl⟩
  obtain ⟨E, hE⟩ : ∃ S, S = stE a b c := ⟨_, rfl⟩
  obtain ⟨xa, hxa⟩ : ∃ S, S = uA s.data.toList := ⟨_, rfl⟩
  obtain ⟨xb, hxb⟩ : ∃ S, S = uB s.data.toList := ⟨_, rfl⟩
  obtain ⟨xc, hxc⟩ : ∃ S, S = uC s.data.toList := ⟨_, rfl⟩
  obtain ⟨G, hG⟩ : ∃ S, S = uE s.data.toList := ⟨_, rfl⟩
  obtain ⟨AF, hAF⟩ : ∃ S : ByteArray, S = ⟨(aft s.data.toList).toArray⟩ := ⟨_, rfl⟩
  have H1 : Hid (∀ w : World, Calls Try.prog 11 #[.agg #[.int .i64 a, .int .i32 b, .int .i32 c]] w fun e w' => e = .returned (.tuple #[.string SA, .int .i64 E]) ∧ Below w.heap.size w w') := by rw [hSA, hE]; exact fun w => stamp_any w a b c
  have H2 : Hid (∀ w : World, Calls Try.prog 36 #[.agg #[.int .i64 a, .int .i32 b, .int .i32 c]] w fun e w' => e = .returned (.tuple #[.string SA, .int .i64 E]) ∧ Below w.heap.size w w') := by rw [hSA, hE]; exact fun w => refStamp_any w a b c
  have H3 : Hid (∀ w : World, Calls Try.prog 37 #[.string s] w fun e w' => e = .returned (.tuple #[.agg #[.int .i64 xa, .int .i32 xb, .int .i32 xc], .int .i64 G]) ∧ Below w.heap.size w w') := by rw [hxa, hxb, hxc, hG]; exact fun w => unstamp_any w s
  have H4 : Hid (∀ w : World, Calls Try.prog 38 #[.string s] w fun e w' => e = .returned (.tuple #[.agg #[.int .i64 xa, .int .i32 xb, .int .i32 xc], .int .i64 G]) ∧ Below w.heap.size w w') := by rw [hxa, hxb, hxc, hG]; exact fun w => refUnstamp_any w s
  have H5 : Hid (∀ w : World, Calls Try.prog 14 #[.string s] w fun e w' => e = .returned (.string AF) ∧ Below w.heap.size w w') := by rw [hAF]; exact fun w => after_any w s hs
  have H6 : Hid (∀ w : World, Calls Try.prog 39 #[.string s] w fun e w' => e = .returned (.string AF) ∧ Below w.heap.size w w') := by rw [hAF]; exact fun w => refAfter_any w s hs
  clear hSA hE hxa hxb hxc hG hAF hs
  go_enter Try.func6, Try.ntmps6
  go_wp2_with (first
    | (go_at_call 11; refine (H1.out _).mono ?_; rintro e w1 ⟨rfl, hb1⟩; have S1 := (eight_new w f t a b c a' b' c').later hb1; have S1' := S1; obtain ⟨p0, p1, p2, p3, p4, p5, p6, p7⟩ := S1')
    | (go_at_call 36; refine (H2.out _).mono ?_; rintro e w2 ⟨rfl, hb2⟩; have S2 := S1.later hb2)
    | (go_at_call 37; refine (H3.out _).mono ?_; rintro e w3 ⟨rfl, hb3⟩; have S3 := (S2.later hb3).alloc (.cells #[.int .i64 xa, .int .i32 xb, .int .i32 xc] 35))
    | (go_at_call 38; refine (H4.out _).mono ?_; rintro e w4 ⟨rfl, hb4⟩; have S4 := (S3.later hb4).alloc (.cells #[.int .i64 xa, .int .i32 xb, .int .i32 xc] 35)))
  obtain ⟨r0, r1, r2, r3, r4, r5, r6, r7⟩ := S4
  have hz4 := hb4.size
  simp only [World.size_alloc] at hz4
  have m0 : (w4.alloc (.cells #[.int .i64 xa, .int .i32 xb, .int .i32 xc] 35)).cell? ⟨w3.heap.size, 0, none⟩ = some (.int .i64 xa) := keep1 ((Below.refl _ _).alloc (Nat.le_refl _) _) (keep1 hb4 (by simp [go_sem]))
  have m1 : (w4.alloc (.cells #[.int .i64 xa, .int .i32 xb, .int .i32 xc] 35)).cell? ⟨w3.heap.size, 1, none⟩ = some (.int .i32 xb) := keep1 ((Below.refl _ _).alloc (Nat.le_refl _) _) (keep1 hb4 (by simp [go_sem]))
  have m2 : (w4.alloc (.cells #[.int .i64 xa, .int .i32 xb, .int .i32 xc] 35)).cell? ⟨w3.heap.size, 2, none⟩ = some (.int .i32 xc) := keep1 ((Below.refl _ _).alloc (Nat.le_refl _) _) (keep1 hb4 (by simp [go_sem]))
  have n0 : (w4.alloc (.cells #[.int .i64 xa, .int .i32 xb, .int .i32 xc] 35)).cell? ⟨w4.heap.size, 0, none⟩ = some (.int .i64 xa) := by simp [go_sem]
  have n1 : (w4.alloc (.cells #[.int .i64 xa, .int .i32 xb, .int .i32 xc] 35)).cell? ⟨w4.heap.size, 1, none⟩ = some (.int .i32 xb) := by simp [go_sem]
  have n2 : (w4.alloc (.cells #[.int .i64 xa, .int .i32 xb, .int .i32 xc] 35)).cell? ⟨w4.heap.size, 2, none⟩ = some (.int .i32 xc) := by simp [go_sem]
  have B1 : Below w.heap.size w w1 := ((((Below.refl _ _).alloc (Nat.le_refl _) _).alloc (by simp) _).alloc (by simp; omega) _).trans (hb1.mono (by simp; omega))
  have B2 : Below w.heap.size w w2 := B1.trans (hb2.mono B1.size)
  have B3 : Below w.heap.size w w3 := B2.trans (hb3.mono B2.size)
  have B4 : Below w.heap.size w (w4.alloc (.cells #[.int .i64 xa, .int .i32 xb, .int .i32 xc] 35)) := (((B3.alloc B3.size _).trans (hb4.mono (by have := B3.size; simp; omega)))).alloc (by have := B3.size; omega) _
  have HB4 : Hid (Below w.heap.size w (w4.alloc (.cells #[.int .i64 xa, .int .i32 xb, .int .i32 xc] 35))) := B4
  clear B1 B2 B3 B4 hb1 hb2 hb3 hb4 S1 S2 S3 H1 H2 H3 H4 p0 p1 p2 p3 p4 p5 p6 p7 hz4
  go_region_held3 (fun w' => w'.cell? ⟨w.heap.size, 0, none⟩ = some (.string f) ∧ w'.cell? ⟨w.heap.size, 1, none⟩ = some (.string t) ∧ w'.cell? ⟨w.heap.size + 1, 0, none⟩ = some (.int .i64 a) ∧ w'.cell? ⟨w.heap.size + 1, 1, none⟩ = some (.int .i32 b) ∧ w'.cell? ⟨w.heap.size + 1, 2, none⟩ = some (.int .i32 c) ∧ w'.cell? ⟨w.heap.size + 1 + 1, 0, none⟩ = some (.int .i64 a') ∧ w'.cell? ⟨w.heap.size + 1 + 1, 1, none⟩ = some (.int .i32 b') ∧ w'.cell? ⟨w.heap.size + 1 + 1, 2, none⟩ = some (.int .i32 c') ∧ w'.cell? ⟨w3.heap.size, 0, none⟩ = some (.int .i64 xa) ∧ w'.cell? ⟨w3.heap.size, 1, none⟩ = some (.int .i32 xb) ∧ w'.cell? ⟨w3.heap.size, 2, none⟩ = some (.int .i32 xc) ∧ w'.cell? ⟨w4.heap.size, 0, none⟩ = some (.int .i64 xa) ∧ w'.cell? ⟨w4.heap.size, 1, none⟩ = some (.int .i32 xb) ∧ w'.cell? ⟨w4.heap.size, 2, none⟩ = some (.int .i32 xc))
    (first | (go_split_ands; refine ⟨?_, ?_, ?_, ?_, ?_, ?_, ?_, ?_, ?_, ?_, ?_, ?_, ?_, ?_⟩ <;> exact keep1 hb (by assumption)) | (go_keep; done))
    (first
      | (go_at_call 17; refine (lives_any _).mono ?_; rintro e w' ⟨rfl, hb⟩; have K1 := hb)
      | (go_at_call 14; refine (H5.out _).mono ?_; rintro e w' ⟨rfl, hb⟩; have K2 := hb)
      | (go_at_call 39; refine (H6.out _).mono ?_; rintro e w' ⟨rfl, hb⟩; have K3 := hb)
      | (go_at_call 15; refine (in_b _ _ _ _).mono ?_; rintro e w' ⟨rfl, hb⟩; have K4 := hb)
      | (go_at_call 40; refine (refIn_b _ _ _ _).mono ?_; rintro e w' ⟨rfl, hb⟩; have K5 := hb)
      | (go_at_call 41; refine (later_any _ _ _ _ _ _ _).mono ?_; rintro e w' ⟨rfl, hb⟩; have K6 := hb)
      | (go_at_call 42; refine (refLater_any _ _ _ _ _ _ _).mono ?_; rintro e w' ⟨rfl, hb⟩; have K7 := hb))
  have C0 := HB4.out
  first | have C1 := chain C0 K1 | have C1 := chain C0.drew K1
  first | have C2 := chain C1 K2 | have C2 := chain C1.drew K2
  first | have C3 := chain C2 K3 | have C3 := chain C2.drew K3
  first | have C4 := chain C3 K4 | have C4 := chain C3.drew K4
  first | have C5 := chain C4 K5 | have C5 := chain C4.drew K5
  first | have C6 := chain C5 K6 | have C6 := chain C5.drew K6
  first | have C7 := chain C6 K7 | have C7 := chain C6.drew K7
  clear K1 K2 K3 K4 K5 K6 K7 C0 C1 C2 C3 C4 C5 C6 m0 m1 m2 n0 n1 n2 r0 r1 r2 r3 r4 r5 r6 r7 HB4
  go_wp2
  go_ret
  exact ⟨rfl, by first | exact C7 | exact C7.drew⟩

theorem laidOut : laidOutB Try.prog = true := by kernel_rfl
theorem cellsS : Try.prog.cellsOf 35 = 3 := by kernel_rfl
theorem cellsP : Try.prog.cellsOf 43 = 2 := by kernel_rfl

set_option maxRecDepth 100000 in
theorem lifted (os : Os) (started : os.Started) (H : Type) (enc : TypeId × Value → H) :
    ReturnsInHanded {} Try.checked os 6 .any (Rows.encSpansSpec.pre6 enc Try.prog Try.f6 Rows.encSpansRow.domain false) (Rows.encSpansSpec.post enc Try.prog Try.f6 false true false false) := by
  refine returnsInHanded_of_change (C := Try.checked) own started (by kernel_rfl) Try.func6
    (ChangeSpec.witness6 (enc := enc) (C := Try.checked) false ⟨#[], #[.string ByteArray.empty, .string ByteArray.empty, .agg #[.string ByteArray.empty, .string ByteArray.empty], .agg #[.int .i64 0, .int .i32 0, .int .i32 0], .agg #[.int .i64 0, .int .i32 0, .int .i32 0]], []⟩ 8 (by kernel_rfl) (by kernel_rfl) (by kernel_rfl) (by kernel_rfl)) ?_
  intro W base args ds gs before hval0 hW hcnd _
  have hval : ∀ (j : Nat) t v, Try.f6.params[j]? = some t → args[j]? = some v → Value.okWide Try.prog W .any base t v := hval0
  have hW' := hW
  obtain ⟨p, q, hA0, hV, rfl, hfz, hnd⟩ := hW
  have hA : DataW.TrodAll enc Try.prog W 0 (fun _ => true) true Try.f6.params.toList args.toList ds p := hA0
  rw [Try.params6] at hA hval
  obtain ⟨v0, vs0, d0, ds0, p0, q0, hargs, rfl, rfl, h0, r0⟩ := trodAll_cons hA
  obtain ⟨v1, vs1, d1, ds1, p1, q1, rfl, rfl, rfl, h1, r1⟩ := trodAll_cons r0
  obtain ⟨v2, vs2, d2, ds2, p2, q2, rfl, rfl, rfl, h2, r2⟩ := trodAll_cons r1
  obtain ⟨v3, vs3, d3, ds3, p3, q3, rfl, rfl, rfl, h3, r3⟩ := trodAll_cons r2
  obtain ⟨v4, vs4, d4, ds4, p4, q4, rfl, rfl, rfl, h4, r4⟩ := trodAll_cons r3
  obtain ⟨rfl, rfl, rfl⟩ := trodAll_nil r4
  obtain rfl : args = #[v0, v1, v2, v3, v4] := by cases args; simp_all
  obtain ⟨rfl, rfl⟩ := trodVars_none hV
  have k0 := h0
  have k1 := h1
  have k2 := h2
  have k3 := h3
  have k4 := h4
  have lt0 : ∀ x ∈ p0, x.block < W.heap.size := by obtain ⟨m, hm⟩ := k0; exact DataW.trod_lt m _ _ _ hm
  have lt1 : ∀ x ∈ p1, x.block < W.heap.size := by obtain ⟨m, hm⟩ := k1; exact DataW.trod_lt m _ _ _ hm
  have lt2 : ∀ x ∈ p2, x.block < W.heap.size := by obtain ⟨m, hm⟩ := k2; exact DataW.trod_lt m _ _ _ hm
  have lt3 : ∀ x ∈ p3, x.block < W.heap.size := by obtain ⟨m, hm⟩ := k3; exact DataW.trod_lt m _ _ _ hm
  have lt4 : ∀ x ∈ p4, x.block < W.heap.size := by obtain ⟨m, hm⟩ := k4; exact DataW.trod_lt m _ _ _ hm
  obtain ⟨s, rfl, hs⟩ : ∃ s, v0 = .string s ∧ s.size ≤ maxLen := by
    obtain ⟨s, hs, _, _, hl⟩ := open_string Try.underlying9 (hval 0 9 v0 rfl rfl) h0
    exact ⟨s, hs, hl⟩
  obtain ⟨k, rfl⟩ : ∃ s, v1 = .string s := by
    obtain ⟨s, hs, _⟩ := open_string Try.underlying9 (hval 1 9 v1 rfl rfl) h1
    exact ⟨s, hs⟩
  obtain ⟨f, t, rfl⟩ : ∃ f t, v2 = .agg #[.string f, .string t] := by
    obtain ⟨c0, c1, y0, y1, m, rfl, _, _, hy0, hy1⟩ := Joins.open_agg2 Try.underlying43 (by kernel_rfl) cellsP (hval 2 43 v2 rfl rfl) h2
    obtain ⟨a, e0, _, _⟩ := DataW.trod_string Try.underlying9 hy0
    obtain ⟨b, e1, _, _⟩ := DataW.trod_string Try.underlying9 hy1
    simp at e0 e1
    subst e0 e1
    exact ⟨a, b, rfl⟩
  obtain ⟨a, b, c, rfl⟩ : ∃ a b c, v3 = .agg #[.int .i64 a, .int .i32 b, .int .i32 c] := by
    obtain ⟨c0, c1, c2, y0, y1, y2, m, rfl, _, _, hy0, hy1, hy2⟩ := Joins.open_agg3 Try.underlying35 (by kernel_rfl) cellsS (hval 3 35 v3 rfl rfl) h3
    obtain ⟨a, e0, _, _⟩ := DataW.trod_int Try.underlying2 hy0
    obtain ⟨b, e1, _, _⟩ := DataW.trod_int Try.underlying21 hy1
    obtain ⟨c, e2, _, _⟩ := DataW.trod_int Try.underlying21 hy2
    simp at e0 e1 e2
    subst e0 e1 e2
    exact ⟨a, b, c, rfl⟩
  obtain ⟨a', b', c', rfl⟩ : ∃ a b c, v4 = .agg #[.int .i64 a, .int .i32 b, .int .i32 c] := by
    obtain ⟨c0, c1, c2, y0, y1, y2, m, rfl, _, _, hy0, hy1, hy2⟩ := Joins.open_agg3 Try.underlying35 (by kernel_rfl) cellsS (hval 4 35 v4 rfl rfl) h4
    obtain ⟨a, e0, _, _⟩ := DataW.trod_int Try.underlying2 hy0
    obtain ⟨b, e1, _, _⟩ := DataW.trod_int Try.underlying21 hy1
    obtain ⟨c, e2, _, _⟩ := DataW.trod_int Try.underlying21 hy2
    simp at e0 e1 e2
    subst e0 e1 e2
    exact ⟨a, b, c, rfl⟩
  clear hA0 hval0
  unfold maxLen at hs
  refine (walk s k f t a b c a' b' c' W (by omega)).mono fun e W' ⟨he, bel⟩ => ?_
  subst he
  exact ⟨_, rfl, _, _, _, [], _, [], hW', trodAll_mk1 (shut_bool Try.underlying4 _), (trodAll_cons_mk (Below.trod laidOut (by kernel_rfl) (of_decide_eq_true (by kernel_rfl)) k0 bel lt0) (trodAll_cons_mk (Below.trod laidOut (by kernel_rfl) (of_decide_eq_true (by kernel_rfl)) k1 bel lt1) (trodAll_cons_mk (Below.trod laidOut (by kernel_rfl) (of_decide_eq_true (by kernel_rfl)) k2 bel lt2) (trodAll_cons_mk (Below.trod laidOut (by kernel_rfl) (of_decide_eq_true (by kernel_rfl)) k3 bel lt3) (trodAll_cons_mk (Below.trod laidOut (by kernel_rfl) (of_decide_eq_true (by kernel_rfl)) k4 bel lt4) trodAll_mk0))))), rfl, bel.frame _, fun h => by cases h⟩

theorem over : Rows.encSpansRow.holds Try.pinned (OpenSpec.ofChange Rows.encSpansSpec) :=
  OpenClaim.holds_of_wide 6 Try.f6 rfl rfl rfl rfl rfl rfl rfl ⟨rfl, rfl, rfl, rfl, rfl⟩ rfl rfl rfl rfl rfl (by kernel_rfl) Try.func6 (by kernel_rfl)
    (of_decide_eq_true (by kernel_rfl)) (by unfold Func.isWrapper; first | (rw [if_pos (by decide +kernel)]; kernel_rfl) | (rw [if_neg (by decide +kernel)]; exact ⟨rfl, rfl⟩))
    (fun os started H enc _ => lifted os started H enc)
end Go.Proofs.Ytbcbdaaaglkjhaa.encSpans

namespace Go.Proofs.Ytbcbdaaaglkjhaa
/-- THE STATEMENT. -/
theorem encSpans_holds : Rows.EncSpansSaid := encSpans.over
#print axioms encSpans_holds
end Go.Proofs.Ytbcbdaaaglkjhaa
