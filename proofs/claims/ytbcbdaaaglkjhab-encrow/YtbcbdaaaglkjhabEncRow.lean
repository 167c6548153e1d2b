/-
  Proved: for every list of numbers l and every list of bytes b the call EncRow(l, b) returns true and leaves its arguments as they were: numbers that were appended one behind the other are read back one by one, to the end; and whatever number is read at the head of b has just these bytes.
  Conditions: none beyond the form's own reach (above 200 numbers the statement says nothing by itself).
-/
import Derived.Test.YtbcbdaaaglkjhabRows
import Derived.Test.YtbcbdaaaglkjhabLives
import Derived.Test.YtbcbdaaaglkjhabAppend
import Derived.SizedLaws
import Derived.ProofKit
import Derived.OpenShut
import Derived.ChangeOld
import Derived.Deep.RegionHeld3
namespace Go.Proofs.Ytbcbdaaaglkjhab.encRow
open Go.ChangeShapes Go.WideShapes Go.ChangeAt Go.RowKit
open Go.Proofs.Ytbcbdaaaglkjhab

theorem own : ownKnob Try.prog.godebug = none := by kernel_rfl

/-- A slice with the bytes l, whole. -/
structure Row8 (w : World) (v : Value) (l : List UInt8) : Prop where
  form : ∃ a cap, v = .slice a l.length cap ∧ l.length ≤ cap ∧ (a = none → cap = 0) ∧ (l ≠ [] → ∃ b off, a = some ⟨b, off, none⟩ ∧ BytesAt w b off l)
  len : l.length ≤ 140737488351232

theorem Row8.bytes {w : World} {v : Value} {l : List UInt8} (h : Row8 w v l) : BytesIn w v l := by
  obtain ⟨⟨a, cap, hv, _, _, hf⟩, hl⟩ := h
  exact ⟨⟨a, cap, hv, hf⟩, by omega⟩
theorem Row8.nil {w : World} {v : Value} {l : List UInt8} (h : Row8 w v l) : NilBare v := by
  obtain ⟨⟨a, cap, hv, _, hn, _⟩, _⟩ := h
  intro len c e
  rw [hv] at e
  simp only [Value.slice.injEq] at e
  obtain ⟨e1, _, e3⟩ := e
  rw [← e3]; exact hn e1
theorem Row8.of_own {w : World} {base : Nat} {v : Value} {l : List UInt8} (h : w.ownsRow base 5 1 v l.length (bc l)) (hl : l.length ≤ 140737488351232) : Row8 w v l := by
  have ho := h
  rcases h.2 with ⟨rfl, h0⟩ | ⟨g, cap, cur, rfl, _, _, hc, _⟩
  · refine ⟨⟨none, 0, by rw [h0], by omega, fun _ => rfl, fun hne => absurd (List.eq_nil_of_length_eq_zero h0) hne⟩, hl⟩
  · refine ⟨⟨_, cap, rfl, hc, (fun e => by cases e), fun _ => ⟨g, 0, rfl, fun j hj => ?_⟩⟩, hl⟩
    rw [Nat.zero_add, ho.cellAt j (by omega), bc_get l j hj]
theorem Row8.later {w w' : World} {v : Value} {l : List UInt8} (h : Row8 w v l) (hb : Below w.heap.size w w') : Row8 w' v l := by
  obtain ⟨⟨a, cap, hv, hc, hn, hf⟩, hl⟩ := h
  exact ⟨⟨a, cap, hv, hc, hn, fun h0 => by obtain ⟨b, off, ha, hat⟩ := hf h0; exact ⟨b, off, ha, hat.later hb⟩⟩, hl⟩

/-- The bytes of numbers one behind the other. -/
def rows (xs : List Nat) : List UInt8 := xs.flatMap leb
theorem rows_snoc (xs : List Nat) (j : Nat) (h : j < xs.length) : rows (xs.take (j + 1)) = rows (xs.take j) ++ leb xs[j] := by
  rw [List.take_succ_eq_append_getElem h]; simp only [rows, List.flatMap_append, List.flatMap_cons, List.flatMap_nil, List.append_nil]
theorem rows_drop (xs : List Nat) (j : Nat) (h : j < xs.length) : rows (xs.drop j) = leb xs[j] ++ rows (xs.drop (j + 1)) := by
  rw [List.drop_eq_getElem_cons h]; simp only [rows, List.flatMap_cons]
theorem rows_len (xs : List Nat) (h : ∀ x ∈ xs, x < 18446744073709551616) : (rows xs).length ≤ 10 * xs.length := by
  induction xs with
  | nil => simp [rows]
  | cons x xs ih =>
    have h1 := leb_len64 x (h x (by simp))
    have h2 := ih (fun y hy => h y (by simp [hy]))
    have e : rows (x :: xs) = leb x ++ rows xs := by simp [rows]
    rw [e, List.length_append, List.length_cons]; omega

/-- Where the numbers of a slice lie. -/
def NumsAt (w : World) (b off : Nat) (xs : List Nat) : Prop := ∀ j (h : j < xs.length), w.cell? ⟨b, off + j, none⟩ = some (.int .u64 ((xs[j] : Nat) : Int))

theorem read_row (w : World) (v : Value) (x : Nat) (r : List UInt8) (h : BytesIn w v (leb x ++ r)) (hx : x < 18446744073709551616) :
    Calls Try.prog 13 #[v] w fun e w' => e = .returned (.tuple #[.int .u64 (x : Int), .int .i64 ((leb x).length : Int), .int .i64 0]) ∧ w' = w := by
  refine (read_any w v _ h).mono ?_
  rintro e w' ⟨rfl, rfl⟩
  rw [rd_back x r hx]
  exact ⟨rfl, rfl⟩

/-- What is left of a list behind its first n bytes. -/
theorem Row8.behind {w : World} {b off cap n : Nat} {l r : List UInt8} (h : BytesAt w b off (l ++ r)) (hn : n = l.length) (hc : (l ++ r).length ≤ cap) (hl : (l ++ r).length ≤ 140737488351232) (a : Option Addr)
    (ha : cap ≠ n → a = some ⟨b, off + n, none⟩) (ha0 : a ≠ none) : Row8 w (.slice a r.length (cap - n)) r := by
  subst hn
  rw [List.length_append] at hc hl
  refine ⟨⟨a, _, rfl, by omega, fun e => absurd e ha0, fun h0 => ⟨b, off + l.length, ha ?_, fun j hj => ?_⟩⟩, by omega⟩
  · have : 0 < r.length := List.length_pos_iff.mpr h0
    omega
  · have := h (l.length + j) (by rw [List.length_append]; omega)
    rw [Nat.add_assoc]
    rw [this]
    simp

set_option maxHeartbeats 1000000 in
theorem long (w : World) (a0 : Option Addr) (len0 cap0 : Nat) (v1 : Value) (h : 200 < len0) :
    Calls Try.prog 5 #[.slice a0 len0 cap0, v1] w fun e w' => e = .returned (.bool true) ∧ Below w.heap.size w w' := by
  have hi : (200 : Int) < (len0 : Int) := by omega
  go_enter Try.func5, Try.ntmps5
  go_wp2_with (go_at_call 7; refine (lives_any _).mono ?_; rintro e w1 ⟨rfl, hb1⟩)
  go_ret
  exact ⟨rfl, hb1⟩

set_option maxHeartbeats 1000000 in
theorem some_walk (w : World) (a0 : Option Addr) (cap0 : Nat) (xs : List Nat) (v1 : Value) (l : List UInt8) (hx : ∀ x ∈ xs, x < 18446744073709551616) (hlen : xs.length ≤ 200) (hn0 : xs ≠ [] → ∃ b off, a0 = some ⟨b, off, none⟩ ∧ NumsAt w b off xs) (h1 : Row8 w v1 l) :
    Calls Try.prog 5 #[.slice a0 xs.length cap0, v1] w fun e w' => e = .returned (.bool true) ∧ Below w.heap.size w w' := by
  go_enter Try.func5, Try.ntmps5
  go_wp2_with (go_at_call 7; refine (lives_any _).mono ?_; rintro e w1 ⟨rfl, hb1⟩)
  go_loopw [5, 6] (fun all i wr => ∃ (j : Nat) (m : List UInt8), j ≤ xs.length ∧ i = .int .i64 j ∧ Row8 wr all m ∧ Below w.heap.size w wr ∧ m = rows (xs.take j)) (fun _ i _ => xs.length - (intOf i).toNat)
  case atStart => exact ⟨0, [], Nat.zero_le _, rfl, ⟨⟨none, 0, rfl, Nat.le_refl _, fun _ => rfl, fun h => absurd rfl h⟩, by decide⟩, hb1, by simp [rows]⟩
  case round =>
    obtain ⟨j, m, hj, rfl, hrow, hbel, hm⟩ := hrel
    by_cases hlt : j < xs.length
    · obtain ⟨b, off, rfl, hn⟩ := hn0 (by intro e; rw [e] at hlt; simp at hlt)
      have d0 := (hbel.cell (p := ⟨b, off + j, none⟩) (World.block_lt_of_cell? w _ (hn j hlt))).trans (hn j hlt)
      obtain ⟨x, hxj⟩ : ∃ x : Nat, x = xs[j] := ⟨_, rfl⟩
      rw [← hxj] at d0
      have hx64 : x < 18446744073709551616 := by rw [hxj]; exact hx _ (List.getElem_mem hlt)
      have hml : m.length ≤ 140737488351232 := hrow.len
      have HR : Hid (rows (xs.take (j + 1)) = m ++ leb x) := by show _ = _; rw [rows_snoc xs j hlt, hm, hxj]
      have HL : Hid ((m ++ leb x).length ≤ 140737488351232) := by
        show _ ≤ _
        rw [← HR.out]
        have h1 := rows_len (xs.take (j + 1)) (fun y hy => hx y (List.mem_of_mem_take hy))
        have h2 : (xs.take (j + 1)).length ≤ xs.length := List.length_take_le' _ _
        omega
      have HX : Hid (x < 18446744073709551616) := hx64
      clear hxj hx64 hm
      go_wp2_with (go_at_call 12; refine (append_any _ _ m x hrow.bytes hrow.nil HX.out hml).mono ?_; rintro e w2 ⟨v2, rfl, hx2⟩)
      go_roundw
      case rel => exact ⟨j + 1, _, by omega, by go_num, Row8.of_own hx2.own HL.out, hbel.trans ((hx2.below (Nat.le_refl _) (by simp [Value.ownBlock])).mono hbel.size), HR.out.symm⟩
      case measure => simp [intOf]; omega
    · have hm2 : m = rows xs := by rw [hm, List.take_of_length_le (by omega)]
      have hrow2 : Row8 wr u5 (rows (xs.drop 0)) := by rw [List.drop_zero, ← hm2]; exact hrow
      have h1r := h1.later (hbel)
      have hnr : Hid (xs ≠ [] → ∃ b off, a0 = some ⟨b, off, none⟩ ∧ ∀ j (h : j < xs.length), wr.cell? ⟨b, off + j, none⟩ = some (.int .u64 ((xs[j] : Nat) : Int))) := fun hne => by
        obtain ⟨b, off, ha, hn⟩ := hn0 hne
        exact ⟨b, off, ha, fun j h => (hbel.cell (p := ⟨b, off + j, none⟩) (World.block_lt_of_cell? w _ (hn j h))).trans (hn j h)⟩
      clear hm hm2 hrow hn0
      go_wp2
      go_loop [5, 7] (fun all i => ∃ j : Nat, j ≤ xs.length ∧ i = .int .i64 j ∧ Row8 wr all (rows (xs.drop j))) (fun _ i => xs.length - (intOf i).toNat)
      case atStart => exact ⟨0, Nat.zero_le _, rfl, hrow2⟩
      case round =>
        obtain ⟨k, hk, rfl, hrow⟩ := hrel
        clear hrow2
        by_cases hkt : k < xs.length
        · obtain ⟨b, off, rfl, hnk⟩ := hnr.out (by intro e; rw [e] at hkt; simp at hkt)
          have d0 := hnk k hkt
          obtain ⟨x, hxj⟩ : ∃ x : Nat, x = xs[k] := ⟨_, rfl⟩
          have hx64 : x < 18446744073709551616 := by rw [hxj]; exact hx _ (List.getElem_mem hkt)
          have hsplit : rows (xs.drop k) = leb x ++ rows (xs.drop (k + 1)) := by rw [rows_drop xs k hkt, hxj]
          rw [← hxj] at d0
          rw [hsplit] at hrow
          have RR : Hid (∀ v, BytesIn wr v (leb x ++ rows (xs.drop (k + 1))) → Calls Try.prog 13 #[v] wr fun e w' => e = .returned (.tuple #[.int .u64 (x : Int), .int .i64 ((leb x).length : Int), .int .i64 0]) ∧ w' = wr) := fun v h => read_row wr v x _ h hx64
          have hbytes := hrow.bytes
          obtain ⟨⟨a, cap, rfl, hcap, _, hf⟩, hl⟩ := hrow
          obtain ⟨b2, off2, rfl, hat⟩ := hf (by intro e; have h3 := congrArg List.length e; have h2 := leb_pos x; rw [List.length_append, List.length_nil] at h3; omega)
          have hp := leb_pos x
          obtain ⟨n, hn⟩ : ∃ n, n = (leb x).length := ⟨_, rfl⟩
          obtain ⟨T, hT⟩ : ∃ T, T = (leb x ++ rows (xs.drop (k + 1))).length := ⟨_, rfl⟩
          have hTn : T = n + (rows (xs.drop (k + 1))).length := by rw [hT, List.length_append, hn]
          have HB := fun a ha ha0 => Row8.behind (n := n) hat hn hcap hl a ha ha0
          rw [← hT] at hcap hl
          rw [← hn] at hp
          have RR2 : Hid (Calls Try.prog 13 #[.slice (some ⟨b2, off2, none⟩) T cap] wr fun e w' => e = .returned (.tuple #[.int .u64 (x : Int), .int .i64 (n : Int), .int .i64 0]) ∧ w' = wr) := by
            have := RR.out _ hbytes
            rw [← hT, ← hn] at this
            exact this
          have HT : Hid (T - n = (rows (xs.drop (k + 1))).length) := by show _ = _; omega
          have hnT : n ≤ T := by omega
          rw [← hT]
          clear RR hbytes hf hT hTn hxj hx64 hsplit hat hn hnr hnk
          go_wp2_with (go_at_call 13; refine RR2.out.mono ?_; rintro e w' ⟨rfl, rfl⟩)
          go_round
          case rel => exact ⟨k + 1, by omega, by go_num, by rw [HT.out]; exact HB _ (fun h => by rw [if_neg h]) (by split <;> simp)⟩
          case measure => simp [intOf]; omega
        · have hz : rows (xs.drop k) = [] := by rw [List.drop_eq_nil_of_le (by omega)]; rfl
          rw [hz] at hrow
          obtain ⟨⟨a, cap, rfl, _⟩, _⟩ := hrow
          have hb1r := h1r.bytes
          have hread := read_any wr v1 l hb1r
          rcases rd_err l with he | he
          · obtain ⟨hmade, hnl⟩ := rd_made l he
            have hx64 := rd_lt l
            obtain ⟨x, hxe⟩ : ∃ x, x = (rd l).1 := ⟨_, rfl⟩
            obtain ⟨n, hne⟩ : ∃ n, n = (rd l).2.1 := ⟨_, rfl⟩
            rw [he, ← hxe, ← hne] at hread
            rw [← hxe] at hmade hx64
            rw [← hne] at hmade hnl
            have HRD : Hid (Calls Try.prog 13 #[v1] wr fun e w' => e = .returned (.tuple #[.int .u64 (x : Int), .int .i64 (n : Int), .int .i64 0]) ∧ w' = wr) := hread
            have hpos := leb_pos x
            have hnlen : (leb x).length = n := by rw [← hmade, List.length_take]; omega
            have hl0 : l ≠ [] := by intro e; rw [e] at hnl; simp at hnl; omega
            obtain ⟨⟨a1, cap1, rfl, hcap1, _, hf1⟩, hl1⟩ := h1r
            obtain ⟨b1, off1, rfl, hat1⟩ := hf1 hl0
            obtain ⟨T, hT⟩ : ∃ T, T = l.length := ⟨_, rfl⟩
            have hBN : BytesIn wr (.slice (some ⟨b1, off1, none⟩) n cap1) (leb x) := by
              refine ⟨⟨_, cap1, by rw [hnlen], fun _ => ⟨b1, off1, rfl, fun j hj => ?_⟩⟩, by omega⟩
              have h3 := hat1 j (by omega)
              have e3 : (leb x)[j] = l[j]'(by omega) := by simp only [← hmade, List.getElem_take]
              rw [h3, e3]
            have HBN : Hid (BytesIn wr (.slice (some ⟨b1, off1, none⟩) n cap1) (leb x)) := hBN
            have HX : Hid (x < 18446744073709551616) := hx64
            have HLL : Hid ((leb x).length ≤ 140737488351232) := by have := leb_len64 x hx64; show _ ≤ _; omega
            have i0 : (0 : Int) ≤ (n : Int) := by omega
            have i1 : (n : Int) ≤ (T : Int) := by omega
            have i2 : (n : Int) ≤ (cap1 : Int) := by omega
            have i3 : (T : Int) ≤ (cap1 : Int) := by omega
            have i4 : decide ((T : Int) < (n : Int)) = false := by simp; omega
            have i5 : decide (T < n) = false := by simp; omega
            have hnilB : BytesIn wr (.slice none 0 0) [] := ⟨⟨none, 0, rfl, fun h => absurd rfl h⟩, by decide⟩
            have HNB : Hid (∀ wx, BytesIn wx (.slice none 0 0) []) := fun wx => ⟨⟨none, 0, rfl, fun h => absurd rfl h⟩, by decide⟩
            have HNN : Hid (NilBare (.slice none 0 0)) := fun len cap e => by simp only [Value.slice.injEq] at e; exact e.2.2.symm
            rw [← hT] at HRD
            rw [← hT]
            clear hread hb1r hnr he hx hz hmade hx64 hxe hne hf1 hat1 hl0 hnl hnlen hpos hcap1 hl1 hT hBN hnilB h1
            go_wp2_with (go_at_call 13; refine HRD.out.mono ?_; rintro e w' ⟨rfl, rfl⟩)
            go_region_held3 (fun _ => True) (trivial)
              (first
                | (go_at_call 12; refine (append_any _ _ [] x (HNB.out _) HNN.out HX.out (by decide)).mono ?_; rintro e w3 ⟨v3, rfl, hx3⟩; have hb3 := hx3.below (Nat.le_refl _) (by simp [Value.ownBlock]); have hl3 : BytesIn w3 v3 (leb x) := (by have h := hx3.own; rw [List.nil_append] at h; exact (Row8.of_own h HLL.out).bytes); have hr3 : BytesIn w3 (.slice (some ⟨b1, off1, none⟩) n cap1) (leb x) := (HBN.out.later (Below.refl _ _).drew).later hb3)
                | (go_at_call 14; refine (same_any _ _ _ (leb x) (leb x) hl3 hr3).mono ?_; rintro e w4 ⟨rfl, hb4⟩))
            have B3 : Below w.heap.size w w3 := hbel.drew.trans (hb3.mono hbel.size)
            have B4 : Below w.heap.size w w4 := B3.trans (hb4.mono B3.size)
            clear hb3 hb4 hl3 hr3 hx3 B3 hbel hb1
            go_wp2
            go_ret
            exact ⟨rfl, B4⟩
          · have HRD : Hid (Calls Try.prog 13 #[v1] wr fun e w' => e = .returned (.tuple #[.int .u64 ((rd l).1 : Int), .int .i64 ((rd l).2.1 : Int), .int .i64 5]) ∧ w' = wr) := by rw [he] at hread; exact hread
            clear hread hb1r h1r hnr he hx hz
            go_wp2_with (go_at_call 13; refine HRD.out.mono ?_; rintro e w' ⟨rfl, rfl⟩)
            go_region
            go_wp2
            go_ret
            exact ⟨rfl, hbel.drew⟩

theorem laidOut : laidOutB Try.prog = true := by kernel_rfl
theorem bytesT8 : Try.prog.bytesOf 5 = 1 := by kernel_rfl

/-- A slice of bytes that came in. -/
theorem row_in {H : Type} {enc : TypeId × Value → H} {W : World} {spare : Nat → Bool} {held : Bool} {a : Option Addr} {len cap : Nat} {d : DataW H} {p : List MemPlace} (hk : DataW.Trod enc Try.prog W 0 spare held 38 (.slice a len cap) d p)
    (hw : ∀ elems spr, d = .slice elems spr → (elems.length + spr.length) * 1 ≤ reachBytes) (hnot : spare = fun _ => true) (hh : held = true) :
    ∃ l : List UInt8, len = l.length ∧ Row8 W (.slice a len cap) l := by
  subst hnot hh
  obtain ⟨fuel, hf⟩ := hk
  rcases open_ints Try.underlying38 Try.underlying5 (by kernel_rfl) hf with ⟨hcs, _⟩ | ⟨x, l', c', zs, hcs, _, hl, hm, hz, hx, hcell, hwz⟩
  · simp [Value.cells] at hcs
    obtain ⟨rfl, rfl, rfl⟩ := hcs
    exact ⟨[], rfl, ⟨⟨none, 0, rfl, Nat.le_refl _, fun _ => rfl, fun h => absurd rfl h⟩, by decide⟩⟩
  · simp [Value.cells] at hcs
    obtain ⟨rfl, rfl, rfl⟩ := hcs
    simp only [if_true] at hz
    simp only [Prod.mk.injEq] at hx
    have hreach := hw _ _ hx.1
    simp only [lits, List.length_map, List.length_take, List.length_drop, reachBytes] at hreach
    have hzl : zs.length = cap := by simpa using hz
    refine ⟨(zs.take len).map fun z => UInt8.ofNat z.toNat, by simp; omega, ⟨⟨some x, cap, by simp; omega, by simp; omega, (fun e => by cases e), fun h0 => ?_⟩, by simp; omega⟩⟩
    have hlen0 : 0 < len := by
      rcases Nat.eq_zero_or_pos len with h | h
      · subst h; exact absurd (by simp) h0
      · exact h
    obtain ⟨b, off, spot⟩ := x
    have hc0 := hcell 0 (by omega)
    have hspot : spot = none := by simpa [Addr.add] using World.cell?_spot hc0
    subst hspot
    refine ⟨b, off, rfl, fun j hj => ?_⟩
    have hj' : j < zs.length := by simp at hj; omega
    have hcj := hcell j hj'
    have hadd : (⟨b, off, none⟩ : Addr).add j = ⟨b, off + j, none⟩ := by unfold Addr.add; split <;> simp_all
    rw [hadd] at hcj
    rw [hcj]
    have hzj : (Lit.int .u8 (zs[j])).wf = true := hwz _ (List.getElem_mem hj')
    have hb := bounds_u8 hzj
    simp only [List.getElem_map, List.getElem_take, List.getD_eq_getElem?_getD, List.getElem?_eq_getElem hj', Option.getD_some]
    rw [UInt8.toNat_ofNat']
    congr 2
    omega

theorem nums_in {H : Type} {enc : TypeId × Value → H} {W : World} {a : Option Addr} {len cap : Nat} {d : DataW H} {p : List MemPlace} (hk : DataW.Trod enc Try.prog W 0 (fun _ => true) true 37 (.slice a len cap) d p) :
    ∃ xs : List Nat, len = xs.length ∧ (∀ x ∈ xs, x < 18446744073709551616) ∧ (xs ≠ [] → ∃ b off, a = some ⟨b, off, none⟩ ∧ NumsAt W b off xs) := by
  obtain ⟨fuel, hf⟩ := hk
  rcases open_ints Try.underlying37 Try.underlying40 (by kernel_rfl) hf with ⟨hcs, _⟩ | ⟨x, l', c', zs, hcs, _, hl, hm, hz, hx, hcell, hwz⟩
  · simp [Value.cells] at hcs
    obtain ⟨rfl, rfl, rfl⟩ := hcs
    exact ⟨[], rfl, by simp, fun h => absurd rfl h⟩
  · simp [Value.cells] at hcs
    obtain ⟨rfl, rfl, rfl⟩ := hcs
    simp only [if_true] at hz
    have hzl : zs.length = cap := by simpa using hz
    refine ⟨(zs.take len).map fun z => z.toNat, by simp; omega, ?_, fun h0 => ?_⟩
    · intro y hy
      simp only [List.mem_map] at hy
      obtain ⟨z, hz1, rfl⟩ := hy
      have := bounds_u64 (hwz z (List.mem_of_mem_take hz1))
      omega
    · have hlen0 : 0 < len := by
        rcases Nat.eq_zero_or_pos len with h | h
        · subst h; exact absurd (by simp) h0
        · exact h
      obtain ⟨b, off, spot⟩ := x
      have hc0 := hcell 0 (by omega)
      have hspot : spot = none := by simpa [Addr.add] using World.cell?_spot hc0
      subst hspot
      refine ⟨b, off, rfl, fun j hj => ?_⟩
      have hj' : j < zs.length := by simp at hj; omega
      have hcj := hcell j hj'
      have hadd : (⟨b, off, none⟩ : Addr).add j = ⟨b, off + j, none⟩ := by unfold Addr.add; split <;> simp_all
      rw [hadd] at hcj
      rw [hcj]
      have hb := bounds_u64 (hwz _ (List.getElem_mem hj'))
      simp only [List.getElem_map, List.getElem_take, List.getD_eq_getElem?_getD, List.getElem?_eq_getElem hj', Option.getD_some]
      congr 2
      omega

theorem walk (w : World) (a0 : Option Addr) (cap0 : Nat) (xs : List Nat) (v1 : Value) (l : List UInt8) (hx : ∀ x ∈ xs, x < 18446744073709551616) (hn0 : xs ≠ [] → ∃ b off, a0 = some ⟨b, off, none⟩ ∧ NumsAt w b off xs) (h1 : Row8 w v1 l) :
    Calls Try.prog 5 #[.slice a0 xs.length cap0, v1] w fun e w' => e = .returned (.bool true) ∧ Below w.heap.size w w' := by
  by_cases h : xs.length ≤ 200
  · exact some_walk w a0 cap0 xs v1 l hx h hn0 h1
  · exact long w a0 xs.length cap0 v1 (by omega)

set_option maxRecDepth 100000 in
theorem lifted (os : Os) (started : os.Started) (H : Type) (enc : TypeId × Value → H) :
    ReturnsInHanded {} Try.checked os 5 .any (Rows.encRowSpec.pre6 enc Try.prog Try.f5 Rows.encRowRow.domain false) (Rows.encRowSpec.post enc Try.prog Try.f5 false true false false) := by
  refine returnsInHanded_of_change_sized (C := Try.checked) own started (by kernel_rfl) Try.func5
    (ChangeSpec.witness6 (enc := enc) (C := Try.checked) false ⟨#[], #[.slice none 0 0, .slice none 0 0], []⟩ 8 (by kernel_rfl) (by kernel_rfl) (by kernel_rfl) (by kernel_rfl)) ?_
  intro W base args ds gs before hval0 hW hcnd hsz0 _
  have hsz : (DataW.weightsEach Try.prog (Try.f5.params.toList ++ Rows.encRowSpec.plain.varTypes Try.prog) (ds ++ gs)).all (· ≤ reachBytes) = true := hsz0
  have hval : ∀ (j : Nat) t v, Try.f5.params[j]? = some t → args[j]? = some v → Value.okWide Try.prog W .any base t v := hval0
  have hW' := hW
  obtain ⟨p, q, hA0, hV, rfl, hfz, hnd⟩ := hW
  have hA : DataW.TrodAll enc Try.prog W 0 (fun _ => true) true Try.f5.params.toList args.toList ds p := hA0
  rw [Try.params5] at hA hval hsz
  obtain ⟨v0, vs0, d0, ds0, p0, q0, hargs, rfl, rfl, h0, r0⟩ := trodAll_cons hA
  obtain ⟨v1, vs1, d1, ds1, p1, q1, rfl, rfl, rfl, h1, r1⟩ := trodAll_cons r0
  obtain ⟨rfl, rfl, rfl⟩ := trodAll_nil r1
  obtain rfl : args = #[v0, v1] := by cases args; simp_all
  obtain ⟨rfl, rfl⟩ := trodVars_none hV
  have k0 := h0
  have k1 := h1
  have lt0 : ∀ x ∈ p0, x.block < W.heap.size := by obtain ⟨m, hm⟩ := k0; exact DataW.trod_lt m _ _ _ hm
  have lt1 : ∀ x ∈ p1, x.block < W.heap.size := by obtain ⟨m, hm⟩ := k1; exact DataW.trod_lt m _ _ _ hm
  obtain ⟨a0, len0, cap0, rfl⟩ := okWide_slice Try.underlying37 (hval 0 37 v0 rfl rfl)
  obtain ⟨a1, len1, cap1, rfl⟩ := okWide_slice Try.underlying38 (hval 1 38 v1 rfl rfl)
  obtain ⟨xs, rfl, hx, hn0⟩ := nums_in h0
  obtain ⟨l, _, hrow⟩ := row_in h1 (fun elems spr e => by
    have := sized_slice hsz (j := 1) (t := 38) (e := 5) (elems := elems) (spare := spr) rfl (by rw [e]; rfl) Try.underlying38
    rwa [bytesT8] at this) rfl rfl
  clear hA0 hval0
  refine (walk W a0 cap0 xs _ l hx hn0 hrow).mono fun e W' ⟨he, bel⟩ => ?_
  subst he
  exact ⟨_, rfl, _, _, _, [], _, [], hW', trodAll_mk1 (shut_bool Try.underlying4 _), (trodAll_cons_mk (Below.trod laidOut (by kernel_rfl) (of_decide_eq_true (by kernel_rfl)) k0 bel lt0) (trodAll_cons_mk (Below.trod laidOut (by kernel_rfl) (of_decide_eq_true (by kernel_rfl)) k1 bel lt1) trodAll_mk0)), rfl, bel.frame _, fun h => by cases h⟩

theorem over : Rows.encRowRow.holds Try.pinned (OpenSpec.ofChange Rows.encRowSpec) :=
  OpenClaim.holds_of_wide 5 Try.f5 rfl rfl rfl rfl rfl rfl rfl ⟨rfl, rfl, rfl, rfl, rfl⟩ rfl rfl rfl rfl rfl (by kernel_rfl) Try.func5 (by kernel_rfl)
    (of_decide_eq_true (by kernel_rfl)) (by unfold Func.isWrapper; first | (rw [if_pos (by decide +kernel)]; kernel_rfl) | (rw [if_neg (by decide +kernel)]; exact ⟨rfl, rfl⟩))
    (fun os started H enc _ => lifted os started H enc)
end Go.Proofs.Ytbcbdaaaglkjhab.encRow

namespace Go.Proofs.Ytbcbdaaaglkjhab
/-- THE STATEMENT. -/
theorem encRow_holds : Rows.EncRowSaid := encRow.over
#print axioms encRow_holds
end Go.Proofs.Ytbcbdaaaglkjhab
