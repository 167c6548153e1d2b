/-
  Where the frames of a table's bytes begin, by their heads alone.
-/
import Derived.Test.YtepkhbbhpamdnaaSAlR
import Derived.Test.YtepkhbbhpamdnaaSC
import Derived.Deep.AppendLies
import Derived.Deep.RegionHeld3
namespace Go.Proofs.Ytepkhbbhpamdnaa
open Go.RowKit

def fends (l : List Mm.Ent) (p d j : Nat) : List Value := (List.range (j + 1)).map fun i => .int .i64 ((Ss.dtA l p d i).length : Int)
theorem fends_succ (l : List Mm.Ent) (p d j : Nat) : fends l p d (j + 1) = fends l p d j ++ [.int .i64 ((Ss.dtA l p d (j + 1)).length : Int)] := by
  unfold fends
  rw [List.range_succ, List.map_append]
  rfl
theorem infoFI : (Try.prog.info? 3).map (fun i => (i.zero, i.size, i.bytes)) = some (some (.int .i64 0), 1, 8) := by kernel_rfl

theorem fends_append {ops : Array Oper} {rest : List Oper} {o : Oper} {a : Act} {Q : Exit → Act → World → Prop} (hg : o.guard = none) (s x : Operand) (ho : o.op = .call { callee := .builtin .append, args := #[s, x], argTypes := #[30, 30] })
    (w0 w : World) (l : List Mm.Ent) (p d j ge ce N : Nat) (hN : Hid (N = (Ss.dtA l p d (j + 1)).length)) (hj : j ≤ 1000) (hE : w.ownsRow w0.heap.size 3 1 (.slice (some ⟨ge, 0, none⟩) (j + 1) ce) (j + 1) (fends l p d j)) (hb : Below w0.heap.size w0 w)
    (hs : a.eval s = .slice (some ⟨ge, 0, none⟩) (j + 1) ce) (hx : a.eval x = .slice (some ⟨w.heap.size, 0, none⟩) 1 1)
    (h : ∀ g' c' w', w'.ownsRow w0.heap.size 3 1 (.slice (some ⟨g', 0, none⟩) (j + 1 + 1) c') (j + 1 + 1) (fends l p d (j + 1)) → Below w0.heap.size w0 w' → wpList Try.prog ops Q rest (a.put o.dst (.slice (some ⟨g', 0, none⟩) (j + 1 + 1) c')) w') : wpList Try.prog ops Q (o :: rest) a (w.alloc (.cells #[.int .i64 (N : Int)] 3)) := by
  obtain ⟨i0, hi, hz0, hz1, hz2⟩ := info_parts infoFI
  have b1 : Below w.heap.size w (w.alloc (.cells #[.int .i64 (N : Int)] 3)) := (Below.refl _ _).alloc (Nat.le_refl _) _
  have zz : w0.heap.size ≤ (w.alloc (.cells #[.int .i64 (N : Int)] 3)).heap.size := Nat.le_trans hb.size b1.size
  have E2 := hE.alloc (.cells #[.int .i64 (N : Int)] 3)
  have en := World.alloc_heap_new w (.cells #[.int .i64 (N : Int)] 3)
  refine wpList_append_lies _ hg s x 30 ho w0.heap.size 3 i0 _ 1 8 Try.underlying30 hi hz0 hz1 hz2 rfl (by decide) _ (j + 1) (fends l p d j) hs E2 ⟨w.heap.size, 0, none⟩ 1 1 [.int .i64 (N : Int)] hx rfl ?_ (by simp [Value.oneCell']) (by decide) (by unfold maxLen; omega) (by omega) zz _ rfl ?_
  · intro i u hu
    have hadd : (⟨w.heap.size, 0, none⟩ : Addr).add i = ⟨w.heap.size, i, none⟩ := by unfold Addr.add; split <;> simp_all
    rw [hadd]
    match i, hu with
    | 0, hu =>
      simp at hu
      subst hu
      exact Joins.cell_of_block en 0
    | i + 1, hu => simp at hu
  · intro g cap w' h1 h2 h3 h4
    refine h g cap w' ?_ ?_
    · rw [fends_succ, ← hN.out]
      exact h1
    · have bx := hb.trans (b1.mono hb.size)
      exact bx.grown h2 bx.size (fun k hk => (E2.lt k hk).1)

set_option maxRecDepth 100000 in
set_option maxHeartbeats 2000000 in
theorem frames_any (w : World) (l : List Mm.Ent) (p d n g off N cap : Nat) (hc : Ss.checkE l p d = 0) (h150 : l.length ≤ 150) (hn : n ≤ 1000) (hD : BytesAt w g off (Ss.dtA l p d n)) (hN : N = (Ss.dtA l p d n).length) :
    Calls Try.prog 7 #[.slice (some ⟨g, off, none⟩) N cap] w fun e w' => ∃ ge ce, e = .returned (.slice (some ⟨ge, 0, none⟩) (n + 1) ce) ∧ Hid (w'.ownsRow w.heap.size 3 1 (.slice (some ⟨ge, 0, none⟩) (n + 1) ce) (n + 1) (fends l p d n)) ∧ Below w.heap.size w w' := by
  have HL := hide (fun k => Ss.dtA_len (l := l) (p := p) (d := d) hc h150 k)
  have HR := hide (fun k => Ss.rcA_len (l := l) (p := p) (d := d) hc h150 k)
  have HD := hide hD
  have HN := hide hN
  have nb : N ≤ 400012000 := by rw [hN]; have := Ss.dtA_len hc h150 n; omega
  have L0 : Hid ((w.alloc (.cells #[.int .i64 0] 3)).ownsRow w.heap.size 3 1 (.slice (some ⟨w.heap.size, 0, none⟩) (0 + 1) 1) (0 + 1) (fends l p d 0)) := World.ownsRow_lit (size := 1) (e := 3) (base := w.heap.size) w #[.int .i64 0] 1 (Nat.le_refl _) (by decide) rfl
  have B0 : Hid (Below w.heap.size w (w.alloc (.cells #[.int .i64 0] 3))) := (Below.refl _ _).alloc (Nat.le_refl _) _
  clear hD hN hc h150
  go_enter Try.func7, Try.ntmps7
  go_wp2_with (fail)
  go_loopw [3, 4] (fun v a wr => ∃ (i ge ce : Nat), i ≤ n ∧ v = .slice (some ⟨ge, 0, none⟩) (i + 1) ce ∧ a = .int .i64 ((Ss.dtA l p d i).length : Int) ∧ Hid (wr.ownsRow w.heap.size 3 1 (.slice (some ⟨ge, 0, none⟩) (i + 1) ce) (i + 1) (fends l p d i)) ∧ Hid (Below w.heap.size w wr)) (fun _ a _ => N + 1 - (intOf a).toNat)
  case atStart => exact ⟨0, w.heap.size, 1, Nat.zero_le _, rfl, rfl, L0, B0⟩
  case round =>
    obtain ⟨i, ge, ce, hi, rfl, rfl, HO, HB⟩ := hrel
    clear L0 B0
    obtain ⟨at', hat⟩ : ∃ at', at' = (Ss.dtA l p d i).length := ⟨_, rfl⟩
    rw [← hat]
    have HAT := hide hat
    by_cases hlt : i < n
    · obtain ⟨t, ht⟩ := Ss.dtA_pre l p d (i + 1) n hlt
      have ht2 : Ss.dtA l p d n = Ss.dtA l p d i ++ (frm (Ss.rcA l p d i) ++ t) := by rw [ht, ← List.append_assoc]; rfl
      obtain ⟨c0, c1, c2, e0, e1, e2, es⟩ := Ss.frm_head (Ss.rcA l p d i) t (by have := HR.out i; omega)
      obtain ⟨R, hR⟩ : ∃ R, R = (Ss.rcA l p d i).length := ⟨_, rfl⟩
      have hnext : (Ss.dtA l p d (i + 1)).length = at' + R + 12 := by show (Ss.dtA l p d i ++ frm (Ss.rcA l p d i)).length = _; rw [List.length_append, frm_length]; omega
      have hle : at' + R + 12 ≤ N := by rw [HN.out, ht, List.length_append, hnext]; omega
      have CC : ∀ q (c' : UInt8), (frm (Ss.rcA l p d i) ++ t)[q]? = some c' → wr.cell? ⟨g, off + (at' + q), none⟩ = some (.int .u8 (c'.toNat : Int)) := fun q c' hq => by
        have hq2 : (Ss.dtA l p d n)[at' + q]? = some c' := by rw [ht2, List.getElem?_append_right (by omega), show at' + q - (Ss.dtA l p d i).length = q by omega, hq]
        have hlt2 := (List.getElem?_eq_some_iff.1 hq2).1
        have := keepC HB.out (HD.out (at' + q) hlt2)
        rw [this]
        have e := (List.getElem?_eq_some_iff.1 hq2).2
        rw [e]
      have k0 := CC 0 c0 e0
      have k1 := CC 1 c1 e1
      have k2 := CC 2 c2 e2
      rw [Nat.add_zero] at k0
      have KP : wr.drew.cell? ⟨g, off + at', none⟩ = some (.int .u8 (c0.toNat : Int)) ∧ wr.drew.cell? ⟨g, off + (at' + 1), none⟩ = some (.int .u8 (c1.toNat : Int)) ∧ wr.drew.cell? ⟨g, off + ((at' : Int) + 2).toNat, none⟩ = some (.int .u8 (c2.toNat : Int)) := ⟨k0, k1, by rw [show ((at' : Int) + 2).toNat = at' + 2 from by omega]; exact k2⟩
      have z0 := c0.toNat_lt
      have z1 := c1.toNat_lt
      have z2 := c2.toNat_lt
      rw [← hR] at es
      generalize c0.toNat = x0 at *
      generalize c1.toNat = x1 at *
      generalize c2.toNat = x2 at *
      obtain ⟨X, hX⟩ : ∃ X, X = (Ss.dtA l p d (i + 1)).length := ⟨_, rfl⟩
      have HX := hide hX
      have eX : (at' : Int) + 12 + (x0 : Int) + (x1 : Int) * 256 + (x2 : Int) * 65536 = (X : Int) := by rw [hX, hnext]; omega
      have EX := hide eX
      have lX : Hid (at' < X ∧ X ≤ N) := by rw [hX, hnext]; exact ⟨by omega, by omega⟩
      have n0 : (0 : Int) ≤ (at' : Int) := by omega
      have n1 : (0 : Int) ≤ (at' : Int) + 1 := by omega
      have n2 : (0 : Int) ≤ (at' : Int) + 2 := by omega
      have y0 : (at' : Int) + 8 ≤ (N : Int) := by omega
      have y1 : (at' : Int) < (N : Int) := by omega
      have y2 : (at' : Int) + 1 < (N : Int) := by omega
      have y3 : (at' : Int) + 2 < (N : Int) := by omega
      have w8 : IntKind.i64.wrap ((at' : Int) + 8) = (at' : Int) + 8 := by rw [IntKind.wrap_i64]; omega
      have w12 : IntKind.i64.wrap ((at' : Int) + 12) = (at' : Int) + 12 := by rw [IntKind.wrap_i64]; omega
      have w1 : IntKind.i64.wrap ((at' : Int) + 1) = (at' : Int) + 1 := by rw [IntKind.wrap_i64]; omega
      have w2 : IntKind.i64.wrap ((at' : Int) + 2) = (at' : Int) + 2 := by rw [IntKind.wrap_i64]; omega
      have v0 : IntKind.i64.wrap (x0 : Int) = (x0 : Int) := by rw [IntKind.wrap_i64]; omega
      have v1 : IntKind.i64.wrap (x1 : Int) = (x1 : Int) := by rw [IntKind.wrap_i64]; omega
      have v2 : IntKind.i64.wrap (x2 : Int) = (x2 : Int) := by rw [IntKind.wrap_i64]; omega
      have u1 : IntKind.i64.wrap ((x1 : Int) * 256) = (x1 : Int) * 256 := by rw [IntKind.wrap_i64]; omega
      have u2 : IntKind.i64.wrap ((x2 : Int) * 65536) = (x2 : Int) * 65536 := by rw [IntKind.wrap_i64]; omega
      have a1 : IntKind.i64.wrap ((at' : Int) + 12 + (x0 : Int)) = (at' : Int) + 12 + (x0 : Int) := by rw [IntKind.wrap_i64]; omega
      have a2 : IntKind.i64.wrap ((at' : Int) + 12 + (x0 : Int) + (x1 : Int) * 256) = (at' : Int) + 12 + (x0 : Int) + (x1 : Int) * 256 := by rw [IntKind.wrap_i64]; omega
      have a3 : IntKind.i64.wrap ((at' : Int) + 12 + (x0 : Int) + (x1 : Int) * 256 + (x2 : Int) * 65536) = (at' : Int) + 12 + (x0 : Int) + (x1 : Int) * 256 + (x2 : Int) * 65536 := by rw [IntKind.wrap_i64]; omega
      have OD := hide (own_after HO.out (Below.refl wr.heap.size wr).drew)
      have BD := hide HB.out.drew
      have i9 : Hid (i ≤ 1000) := by show _ ≤ _; omega
      clear eX hX hat hR es hnext hle ht ht2 e0 e1 e2 CC k0 k1 k2
      go_wp2_with (fail)
      go_region_held3 (fun w' => w'.cell? ⟨g, off + at', none⟩ = some (.int .u8 (x0 : Int)) ∧ w'.cell? ⟨g, off + (at' + 1), none⟩ = some (.int .u8 (x1 : Int)) ∧ w'.cell? ⟨g, off + ((at' : Int) + 2).toNat, none⟩ = some (.int .u8 (x2 : Int)))
        (first | exact KP) (fail)
      rw [EX.out]
      go_wp2_with (at_builtin; refine fends_append (by rfl) _ _ (by rfl) w wr.drew l p d i ge ce X HX i9.out OD.out BD.out (by rfl) (by rfl) ?_; intro g' c' w' o' b')
      have lx := lX.out
      refine ⟨⟨i + 1, g', c', hlt, rfl, by rw [← HX.out], o', b'⟩, ?_⟩
      simp only [intOf, Int.toNat_natCast]
      omega
    · have e : i = n := by omega
      subst e
      have hz : at' = N := by rw [hat, HN.out]
      have y0 : ¬ (N : Int) + 8 ≤ (N : Int) := by omega
      have w8 : IntKind.i64.wrap ((N : Int) + 8) = (N : Int) + 8 := by rw [IntKind.wrap_i64]; omega
      rw [hz]
      clear hat HAT hz
      go_wp2_with (fail)
      go_ret
      exact ⟨ge, ce, rfl, HO, HB.out⟩
end Go.Proofs.Ytepkhbbhpamdnaa
