/-
  The document's own answer: the hash, whether bytes are a filter, and a key's bits as numbers.
-/
import Derived.Test.YtolalicliojkfaaGreatSI
namespace Go.Proofs.YtolalicliojkfaaGreat
open Go.RowKit

set_option maxHeartbeats 800000 in
theorem rhash_any (w : World) (s : ByteArray) (hs : s.size ≤ 140737488355328) :
    Calls Tryz.prog 86 #[.string s] w fun e w' => e = .returned (.int .u64 ((Bm.hash s.data.toList : Nat) : Int)) ∧ w' = w := by
  go_enter Tryz.func86, Tryz.ntmps86
  go_wp2_with (fail)
  go_loopw [3, 4] (fun x i wr => ∃ (j r : Nat), j ≤ s.size ∧ i = .int .i64 j ∧ x = .int .u64 r ∧ r < 18446744073709551616 ∧ Hid (r = Bm.hash (s.data.toList.take j)) ∧ wr = w) (fun _ i _ => s.size - (intOf i).toNat)
  case atStart => exact ⟨0, Bm.start, Nat.zero_le _, rfl, rfl, by decide, rfl, rfl⟩
  case round =>
    obtain ⟨j, r, hj, rfl, rfl, hr, HR, rfl⟩ := hrel
    by_cases hlt : j < s.size
    · have X2 := hash_step r hr s[j]
      obtain ⟨q, hq⟩ : ∃ q, q = Bm.hash1 r s[j] := ⟨_, rfl⟩
      have HQ : Hid (q = Bm.hash (s.data.toList.take (j + 1))) := by show _ = _; rw [str_take s j hlt, ← HR.out]; exact hq
      have hql : q < 18446744073709551616 := by rw [hq]; exact Bm.hash1_lt _ _
      rw [← hq] at X2
      have HX : Hid (IntKind.u64.wrap (bits .xor .u64 (r : Int) (IntKind.u64.wrap (s[j].toNat : Int)) * 1099511628211) = (q : Int)) := X2
      clear hq X2
      go_wp2_with (fail)
      exact ⟨⟨j + 1, q, by omega, by go_num, by rw [HX.out], hql, HQ, trivial⟩, by simp [intOf]; omega⟩
    · have ej : j = s.size := by omega
      subst ej
      have HZ : Hid (r = Bm.hash s.data.toList) := by show _ = _; rw [HR.out, List.take_of_length_le (by simp)]
      go_wp2_with (fail)
      go_ret
      rw [HZ.out]
      exact ⟨rfl, rfl⟩
def ics (l : List Nat) : List Value := l.map fun c : Nat => Value.int .i64 (c : Int)
theorem ics_length (l : List Nat) : (ics l).length = l.length := by simp [ics]
theorem ics_one (l : List Nat) : ∀ u ∈ ics l, u.oneCell' = true := by
  intro u hu
  simp only [ics, List.mem_map] at hu
  obtain ⟨c, _, rfl⟩ := hu
  rfl
theorem ics_get (l : List Nat) (j : Nat) (h : j < l.length) : (ics l)[j]? = some (.int .i64 (l[j] : Int)) := by simp [ics, h]
theorem Tryz.infoI : (Tryz.prog.info? 3).map (fun i => (i.zero, i.size, i.bytes)) = some (some (.int .i64 0), 1, 8) := by kernel_rfl

/-- One number put behind a list that the call owns. -/
theorem wpList_append_nat (w : World) {ops : Array Oper} {rest : List Oper} {o : Oper} {a : Act} {Q : Exit → Act → World → Prop} (hg : o.guard = none) (s x : Operand)
    (hop : o.op = .call { callee := .builtin .append, args := #[s, x], argTypes := #[105, 105] })
    (base : Nat) (v : Value) (l : List Nat) (p n : Nat) (hn : n = l.length) (hs : a.eval s = v) (hown : w.ownsRow base 3 1 v n (ics l))
    (ad : Addr) (c : Nat) (hx : a.eval x = .slice (some ad) 1 c) (hc : w.cell? ad = some (.int .i64 (p : Int))) (hroom : n + 1 ≤ 1000000) (hbase : base ≤ w.heap.size)
    (h : ∀ g cap w', w'.ownsRow base 3 1 (.slice (some ⟨g, 0, none⟩) (n + 1) cap) (n + 1) (ics (l ++ [p])) → w.grownBy w' v.ownBlock → wpList Tryz.prog ops Q rest (a.put o.dst (.slice (some ⟨g, 0, none⟩) (n + 1) cap)) w') :
    wpList Tryz.prog ops Q (o :: rest) a w := by
  obtain ⟨i0, hi, hz0, hz1, hz2⟩ := info_parts Tryz.infoI
  refine wpList_append_lies w hg s x 105 hop base 3 i0 _ 1 8 Tryz.underlying105 hi hz0 hz1 hz2 rfl (by decide) v n (ics l) hs hown ad 1 c (ics [p]) hx rfl ?_ (ics_one [p]) (by decide) (by unfold maxLen; omega) (by omega) hbase w.heap.size rfl ?_
  · intro j u hj
    cases j with
    | zero =>
      have e : ad.add 0 = ad := by cases ad; unfold Addr.add; split <;> simp_all
      rw [e, hc]
      simpa [ics] using hj
    | succ j => simp [ics] at hj
  · intro g cap w' h1 h2 _ _
    refine h g cap w' ?_ h2
    rw [show ics (l ++ [p]) = ics l ++ ics [p] from by simp [ics]]
    exact h1

/-- A key's bits, one by one. -/
def spots (H k m : Nat) : List Nat := (List.range k).map fun i => Bm.place H i m
theorem spots_length (H k m : Nat) : (spots H k m).length = k := by simp [spots]
theorem spots_get (H k m i : Nat) (h : i < (spots H k m).length) : (spots H k m)[i] = Bm.place H i m := by simp [spots]
theorem spots_succ (H k m : Nat) : spots H (k + 1) m = spots H k m ++ [Bm.place H k m] := by simp [spots, List.range_succ]

theorem own_laterI {w w' : World} {base n : Nat} {v : Value} {xs : List Value} (h : w.ownsRow base 3 1 v n xs) (hb : Below w.heap.size w w') : w'.ownsRow base 3 1 v n xs :=
  h.kept (w' := w') (row := none) ⟨hb.os, hb.tape, hb.output, hb.size, fun k hk _ => hb.block k hk⟩ (none_kept _)

set_option maxHeartbeats 1600000 in
theorem places_any (w : World) (key : ByteArray) (k m : Nat) (hs : key.size ≤ 140737488355328) (hk : k ≤ 255) (hm : 0 < m) (hm2 : m ≤ 1125899906842624) :
    Calls Tryz.prog 69 #[.string key, .int .i64 (k : Int), .int .i64 (m : Int)] w fun e w' => ∃ v, e = .returned v ∧ w'.ownsRow w.heap.size 3 1 v k (ics (spots (Bm.hash key.data.toList) k m)) ∧ Below w.heap.size w w' := by
  obtain ⟨H, hH⟩ : ∃ H, H = Bm.hash key.data.toList := ⟨_, rfl⟩
  have hHl : H < 18446744073709551616 := by rw [hH]; exact Bm.hash_lt _
  have HA : Hid (∀ wx, Calls Tryz.prog 86 #[.string key] wx fun e w' => e = .returned (.int .u64 (H : Int)) ∧ w' = wx) := fun wx => by rw [hH]; exact rhash_any wx key hs
  rw [← hH]
  have A : (H : Int).tmod 4294967296 = ((Bm.low H : Nat) : Int) := by rw [Int.tmod_eq_emod_of_nonneg (by omega)]; unfold Bm.low; omega
  have B := or_high H hHl
  have l1 := Bm.low_lt H
  have l2 := Bm.high_lt H hHl
  have SUM : Hid (∀ i, i < 256 → Bm.low H + i * Bm.high H < 1103806595072) := fun i hi => Bm.sum_lt H i hHl hi
  have PL : Hid (∀ i, Bm.place H i m = (Bm.low H + i * Bm.high H) % m) := fun i => rfl
  obtain ⟨lo, hlo⟩ : ∃ x, x = Bm.low H := ⟨_, rfl⟩
  obtain ⟨hg, hhg⟩ : ∃ x, x = Bm.high H := ⟨_, rfl⟩
  rw [← hlo] at A l1 SUM PL
  rw [← hhg] at B l2 SUM PL
  clear hH hlo hhg
  go_enter Tryz.func69, Tryz.ntmps69
  go_wp2_with (go_at_call 86; refine (HA.out _).mono ?_; rintro e w1 ⟨rfl, rfl⟩; clear HA)
  go_loopw [10, 11] (fun x i wr => ∃ j : Nat, j ≤ k ∧ i = .int .i64 j ∧ (∃ ad cp, x = .slice ad j cp ∧ wr.ownsRow w1.heap.size 3 1 (.slice ad j cp) j (ics (spots H j m))) ∧ Below w1.heap.size w1 wr) (fun _ i _ => k - (intOf i).toNat)
  case atStart => exact ⟨0, Nat.zero_le _, rfl, ⟨none, 0, rfl, World.ownsRow_nil _ _ _ _⟩, Below.refl _ _⟩
  case round =>
    obtain ⟨j, hj, rfl, ⟨ad, cp, rfl, ho⟩, bx⟩ := hrel
    clear A B
    by_cases hlt : j < k
    · have hsum := SUM.out j (by omega)
      obtain ⟨q, hq⟩ : ∃ q, q = j * hg := ⟨_, rfl⟩
      rw [← hq] at hsum
      have C : IntKind.u64.wrap ((j : Int) * (hg : Int)) = (q : Int) := by rw [hq, IntKind.wrap_u64, ← Int.natCast_mul]; omega
      have D : IntKind.u64.wrap ((lo : Int) + (q : Int)) = ((lo + q : Nat) : Int) := by rw [IntKind.wrap_u64]; omega
      obtain ⟨z, hz⟩ : ∃ z, z = lo + q := ⟨_, rfl⟩
      rw [← hz] at D
      obtain ⟨P, hP⟩ : ∃ P, P = Bm.place H j m := ⟨_, rfl⟩
      have hPl : P < m := by rw [hP]; exact Bm.place_lt _ _ _ hm
      have E : ((z : Int)).tmod (m : Int) = (P : Int) := by rw [Int.tmod_eq_emod_of_nonneg (by omega), hP, PL.out j, hz, hq]; simp
      have HP : Hid (spots H (j + 1) m = spots H j m ++ [P]) := by show _ = _; rw [spots_succ, hP]
      have HL : Hid (j = (spots H j m).length) := (spots_length H j m).symm
      have hbb : ∀ o, w1.heap.size ≤ (wr.alloc o).heap.size := fun o => by have := bx.size; simp; omega
      have mi : ((m : Int) == 0) = false := by simp; omega
      have m0 : ¬ ((m : Int) = 0) := by omega
      clear hq hz hP
      go_wp2_with (at_builtin; refine wpList_append_nat _ rfl _ _ rfl w1.heap.size _ (spots H j m) P j HL.out rfl (ho.alloc _) ⟨wr.heap.size, 0, none⟩ 1 rfl (cell_of_row _ _ _ _ _ _ (heap_alloc_new wr _)) (by omega) (hbb _) ?_; intro g2 cap2 w2 o2 g2')
      rw [← HP.out] at o2
      exact ⟨⟨j + 1, by omega, by go_num, ⟨_, _, rfl, o2⟩, (bx.alloc bx.size _).grown g2' (hbb _) (fun g e => (ho.lt g e).1)⟩, by simp [intOf]; omega⟩
    · obtain rfl : j = k := by omega
      go_wp2_with (fail)
      go_ret
      exact ⟨_, rfl, ho, bx⟩
end Go.Proofs.YtolalicliojkfaaGreat
