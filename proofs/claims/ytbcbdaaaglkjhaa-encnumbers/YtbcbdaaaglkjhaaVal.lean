/-
  The inner function that puts the text of one value that may be behind a list of bytes: what it does to a list that the call owns.
-/
import Derived.Test.YtbcbdaaaglkjhaaCheck
import Derived.Test.YtbcbdaaaglkjhaaNum
import Derived.Deep.RegionHeld3
namespace Go.Proofs.Ytbcbdaaaglkjhaa
open Go.RowKit

/-- The text of a value. -/
def vtext (k n : Int) (t : ByteArray) : List UInt8 :=
  if k = 1 then [2, UInt8.ofNat n.toNat] else if k = 2 then 3 :: high (n + 9223372036854775808).toNat 8 else if k = 3 then 4 :: (esc t.data.toList ++ [0, 1]) else [1]

theorem ne_own {v : Value} {g H len cap : Nat} (hat : v.ownBlock = some g ∨ g = H + 2) (hne : some H ≠ v.ownBlock) : some H ≠ (Value.slice (some ⟨g, 0, none⟩) len cap).ownBlock := by
  intro e
  have e : H = g := by simpa [Value.ownBlock] using e
  rcases hat with h | h
  · exact hne (by rw [h, e])
  · omega

set_option maxHeartbeats 800000 in
theorem appendValue_int (w : World) (base : Nat) (v : Value) (l : List UInt8) (n : Int) (t : ByteArray)
    (hown : w.ownsRow base 5 1 v l.length (bc l)) (hbase : base ≤ w.heap.size) (hlen : l.length ≤ 100000) (hn1 : -9223372036854775808 ≤ n) (hn2 : n ≤ 9223372036854775807) :
    Calls Try.prog 44 #[v, .agg #[.int .u8 2, .int .i64 n, .string t]] w fun e w' => ∃ v', e = .returned v' ∧ Ext base w v w' v' (l ++ vtext 2 n t) := by
  obtain ⟨i0, hi, hz0, hz1, hz2⟩ := info_parts Try.info5
  have HX : Hid (bits .xor .u64 (IntKind.u64.wrap n) 9223372036854775808 = ((n + 9223372036854775808).toNat : Int)) := turn_int n hn1 hn2
  have hst := Ext.start hown
  have hne : some w.heap.size ≠ v.ownBlock := fun e => by have := (hown.lt _ e.symm).2; omega
  have hmax : l.length + 1 ≤ maxLen := by unfold maxLen; omega
  have hby : (l.length + 1) * 1 ≤ 140737488355328 := by omega
  have hownW : (((w.alloc (.cells #[.int .u8 2, .int .i64 n, .string t] 32)).alloc (.cells #[.int .u8 3] 5)).drew).ownsRow base 5 1 v l.length (bc l) := (hown.alloc _).alloc _
  have hnewsW : ∀ j u, (bc [3])[j]? = some u → (((w.alloc (.cells #[.int .u8 2, .int .i64 n, .string t] 32)).alloc (.cells #[.int .u8 3] 5)).drew).cell? ((⟨w.heap.size + 1, 0, none⟩ : Addr).add j) = some u := by
    have := World.news_of_block (cs := #[.int .u8 3]) (heap_alloc_new (w.alloc (.cells #[.int .u8 2, .int .i64 n, .string t] 32)) (.cells #[.int .u8 3] 5))
    simpa [bc] using this
  have hcW : (((w.alloc (.cells #[.int .u8 2, .int .i64 n, .string t] 32)).alloc (.cells #[.int .u8 3] 5)).drew).cell? ⟨w.heap.size, 1, none⟩ = some (.int .i64 n) := by
    simp [go_sem, World.cell?_alloc_past]
  have hbW : base ≤ (((w.alloc (.cells #[.int .u8 2, .int .i64 n, .string t] 32)).alloc (.cells #[.int .u8 3] 5)).drew).heap.size := by simp; omega
  have hHW : (((w.alloc (.cells #[.int .u8 2, .int .i64 n, .string t] 32)).alloc (.cells #[.int .u8 3] 5)).drew).heap.size = w.heap.size + 2 := by simp
  have hn0 : -9223372036854775808 ≤ n := hn1
  clear hn1 hn2 hn0
  go_enter Try.func44, Try.ntmps44
  go_wp2
  go_region_held3 (fun w' => w'.cell? ⟨w.heap.size, 1, none⟩ = some (.int .i64 n)) (first | exact hc2 | exact hc1 | (go_keep; done))
    (first
      | (go_at_call 46; rw [HX.out]; refine (appendHigh_any w1 base _ (l ++ [3]) (n + 9223372036854775808).toNat 8 (Nat.le_refl 8) R.own hb1 hl1).mono ?_; rintro e w2 ⟨v2, rfl, hx2⟩; have hc2 := hx2.keeps hc1 hne1)
      | (refine step_append_lies _ (by rfl) (.tmp 17) (.tmp 18) 22 (by rfl) base 5 i0 (.int .u8 0) 1 1 Try.underlying22 hi hz0 hz1 hz2 rfl (by decide) v l.length (bc l) (by rfl) hownW ⟨w.heap.size + 1, 0, none⟩ 1 1 (bc [3]) (by rfl) (by rfl) hnewsW (bc_one _) (by decide) hmax hby hbW (w.heap.size + 2) hHW ?_; intro g cap w1 hown1 hgrow1 hat1 hlt1; have hc1 := far_one hgrow1 hcW hne; have R := (hst.alloc (.cells #[.int .u8 2, .int .i64 n, .string t] 32)).push (m := [3]) rfl rfl hown1 (grownBy_undrew hgrow1) (by simpa using hat1); have hne1 : some w.heap.size ≠ (Value.slice (some ⟨g, 0, none⟩) (l.length + 1) cap).ownBlock := ne_own hat1 hne; have hb1 : base ≤ w1.heap.size := Nat.le_trans hbase R.size; have hl1 : (l ++ [3]).length ≤ 1000000 := by simp; omega))
  have F := R.trans hx2
  clear hown hownW hnewsW hcW hbW hHW hown1 hgrow1 hat1 hlt1 hc1 R hne1 hb1 hl1 hx2 hc2 hst hne hmax hby
  go_wp2
  go_ret
  exact ⟨_, rfl, by simpa [vtext] using F⟩

set_option maxHeartbeats 800000 in
theorem appendValue_text (w : World) (base : Nat) (v : Value) (l : List UInt8) (n : Int) (t : ByteArray)
    (hown : w.ownsRow base 5 1 v l.length (bc l)) (hbase : base ≤ w.heap.size) (hlen : l.length ≤ 100000) (ht : t.size ≤ 64) :
    Calls Try.prog 44 #[v, .agg #[.int .u8 3, .int .i64 n, .string t]] w fun e w' => ∃ v', e = .returned v' ∧ Ext base w v w' v' (l ++ vtext 3 n t) := by
  obtain ⟨i0, hi, hz0, hz1, hz2⟩ := info_parts Try.info5
  have hst := Ext.start hown
  have hne : some w.heap.size ≠ v.ownBlock := fun e => by have := (hown.lt _ e.symm).2; omega
  have hmax : l.length + 1 ≤ maxLen := by unfold maxLen; omega
  have hby : (l.length + 1) * 1 ≤ 140737488355328 := by omega
  have hownW : (((w.alloc (.cells #[.int .u8 3, .int .i64 n, .string t] 32)).alloc (.cells #[.int .u8 4] 5)).drew).ownsRow base 5 1 v l.length (bc l) := (hown.alloc _).alloc _
  have hnewsW : ∀ j u, (bc [4])[j]? = some u → (((w.alloc (.cells #[.int .u8 3, .int .i64 n, .string t] 32)).alloc (.cells #[.int .u8 4] 5)).drew).cell? ((⟨w.heap.size + 1, 0, none⟩ : Addr).add j) = some u := by
    have := World.news_of_block (cs := #[.int .u8 4]) (heap_alloc_new (w.alloc (.cells #[.int .u8 3, .int .i64 n, .string t] 32)) (.cells #[.int .u8 4] 5))
    simpa [bc] using this
  have hcW : (((w.alloc (.cells #[.int .u8 3, .int .i64 n, .string t] 32)).alloc (.cells #[.int .u8 4] 5)).drew).cell? ⟨w.heap.size, 2, none⟩ = some (.string t) := by
    simp [go_sem, World.cell?_alloc_past]
  have hbW : base ≤ (((w.alloc (.cells #[.int .u8 3, .int .i64 n, .string t] 32)).alloc (.cells #[.int .u8 4] 5)).drew).heap.size := by simp; omega
  have hHW : (((w.alloc (.cells #[.int .u8 3, .int .i64 n, .string t] 32)).alloc (.cells #[.int .u8 4] 5)).drew).heap.size = w.heap.size + 2 := by simp
  have hts : t.size ≤ 1000 := by omega
  go_enter Try.func44, Try.ntmps44
  go_wp2
  go_region_held3 (fun w' => w'.cell? ⟨w.heap.size, 2, none⟩ = some (.string t)) (first | exact hc2 | exact hc1 | (go_keep; done))
    (first
      | (go_at_call 63; refine (appendText_any w1 base _ (l ++ [4]) t R.own hb1 hl1 hts).mono ?_; rintro e w2 ⟨v2, rfl, hx2⟩; have hc2 := hx2.keeps hc1 hne1)
      | (refine step_append_lies _ (by rfl) (.tmp 27) (.tmp 28) 22 (by rfl) base 5 i0 (.int .u8 0) 1 1 Try.underlying22 hi hz0 hz1 hz2 rfl (by decide) v l.length (bc l) (by rfl) hownW ⟨w.heap.size + 1, 0, none⟩ 1 1 (bc [4]) (by rfl) (by rfl) hnewsW (bc_one _) (by decide) hmax hby hbW (w.heap.size + 2) hHW ?_; intro g cap w1 hown1 hgrow1 hat1 hlt1; have hc1 := far_one hgrow1 hcW hne; have R := (hst.alloc (.cells #[.int .u8 3, .int .i64 n, .string t] 32)).push (m := [4]) rfl rfl hown1 (grownBy_undrew hgrow1) (by simpa using hat1); have hne1 : some w.heap.size ≠ (Value.slice (some ⟨g, 0, none⟩) (l.length + 1) cap).ownBlock := ne_own hat1 hne; have hb1 : base ≤ w1.heap.size := Nat.le_trans hbase R.size; have hl1 : (l ++ [4]).length ≤ 1000000 := by simp; omega))
  have F := R.trans hx2
  clear hown hownW hnewsW hcW hbW hHW hown1 hgrow1 hat1 hlt1 hc1 R hne1 hb1 hl1 hx2 hc2 hst hne hmax hby
  go_wp2
  go_ret
  exact ⟨_, rfl, by simpa [vtext] using F⟩

set_option maxHeartbeats 800000 in
theorem appendValue_bool (w : World) (base : Nat) (v : Value) (l : List UInt8) (n : Nat) (t : ByteArray)
    (hown : w.ownsRow base 5 1 v l.length (bc l)) (hbase : base ≤ w.heap.size) (hlen : l.length ≤ 100000) (hn : n ≤ 1) :
    Calls Try.prog 44 #[v, .agg #[.int .u8 1, .int .i64 n, .string t]] w fun e w' => ∃ v', e = .returned v' ∧ Ext base w v w' v' (l ++ vtext 1 n t) := by
  obtain ⟨i0, hi, hz0, hz1, hz2⟩ := info_parts Try.info5
  have hst := Ext.start hown
  have hmax : l.length + 2 ≤ maxLen := by unfold maxLen; omega
  have hby : (l.length + 2) * 1 ≤ 140737488355328 := by omega
  go_enter Try.func44, Try.ntmps44
  go_wp2_with (at_builtin; refine wpList_append_lies _ rfl (.tmp 9) (.tmp 13) 22 rfl base 5 i0 (.int .u8 0) 1 1 Try.underlying22 hi hz0 hz1 hz2 rfl (by decide) _ _ _ rfl ((hown.alloc _).alloc _) ⟨w.heap.size + 1, 0, none⟩ 2 2 (bc [2, UInt8.ofNat n]) rfl rfl ?f2 (bc_one _) (by decide) hmax hby ?f5 _ rfl ?_)
  case f2 =>
    have := World.news_of_block (cs := #[.int .u8 2, .int .u8 (n : Int)]) (heap_alloc_new (w.alloc (.cells #[.int .u8 1, .int .i64 n, .string t] 32)) (.cells #[.int .u8 2, .int .u8 (n : Int)] 5))
    have e : (n : Int) % 256 = n := by omega
    simpa [bc, ofNat_cell, e] using this
  case f5 => simp; omega
  · intro g cap w1 hown1 hgrow1 hat1 hlt1
    have F := (hst.alloc (.cells #[.int .u8 1, .int .i64 n, .string t] 32)).push (m := [2, UInt8.ofNat n]) rfl rfl hown1 hgrow1 (by simpa using hat1)
    clear hown hown1 hgrow1 hat1 hlt1 hst hmax hby
    go_wp2
    go_ret
    exact ⟨_, rfl, by simpa [vtext] using F⟩

set_option maxHeartbeats 800000 in
theorem appendValue_null (w : World) (base : Nat) (v : Value) (l : List UInt8) (n : Int) (t : ByteArray)
    (hown : w.ownsRow base 5 1 v l.length (bc l)) (hbase : base ≤ w.heap.size) (hlen : l.length ≤ 100000) :
    Calls Try.prog 44 #[v, .agg #[.int .u8 0, .int .i64 n, .string t]] w fun e w' => ∃ v', e = .returned v' ∧ Ext base w v w' v' (l ++ vtext 0 n t) := by
  obtain ⟨i0, hi, hz0, hz1, hz2⟩ := info_parts Try.info5
  have hst := Ext.start hown
  have hmax : l.length + 1 ≤ maxLen := by unfold maxLen; omega
  have hby : (l.length + 1) * 1 ≤ 140737488355328 := by omega
  go_enter Try.func44, Try.ntmps44
  go_wp2_with (at_builtin; refine wpList_append_lies _ rfl (.tmp 33) (.tmp 34) 22 rfl base 5 i0 (.int .u8 0) 1 1 Try.underlying22 hi hz0 hz1 hz2 rfl (by decide) _ _ _ rfl ((hown.alloc _).alloc _) ⟨w.heap.size + 1, 0, none⟩ 1 1 (bc [1]) rfl rfl ?f2 (bc_one _) (by decide) hmax hby ?f5 _ rfl ?_)
  case f2 =>
    have := World.news_of_block (cs := #[.int .u8 1]) (heap_alloc_new (w.alloc (.cells #[.int .u8 0, .int .i64 n, .string t] 32)) (.cells #[.int .u8 1] 5))
    simpa [bc] using this
  case f5 => simp; omega
  · intro g cap w1 hown1 hgrow1 hat1 hlt1
    have F := (hst.alloc (.cells #[.int .u8 0, .int .i64 n, .string t] 32)).push (m := [1]) rfl rfl hown1 hgrow1 (by simpa using hat1)
    clear hown hown1 hgrow1 hat1 hlt1 hst hmax hby
    go_wp2
    go_ret
    exact ⟨_, rfl, by simpa [vtext] using F⟩

/-- Of a value that may be. -/
theorem appendValue_any (w : World) (base : Nat) (v : Value) (l : List UInt8) (k n : Int) (t : ByteArray)
    (hown : w.ownsRow base 5 1 v l.length (bc l)) (hbase : base ≤ w.heap.size) (hlen : l.length ≤ 100000) (hn1 : -9223372036854775808 ≤ n) (hn2 : n ≤ 9223372036854775807) (hmay : mayV k n t = true) :
    Calls Try.prog 44 #[v, .agg #[.int .u8 k, .int .i64 n, .string t]] w fun e w' => ∃ v', e = .returned v' ∧ Ext base w v w' v' (l ++ vtext k n t) := by
  simp only [mayV, Bool.or_eq_true, Bool.and_eq_true, beq_iff_eq, decide_eq_true_eq] at hmay
  rcases hmay with ((⟨⟨rfl, _⟩, _⟩ | ⟨⟨rfl, hb⟩, _⟩) | ⟨rfl, _⟩) | ⟨⟨rfl, _⟩, hs⟩
  · exact appendValue_null w base v l n t hown hbase hlen
  · obtain ⟨m, rfl⟩ : ∃ m : Nat, n = m := ⟨n.toNat, by omega⟩
    exact appendValue_bool w base v l m t hown hbase hlen (by omega)
  · exact appendValue_int w base v l n t hown hbase hlen hn1 hn2
  · exact appendValue_text w base v l n t hown hbase hlen hs
end Go.Proofs.Ytbcbdaaaglkjhaa
