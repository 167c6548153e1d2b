/-
  The document's own bytes of a number, and a list with them behind it: new memory, the same bytes as the program's.
-/
import Derived.Test.YtbcbdaaaglkjhaaAppend
import Derived.Test.YtbcbdaaaglkjhaaRefText
import Derived.Test.YtbcbdaaaglkjhaaRefTuple
namespace Go.Proofs.Ytbcbdaaaglkjhaa
open Go.RowKit

set_option maxHeartbeats 800000 in
theorem refBytes_any (k : Nat) : ∀ (x : Nat) (w : World), x ≤ k → x < 18446744073709551616 →
    Calls Try.prog 52 #[.int .u64 (x : Int)] w fun e w' => ∃ v', e = .returned v' ∧ Ext w.heap.size w (.slice none 0 0) w' v' (leb x) := by
  induction k with
  | zero =>
    intro x w hk hx
    have e : x = 0 := by omega
    subst e
    go_enter Try.func52, Try.ntmps52
    go_wp2_with (fail)
    go_ret
    exact ⟨_, rfl, Ext.lit0 w.heap.size w _ (leb 0) 1 (Nat.le_refl _) rfl rfl (by decide)⟩
  | succ k ih =>
    intro x w hk hx
    by_cases hs : x < 128
    · have hi : (x : Int) < 128 := by omega
      go_enter Try.func52, Try.ntmps52
      go_wp2_with (fail)
      go_ret
      refine ⟨_, rfl, Ext.lit0 w.heap.size w _ (leb x) 1 (Nat.le_refl _) ?_ (by rw [leb_small x hs]; rfl) (by decide)⟩
      rw [leb_small x hs]
      simp [bc]
      try omega
    · have hi : ¬ (x : Int) < 128 := by omega
      have IH : Hid (∀ wx : World, Calls Try.prog 52 #[.int .u64 ((x : Int) / 128)] wx fun e w' => ∃ v', e = .returned v' ∧ Ext wx.heap.size wx (.slice none 0 0) w' v' (leb (x / 128))) := fun wx => by
        have := ih (x / 128) wx (by omega) (by omega)
        rwa [show ((x / 128 : Nat) : Int) = (x : Int) / 128 from by omega] at this
      have HL : Hid (leb x = UInt8.ofNat (x % 128 + 128) :: leb (x / 128)) := leb_great x hs
      have hp := leb_pos (x / 128)
      have hm := leb_len64 (x / 128) (by omega)
      obtain ⟨c, hc⟩ : ∃ c : UInt8, c = UInt8.ofNat (x % 128 + 128) := ⟨_, rfl⟩
      have LC : Hid ((#[.int .u8 ((x : Int) % 128 + 128)] : Array Value).toList = bc [c]) := by
        show _ = _
        have : (c.toNat : Int) = (x : Int) % 128 + 128 := by rw [hc, more_toNat]; omega
        simp [bc, this]
      have L0 := Ext.lit0 w.heap.size w #[.int .u8 ((x : Int) % 128 + 128)] [c] 1 (Nat.le_refl _) LC.out rfl (by decide)
      have hne : leb (x / 128) ≠ [] := by intro e; rw [e] at hp; simp at hp
      have rm : [c].length + (leb (x / 128)).length ≤ 140737488355328 := by rw [List.length_singleton]; omega
      rw [HL.out, ← hc]
      clear ih hc HL
      go_enter Try.func52, Try.ntmps52
      go_wp2_with (first
        | (go_at_call 52; refine (IH.out _).mono ?_; rintro e w1 ⟨v1, rfl, hx1⟩; obtain ⟨g1, cap1, rfl⟩ := hx1.some hne; have R0 := L0.beside hx1; have nw := own_cells hx1.own; have hb1 : w.heap.size ≤ w1.heap.size := R0.size; clear L0)
        | (at_builtin; refine wpList_append_bytes _ rfl _ _ rfl w.heap.size _ [c] (leb (x / 128)) rfl R0.own ⟨g1, 0, none⟩ _ cap1 rfl rfl nw hp rm hb1 ?_; intro g2 cap2 L2 w2 HL2 hx2 hl2; have R := R0.trans hx2; clear R0 hx1 hx2 nw))
      go_ret
      exact ⟨_, rfl, R⟩

theorem bytes_nil_ok {w : World} {a : Option Addr} {c : Nat} {l : List UInt8} (h : BytesIn w (.slice a l.length c) l) : a = none → l = [] := by
  intro e
  obtain ⟨⟨a', cap', e', hf⟩, _⟩ := h
  simp only [Value.slice.injEq, true_and] at e'
  obtain ⟨rfl, rfl⟩ := e'
  by_cases h0 : l = []
  · exact h0
  · obtain ⟨b, off, hb, _⟩ := hf h0; rw [e] at hb; cases hb

/-- Bytes that came in put behind a new list: none of them, too. -/
theorem wpList_copy_bytes (w : World) {ops : Array Oper} {rest : List Oper} {o : Oper} {a : Act} {Q : Exit → Act → World → Prop} (hg : o.guard = none) (s x : Operand)
    (hop : o.op = .call { callee := .builtin .append, args := #[s, x], argTypes := #[22, 22] })
    (base g : Nat) (m : List UInt8) (k c : Nat) (hk : k = m.length) (hs : a.eval s = .slice (some ⟨g, 0, none⟩) 0 0) (hown : w.ownsRow base 5 1 (.slice (some ⟨g, 0, none⟩) 0 0) 0 (bc []))
    (ao : Option Addr) (hx : a.eval x = .slice ao k c) (hin : BytesIn w (.slice ao k c) m) (hnone : ao = none → c = 0) (hroom : m.length ≤ 140737488355328) (hbase : base ≤ w.heap.size)
    (h : ∀ g' cap' L w', Hid (L = m.length) → Ext base w (.slice (some ⟨g, 0, none⟩) 0 0) w' (.slice (some ⟨g', 0, none⟩) L cap') m → wpList Try.prog ops Q rest (a.put o.dst (.slice (some ⟨g', 0, none⟩) L cap')) w') :
    wpList Try.prog ops Q (o :: rest) a w := by
  subst hk
  obtain ⟨i0, hi, hz0, hz1, hz2⟩ := info_parts Try.info5
  have hno := bytes_nil_ok hin
  obtain ⟨⟨a', cap', e, hf⟩, hlen⟩ := hin
  simp only [Value.slice.injEq, true_and] at e
  obtain ⟨rfl, rfl⟩ := e
  by_cases hm : m = []
  · subst hm
    refine wpList_append_fits_any w hg s x 22 hop base 5 i0 1 Try.underlying22 hi hz1 g 0 0 (bc []) hs hown ao 0 c [] hx rfl (fun h0 => ⟨rfl, hnone h0⟩) (fun ad _ j u hj => by simp at hj) (by simp) (Nat.le_refl _) ?_
    intro w' h1 h2
    exact h g 0 0 w' rfl ⟨h1, h2, .inl rfl⟩
  · obtain ⟨b, off, rfl, hat⟩ := hf hm
    refine wpList_append_bytes w hg s x hop base _ [] m hs hown ⟨b, off, none⟩ m.length c hx rfl (BytesIn.cells (fun _ => ⟨b, off, rfl, hat⟩) _ rfl) (List.length_pos_iff.mpr hm) (by simpa using hroom) hbase ?_
    intro g' cap' L w' hL hx' _
    exact h g' cap' L w' (by have := hL.out; rw [List.nil_append] at this; exact this) (by simpa using hx')
end Go.Proofs.Ytbcbdaaaglkjhaa
