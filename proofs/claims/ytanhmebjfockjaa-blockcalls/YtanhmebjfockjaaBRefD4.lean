/-
  The document's own reading of one entry: what comes behind the key.
-/
import Derived.Test.YtanhmebjfockjaaBRefD3
import Derived.Test.YtanhmebjfockjaaBEnt
import Derived.Deep.RegionHeld3
namespace Go.Proofs.Ytanhmebjfockjaa
open Go.RowKit

structure Tw (w0 W : World) (XB : Nat) (e : Mm.Ent) : Prop where
  x : W.heap[XB]? = some (xO e)
  z : W.heap[w0.heap.size]? = some zE
  d : Below w0.heap.size w0 W
  lt : w0.heap.size < XB
theorem Tw.later {w0 W W' : World} {XB : Nat} {e : Mm.Ent} (h : Tw w0 W XB e) (b : Below W.heap.size W W') : Tw w0 W' XB e :=
  ⟨keepB b h.x, keepB b h.z, h.d.trans (b.mono h.d.size), h.lt⟩
theorem Tw.seq {w0 W : World} {XB : Nat} {k v : List UInt8} {q : Int} {d : Bool} (h : Tw w0 W XB ⟨k, v, q, d⟩) (q' : Int) : Tw w0 (W.setCell ⟨XB, 2, none⟩ (.int .i64 q')) XB ⟨k, v, q', d⟩ :=
  ⟨(Joins.block_setCell h.x _).trans rfl, (Below.heap_setCell _ _ _ _ (Nat.ne_of_lt h.lt)).trans h.z, h.d.setCell (Nat.le_of_lt h.lt) _, h.lt⟩
theorem Tw.del {w0 W : World} {XB : Nat} {k v : List UInt8} {q : Int} {d : Bool} (h : Tw w0 W XB ⟨k, v, q, d⟩) (d' : Bool) : Tw w0 (W.setCell ⟨XB, 3, none⟩ (.bool d')) XB ⟨k, v, q, d'⟩ :=
  ⟨(Joins.block_setCell h.x _).trans rfl, (Below.heap_setCell _ _ _ _ (Nat.ne_of_lt h.lt)).trans h.z, h.d.setCell (Nat.le_of_lt h.lt) _, h.lt⟩
theorem Tw.val {w0 W : World} {XB : Nat} {k v : List UInt8} {q : Int} {d : Bool} (h : Tw w0 W XB ⟨k, v, q, d⟩) (v' : List UInt8) : Tw w0 (W.setCell ⟨XB, 1, none⟩ (str v')) XB ⟨k, v', q, d⟩ :=
  ⟨(Joins.block_setCell h.x _).trans rfl, (Below.heap_setCell _ _ _ _ (Nat.ne_of_lt h.lt)).trans h.z, h.d.setCell (Nat.le_of_lt h.lt) _, h.lt⟩
theorem Tw.cx {w0 W : World} {XB : Nat} {k v : List UInt8} {q : Int} {d : Bool} (h : Tw w0 W XB ⟨k, v, q, d⟩) : (W.cell? ⟨XB, 0, none⟩ = some (str k) ∧ W.cell? ⟨XB, 1, none⟩ = some (str v) ∧ W.cell? ⟨XB, 2, none⟩ = some (.int .i64 q) ∧ W.cell? ⟨XB, 3, none⟩ = some (.bool d)) ∧ W.frozen? ⟨XB, 0, none⟩ = false ∧ W.frozen? ⟨XB, 1, none⟩ = false ∧ W.frozen? ⟨XB, 2, none⟩ = false ∧ W.frozen? ⟨XB, 3, none⟩ = false := zE_cells h.x
theorem Tw.cz {w0 W : World} {XB : Nat} {e : Mm.Ent} (h : Tw w0 W XB e) : (W.cell? ⟨w0.heap.size, 0, none⟩ = some (str []) ∧ W.cell? ⟨w0.heap.size, 1, none⟩ = some (str []) ∧ W.cell? ⟨w0.heap.size, 2, none⟩ = some (.int .i64 0) ∧ W.cell? ⟨w0.heap.size, 3, none⟩ = some (.bool false)) ∧ W.frozen? ⟨w0.heap.size, 0, none⟩ = false ∧ W.frozen? ⟨w0.heap.size, 1, none⟩ = false ∧ W.frozen? ⟨w0.heap.size, 2, none⟩ = false ∧ W.frozen? ⟨w0.heap.size, 3, none⟩ = false := zE_cells h.z
theorem at_byte {w : World} {bl off n c : Nat} {b : List UInt8} (h : BytesIn w (.slice (some ⟨bl, off, none⟩) n c) b) (j : Nat) (hj : j < b.length) : w.cell? ⟨bl, off + j, none⟩ = some (.int .u8 (b[j].toNat : Int)) := by
  obtain ⟨⟨a', c', e, hf⟩, hl⟩ := h
  cases e
  obtain ⟨bl', off', e, hat⟩ := hf (by intro e; rw [e] at hj; simp at hj)
  cases e
  exact hat j hj

set_option maxRecDepth 100000 in
set_option maxHeartbeats 4000000 in
theorem rentry_more (w : World) (ao : Option Addr) (c n : Nat) (b a : List UInt8) (lo : Nat) (h : BytesIn w (.slice ao n c) b) (hn : n = b.length) (hcap : n ≤ c) (hlen : n ≤ 1000000000) (ha : a.length ≤ 1000000) (he : Enc.smE (b.drop lo) a.length = 0) (he2 : Enc.smE (Bk.q1 a (b.drop lo)) 512 = 0) (he3 : Bk.qm a (b.drop lo) ≤ (Bk.q2 a (b.drop lo)).length) :
    Calls Try.prog 79 #[.slice ao n c, .int .i64 (lo : Int), str a] w fun e w' => ∃ x r, e = .returned (.tuple #[entV x, .int .i64 r]) ∧ Hid (entR a b lo x r) ∧ Below w.heap.size w w' := by
  have B0 : Below w.heap.size w (w.alloc zE) := (Below.refl _ _).alloc (Nat.le_refl _) _
  have Z0 : Hid _ := World.alloc_heap_new w zE
  have hlo := sm_room he
  obtain ⟨bl, off, rfl⟩ : ∃ bl off, ao = some ⟨bl, off, none⟩ := by
    obtain ⟨⟨a', c', e, hf⟩, _⟩ := h
    cases e
    obtain ⟨bl, off, e, _⟩ := hf (by intro e; rw [e] at hlo; simp at hlo)
    exact ⟨bl, off, e⟩
  obtain ⟨X, N, eX, eN, hX, hN⟩ := sm_nat (b.drop lo) a.length
  rw [List.length_drop] at hN
  have hq1 : Bk.q1 a (b.drop lo) = b.drop (lo + N) := by unfold Bk.q1; rw [eN, Int.toNat_natCast, List.drop_drop]
  have he2' := he2
  rw [hq1] at he2
  obtain ⟨p, hp⟩ : ∃ p, p = lo + N := ⟨_, rfl⟩
  rw [← hp] at he2 hq1
  have hpl := sm_room he2
  obtain ⟨M, N2, eM, eN2, hM, hN2⟩ := sm_nat (b.drop p) 512
  rw [List.length_drop] at hN2
  have hqm : Bk.qm a (b.drop lo) = M := by
    unfold Bk.qm
    rw [hq1]
    have : Enc.smX (b.drop p) 512 = (M : Int) := eM
    rw [this, Int.toNat_natCast]
  have hq2 : Bk.q2 a (b.drop lo) = b.drop (p + N2) := by
    unfold Bk.q2
    rw [hq1]
    have : Enc.smN (b.drop p) 512 = (N2 : Int) := eN2
    rw [this, Int.toNat_natCast, List.drop_drop]
  have he3' := he3
  rw [hqm, hq2, List.length_drop] at he3
  obtain ⟨p2, hp2⟩ : ∃ p2, p2 = p + N2 := ⟨_, rfl⟩
  obtain ⟨p3, hp3⟩ : ∃ p3, p3 = p2 + M := ⟨_, rfl⟩
  have hq3 : Bk.q3 a (b.drop lo) = b.drop p3 := by unfold Bk.q3; rw [hqm, hq2, List.drop_drop, hp3, hp2]
  rw [← hp2] at hq2
  obtain ⟨K, hK⟩ : ∃ K, K = a.take X ++ (b.drop p2).take M := ⟨_, rfl⟩
  have hqk : Bk.qk a (b.drop lo) = K := by unfold Bk.qk; rw [eX, Int.toNat_natCast, hqm, hq2, hK]
  -- what the entry is
  obtain ⟨Q, N3, eQ, eN3, hQ, hN3⟩ := sm_nat (b.drop p3) 1073741824
  rw [List.length_drop] at hN3
  have eQ' : Enc.smX (b.drop p3) 1073741824 = (Q : Int) := eQ
  have eN3' : Enc.smN (b.drop p3) 1073741824 = (N3 : Int) := eN3
  have NO3 : Hid (¬ Enc.smE (b.drop p3) 1073741824 = 0 → ∀ x, entR a b lo x (-1)) := fun hc x => .inl ⟨by unfold Bk.pe; rw [if_neg (fun hx => hc (by have := hx.2.2.2; rwa [hq3] at this))], rfl⟩
  obtain ⟨p4, hp4⟩ : ∃ p4, p4 = p3 + N3 := ⟨_, rfl⟩
  have hq4 : Bk.q4 a (b.drop lo) = b.drop p4 := by unfold Bk.q4; rw [hq3, eN3', Int.toNat_natCast, List.drop_drop, hp4]
  have hq5 : Bk.q5 a (b.drop lo) = b.drop (p4 + 1) := by unfold Bk.q5; rw [hq4, List.drop_drop]
  obtain ⟨p5, hp5⟩ : ∃ p5, p5 = p4 + 1 := ⟨_, rfl⟩
  rw [← hp5] at hq5
  obtain ⟨V, N5, eV, eN5, hV, hN5⟩ := sm_nat (b.drop p5) 4096
  rw [List.length_drop] at hN5
  have eV' : Enc.smX (b.drop p5) 4096 = (V : Int) := eV
  have eN5' : Enc.smN (b.drop p5) 4096 = (N5 : Int) := eN5
  obtain ⟨p6, hp6⟩ : ∃ p6, p6 = p5 + N5 := ⟨_, rfl⟩
  have hq6 : Bk.q6 a (b.drop lo) = b.drop p6 := by unfold Bk.q6; rw [hq5, eN5', Int.toNat_natCast, List.drop_drop, hp6]
  have hqv : Bk.qv a (b.drop lo) = V := by unfold Bk.qv; rw [hq5, eV', Int.toNat_natCast]
  have hq7 : Bk.q7 a (b.drop lo) = b.drop (p6 + V) := by unfold Bk.q7; rw [hq6, hqv, List.drop_drop]
  have NO4 : Hid ((∀ hp : p4 < b.length, b[p4].toNat > 1) → ∀ x, entR a b lo x (-1)) := fun hc x => .inl ⟨by
    have hd : ∀ t : UInt8, t.toNat ≤ 1 → (b.drop p4).head? ≠ some t := fun t ht e => by
      rw [List.head?_drop] at e
      obtain ⟨h1, h2⟩ := List.getElem?_eq_some_iff.1 e
      have := hc h1
      rw [h2] at this
      omega
    unfold Bk.pe
    rw [hq4]
    split
    · rw [if_neg (hd 1 (by decide)), if_neg (fun hx => hd 0 (by decide) hx.1)]
    · rfl, rfl⟩
  have YES1 : Hid (Enc.smE (b.drop p3) 1073741824 = 0 → ∀ hp : p4 < b.length, b[p4] = 1 → entR a b lo ⟨K, [], Q, true⟩ (p5 : Int)) := fun h3 hp h1 => .inr ⟨p5, by
    unfold Bk.pe
    rw [if_pos ⟨he, he2', he3', by rw [hq3]; exact h3⟩, hq4, if_pos (by rw [List.head?_drop, List.getElem?_eq_getElem hp, h1]), hq5]
    unfold Bk.qx
    rw [hqk, hq3, eQ']
    rfl, by omega, rfl⟩
  have NO5 : Hid (∀ hp : p4 < b.length, b[p4] = 0 → ¬ (Enc.smE (b.drop p5) 4096 = 0 ∧ V ≤ (b.drop p6).length) → ∀ x, entR a b lo x (-1)) := fun hp h0 hc x => .inl ⟨by
    unfold Bk.pe
    rw [hq4, hq5, hqv, hq6, List.head?_drop, List.getElem?_eq_getElem hp, h0]
    split
    · rw [if_neg (by decide), if_neg (fun hx => hc hx.2)]
    · rfl, rfl⟩
  have YES0 : Hid (Enc.smE (b.drop p3) 1073741824 = 0 → ∀ hp : p4 < b.length, b[p4] = 0 → Enc.smE (b.drop p5) 4096 = 0 → V ≤ (b.drop p6).length → entR a b lo ⟨K, (b.drop p6).take V, Q, false⟩ ((p6 + V : Nat) : Int)) := fun h3 hp h0 h5 h6 => .inr ⟨p6 + V, by
    unfold Bk.pe
    rw [if_pos ⟨he, he2', he3', by rw [hq3]; exact h3⟩, hq4, hq5, hqv, hq6, hq7, List.head?_drop, List.getElem?_eq_getElem hp, h0, if_neg (by decide), if_pos ⟨rfl, h5, h6⟩]
    unfold Bk.qx
    rw [hqk, hq3, eQ', hq6, hqv]
    rfl, by rw [List.length_drop] at h6; have := sm_room h5; omega, rfl⟩
  have SM : Hid (∀ v, BytesIn (w.alloc zE) v (b.drop lo) → Calls Try.prog 78 #[v, .int .i64 (a.length : Int)] (w.alloc zE) fun e w' => e = .returned (.tuple #[.int .i64 (X : Int), .int .i64 (N : Int), .int .i64 0]) ∧ Below (w.alloc zE).heap.size (w.alloc zE) w') := fun v hv => rsm_any _ v _ _ (by omega) hv X N 0 eX eN he
  have SM2 : Hid (∀ wx v, BytesIn wx v (b.drop p) → Calls Try.prog 78 #[v, .int .i64 512] wx fun e w' => e = .returned (.tuple #[.int .i64 (M : Int), .int .i64 (N2 : Int), .int .i64 0]) ∧ Below wx.heap.size wx w') := fun wx v hv => rsm_any wx v _ 512 (by omega) hv M N2 0 eM eN2 he2
  have SM3 : Hid (∀ E, Enc.smE (b.drop p3) 1073741824 = E → ∀ wx v, BytesIn wx v (b.drop p3) → Calls Try.prog 78 #[v, .int .i64 1073741824] wx fun e w' => e = .returned (.tuple #[.int .i64 (Q : Int), .int .i64 (N3 : Int), .int .i64 E]) ∧ Below wx.heap.size wx w') := fun E hE wx v hv => rsm_any wx v _ 1073741824 (by omega) hv Q N3 E eQ eN3 hE
  have SM4 : Hid (∀ E, Enc.smE (b.drop p5) 4096 = E → ∀ wx v, BytesIn wx v (b.drop p5) → Calls Try.prog 78 #[v, .int .i64 4096] wx fun e w' => e = .returned (.tuple #[.int .i64 (V : Int), .int .i64 (N5 : Int), .int .i64 E]) ∧ Below wx.heap.size wx w') := fun E hE wx v hv => rsm_any wx v _ 4096 (by omega) hv V N5 E eV eN5 hE
  have hadd : ∀ q, (⟨bl, off, none⟩ : Addr).add q = ⟨bl, off + q, none⟩ := fun q => by unfold Addr.add; split <;> simp_all
  have R1 : Hid (BytesIn (w.alloc zE) (.slice (some ⟨bl, off + lo, none⟩) (n - lo) (c - lo)) (b.drop lo)) := by have := bytes_rest (h.later B0) lo _ rfl; rwa [Option.map_some, hadd] at this
  have RR : Hid (∀ q wx, Below w.heap.size w wx → BytesIn wx (.slice (some ⟨bl, off + q, none⟩) (n - q) (c - q)) (b.drop q)) := fun q wx hb => by have := bytes_rest (h.later hb) q _ rfl; rwa [Option.map_some, hadd] at this
  have RE : Hid (∀ q, c = q → ∀ (wx : World) m k, m = 0 → BytesIn wx (.slice (some ⟨bl, off, none⟩) m k) (b.drop q)) := fun q e wx m k hm => rest_none _ (some ⟨bl, off, none⟩) b q m hm k (by omega)
  have RP : Hid (∀ q m, q + m ≤ n → ∀ wx k, Below w.heap.size w wx → (convert 53 9 (.slice (some ⟨bl, off + q, none⟩) m k)).run Try.prog wx = .ok (str ((b.drop q).take m)) wx) := fun q m hq wx k hb => by have := bytes_str (bytes_part (h.later hb) q m k (by omega)); rwa [Option.map_some, hadd] at this
  have RZ : Hid (∀ q, c = q → ∀ (wx : World) m k, m = 0 → (convert 53 9 (.slice (some ⟨bl, off, none⟩) m k)).run Try.prog wx = .ok (str ((b.drop q).take m)) wx) := fun q e wx m k hm => by
    have := bytes_str (rest_none wx (some ⟨bl, off, none⟩) b q m hm k (by omega))
    rw [hm, List.take_zero]
    rw [List.drop_eq_nil_of_le (by omega), hm] at this
    exact this
  have k1 : (lo : Int) ≤ (n : Int) := by omega
  have k2 : (n : Int) ≤ (c : Int) := by omega
  have k3 : (lo : Int) ≤ (c : Int) := by omega
  have k4 : ¬ c = lo := by omega
  have k5 : (p : Int) ≤ (n : Int) := by omega
  have k6 : (p : Int) ≤ (c : Int) := by omega
  have k7 : ¬ c = p := by omega
  have hpi : (lo : Int) + (N : Int) = (p : Int) := by omega
  have wp : IntKind.i64.wrap (p : Int) = (p : Int) := by rw [IntKind.wrap_i64]; omega
  have w3 : IntKind.i64.wrap ((n : Int) - (p : Int)) = (n : Int) - (p : Int) := by rw [IntKind.wrap_i64]; omega
  have w4 : IntKind.i64.wrap ((n : Int) - (p : Int) - (N2 : Int)) = (n : Int) - (p : Int) - (N2 : Int) := by rw [IntKind.wrap_i64]; omega
  have k8 : ¬ (n : Int) - (p : Int) - (N2 : Int) < (M : Int) := by omega
  have hp2i : (p : Int) + (N2 : Int) = (p2 : Int) := by omega
  have wp2 : IntKind.i64.wrap (p2 : Int) = (p2 : Int) := by rw [IntKind.wrap_i64]; omega
  have hp3i : (p2 : Int) + (M : Int) = (p3 : Int) := by omega
  have wp3 : IntKind.i64.wrap (p3 : Int) = (p3 : Int) := by rw [IntKind.wrap_i64]; omega
  have k9 : (p2 : Int) ≤ (p3 : Int) := by omega
  have k10 : (p3 : Int) ≤ (n : Int) := by omega
  have k11 : (p3 : Int) ≤ (c : Int) := by omega
  have k12 : (p2 : Int) ≤ (c : Int) := by omega
  have k13 : (X : Int) ≤ (a.length : Int) := by omega
  have HK := hide hK
  have HP3 : Hid (p3 = p2 + M) := hp3
  have HP4 : Hid (p4 = p3 + N3) := hp4
  have HP5 : Hid (p5 = p4 + 1) := hp5
  have HP6 : Hid (p6 = p5 + N5) := hp6
  have HN : Hid (n = b.length) := hn
  have H := hide h
  clear he he2 he3 he2' he3' h hn hq1 hqm hq2 hq3 hq4 hq5 hq6 hq7 hqv hqk eX eN eM eN2 eQ eN3 eV eN5 eQ' eN3' eV' eN5' hp hN hlo hN2 hpl hp2 hp3 hp4 hp5 hp6 hK
  by_cases kc : c = p2
  · have M0 : M = 0 := by omega
    subst M0
    have e3 : c = p3 := by have := HP3.out; omega
    have hE : Enc.smE (b.drop p3) 1073741824 = 5 := by rw [List.drop_eq_nil_of_le (by have := HN.out; omega)]; exact sm_none _
    have HR := hide (NO3.out (by rw [hE]; decide))
    have Q1 := hide (RE.out p3 e3)
    have C2H : Hid (∀ wx : World, (convert 53 9 (.slice (some ⟨bl, off, none⟩) 0 0)).run Try.prog wx = .ok (.string ⟨#[]⟩) wx) := fun wx => by have := RZ.out p2 kc wx 0 0 rfl; rw [List.take_zero] at this; exact this
    rw [List.take_zero] at HK
    subst kc
    subst e3
    go_enter Try.func79, Try.ntmps79
    go_wp2_with (first
      | (go_at_call 78; refine (SM2.out _ _ (RR.out _ _ D1)).mono ?_; rintro e w2 ⟨rfl, b2⟩; have Z2 := hide (keepB b2 Z1.out); have D2 := hide (D1.trans (b2.mono D1.size)); clear SM2)
      | (go_at_call 78; refine (SM.out _ R1.out).mono ?_; rintro e w1 ⟨rfl, b1⟩; have Z1 := hide (keepB b1 Z0.out); have D1 := B0.trans (b1.mono B0.size); clear SM))
    have KP : ∀ wx : World, (Op.stringOp .add ((⟨a.toArray⟩ : ByteArray).extract 0 X) ⟨#[]⟩).run Try.prog wx = .ok (str K) wx := fun wx => by rw [HK.out]; exact add_take a [] X (by omega) (by simp) wx
    go_region_held3 (fun wx => (convert 53 9 (.slice (some ⟨bl, off, none⟩) 0 0)).run Try.prog wx = .ok (.string ⟨#[]⟩) wx)
      (first | exact C2H.out _)
      (fail)
    obtain ⟨W, hW⟩ : ∃ W, W = (w2.alloc (.cells #[.string ⟨K.toArray⟩, .string ⟨#[]⟩, .int .i64 0, .bool false] 38)).drew := ⟨_, rfl⟩
    have TW : Hid (Tw w W w2.heap.size ⟨K, [], 0, false⟩) := by
      rw [hW]
      refine ⟨World.alloc_heap_new _ _, keepB (w := w2) ?_ Z2.out, ?_, ?_⟩
      · exact ((Below.refl _ _).alloc (Nat.le_refl _) _).drew
      · exact (D2.out.alloc D2.out.size _).drew
      · exact (Array.getElem?_eq_some_iff.1 Z2.out).1
    obtain ⟨XB, hXB⟩ : ∃ XB, XB = w2.heap.size := ⟨_, rfl⟩
    rw [← hXB] at TW
    rw [← hW, ← hXB]
    clear KP C2H D2 Z2 hW hXB R1 b2 b1 D1 Z1
    go_wp2_with (first
      | (go_at_call 78; refine (SM3.out 5 hE _ _ (Q1.out _ _ _ (by omega))).mono ?_; rintro e w3 ⟨rfl, b3⟩; have T3 := TW.out.later b3; have T4 := hide (T3.seq (Q : Int)); obtain ⟨⟨x0, x1, x2, x3⟩, y0, y1, y2, y3⟩ := T3.cx; obtain ⟨⟨u0, u1, u2, u3⟩, v0, v1, v2, v3⟩ := T4.out.cz; clear T3 SM3))
    have G1 := putX_heap (y := ⟨[], [], 0, false⟩) T4.out.z ⟨[], [], 0, false⟩
    have L1 := putX_below T4.out.d w.heap.size (Nat.le_refl _) ⟨[], [], 0, false⟩
    refine bodyPost_ret (v := .tuple #[entV ⟨[], [], 0, false⟩, .int .i64 (-1)]) ?_ rfl ⟨⟨[], [], 0, false⟩, -1, rfl, HR.out _, L1⟩
    exact ret_entry (T := w.heap.size) (x := ⟨[], [], 0, false⟩) rfl rfl G1
  · have tM : p3 - p2 = M := by have := HP3.out; omega
    have C2H := hide (RP.out p2 M (by have := HP3.out; omega))
    go_enter Try.func79, Try.ntmps79
    go_wp2_with (first
      | (go_at_call 78; refine (SM2.out _ _ (RR.out _ _ D1)).mono ?_; rintro e w2 ⟨rfl, b2⟩; have Z2 := hide (keepB b2 Z1.out); have D2 := hide (D1.trans (b2.mono D1.size)); clear SM2)
      | (go_at_call 78; refine (SM.out _ R1.out).mono ?_; rintro e w1 ⟨rfl, b1⟩; have Z1 := hide (keepB b1 Z0.out); have D1 := B0.trans (b1.mono B0.size); clear SM))
    have KP : ∀ wx : World, (Op.stringOp .add ((⟨a.toArray⟩ : ByteArray).extract 0 X) ⟨((b.drop p2).take M).toArray⟩).run Try.prog wx = .ok (str K) wx := fun wx => by rw [HK.out]; exact add_take a _ X (by omega) (by rw [List.length_take]; omega) wx
    go_region_held3 (fun wx => (convert 53 9 (.slice (some ⟨bl, off + p2, none⟩) M (c - p2))).run Try.prog wx = .ok (str ((b.drop p2).take M)) wx)
      (first | exact C2H.out _ _ D2.out | exact C2H.out _ _ D2.out.drew | (exact C2H.out _ _ ((D2.out.drew).alloc (by have := D2.out.size; simpa using this) _)))
      (fail)
    obtain ⟨W, hW⟩ : ∃ W, W = (w2.alloc (.cells #[.string ⟨K.toArray⟩, .string ⟨#[]⟩, .int .i64 0, .bool false] 38)).drew := ⟨_, rfl⟩
    have TW : Hid (Tw w W w2.heap.size ⟨K, [], 0, false⟩) := by
      rw [hW]
      refine ⟨World.alloc_heap_new _ _, keepB (w := w2) ?_ Z2.out, ?_, ?_⟩
      · exact ((Below.refl _ _).alloc (Nat.le_refl _) _).drew
      · exact (D2.out.alloc D2.out.size _).drew
      · exact (Array.getElem?_eq_some_iff.1 Z2.out).1
    obtain ⟨XB, hXB⟩ : ∃ XB, XB = w2.heap.size := ⟨_, rfl⟩
    rw [← hXB] at TW
    rw [← hW, ← hXB]
    clear KP C2H D2 Z2 hW hXB R1 b2 b1 D1 Z1
    by_cases kc3 : c = p3
    · have hE : Enc.smE (b.drop p3) 1073741824 = 5 := by rw [List.drop_eq_nil_of_le (by have := HN.out; omega)]; exact sm_none _
      have HR := hide (NO3.out (by rw [hE]; decide))
      have Q1 := hide (RE.out p3 kc3)
      subst kc3
      go_wp2_with (first
        | (go_at_call 78; refine (SM3.out 5 hE _ _ (Q1.out _ _ _ (by omega))).mono ?_; rintro e w3 ⟨rfl, b3⟩; have T3 := TW.out.later b3; have T4 := hide (T3.seq (Q : Int)); obtain ⟨⟨x0, x1, x2, x3⟩, y0, y1, y2, y3⟩ := T3.cx; obtain ⟨⟨u0, u1, u2, u3⟩, v0, v1, v2, v3⟩ := T4.out.cz; clear T3 SM3))
      have G1 := putX_heap (y := ⟨[], [], 0, false⟩) T4.out.z ⟨[], [], 0, false⟩
      have L1 := putX_below T4.out.d w.heap.size (Nat.le_refl _) ⟨[], [], 0, false⟩
      refine bodyPost_ret (v := .tuple #[entV ⟨[], [], 0, false⟩, .int .i64 (-1)]) ?_ rfl ⟨⟨[], [], 0, false⟩, -1, rfl, HR.out _, L1⟩
      exact ret_entry (T := w.heap.size) (x := ⟨[], [], 0, false⟩) rfl rfl G1
    by_cases hE : Enc.smE (b.drop p3) 1073741824 = 0
    · have h3n := sm_room hE
      have hN3' : p4 ≤ n := by have := HP4.out; have := HN.out; omega
      have hp4i : (p3 : Int) + (N3 : Int) = (p4 : Int) := by have := HP4.out; omega
      have wp4 : IntKind.i64.wrap (p4 : Int) = (p4 : Int) := by rw [IntKind.wrap_i64]; omega
      by_cases h4 : p4 < n
      · have h4b : p4 < b.length := by have := HN.out; omega
        have g4 : ¬ (n : Int) ≤ (p4 : Int) := by omega
        have g5 : (p4 : Int) < (n : Int) := by omega
        have g6 : (0 : Int) ≤ (p4 : Int) := by omega
        have hp5i : (p4 : Int) + 1 = (p5 : Int) := by have := HP5.out; omega
        have wp5 : IntKind.i64.wrap (p5 : Int) = (p5 : Int) := by rw [IntKind.wrap_i64]; omega
        by_cases hy1 : b[p4].toNat > 1
        · have HR := hide (NO4.out (fun _ => hy1))
          obtain ⟨Y, hY⟩ : ∃ Y : Nat, Y = b[p4].toNat := ⟨_, rfl⟩
          have yg : (Y : Int) > 1 := by omega
          have HY := hide hY
          clear hy1 hY
          go_wp2_with (first
            | (go_at_call 78; refine (SM3.out 0 hE _ _ (RR.out _ _ TW.out.d)).mono ?_; rintro e w3 ⟨rfl, b3⟩; have T3 := TW.out.later b3; have T4 := hide (T3.seq (Q : Int)); obtain ⟨⟨x0, x1, x2, x3⟩, y0, y1, y2, y3⟩ := T3.cx; obtain ⟨⟨u0, u1, u2, u3⟩, v0, v1, v2, v3⟩ := T4.out.cz; clear T3 SM3; have CB := at_byte (H.out.later T4.out.d) p4 h4b; rw [← HY.out] at CB))
          have G1 := putX_heap (y := ⟨[], [], 0, false⟩) T4.out.z ⟨[], [], 0, false⟩
          have L1 := putX_below T4.out.d w.heap.size (Nat.le_refl _) ⟨[], [], 0, false⟩
          refine bodyPost_ret (v := .tuple #[entV ⟨[], [], 0, false⟩, .int .i64 (-1)]) ?_ rfl ⟨⟨[], [], 0, false⟩, -1, rfl, HR.out _, L1⟩
          exact ret_entry (T := w.heap.size) (x := ⟨[], [], 0, false⟩) rfl rfl G1
        by_cases hy2 : b[p4] = 1
        · have HR := hide (YES1.out hE h4b hy2)
          have HY : Hid ((b[p4].toNat : Int) = 1) := by show _ = _; rw [hy2]; rfl
          clear hy1 hy2
          go_wp2_with (first
            | (go_at_call 78; refine (SM3.out 0 hE _ _ (RR.out _ _ TW.out.d)).mono ?_; rintro e w3 ⟨rfl, b3⟩; have T3 := TW.out.later b3; have T4 := hide (T3.seq (Q : Int)); obtain ⟨⟨x0, x1, x2, x3⟩, y0, y1, y2, y3⟩ := T3.cx; obtain ⟨⟨u0, u1, u2, u3⟩, v0, v1, v2, v3⟩ := T4.out.cz; clear T3 SM3; have CB := at_byte (H.out.later T4.out.d) p4 h4b; rw [HY.out] at CB; have T5 := hide (T4.out.del true); obtain ⟨⟨x0, x1, x2, x3⟩, y0, y1, y2, y3⟩ := T4.out.cx; obtain ⟨⟨x0, x1, x2, x3⟩, y0, y1, y2, y3⟩ := T5.out.cx; obtain ⟨⟨u0, u1, u2, u3⟩, v0, v1, v2, v3⟩ := T5.out.cz))
          have G1 := putX_heap (y := ⟨[], [], 0, false⟩) T5.out.z ⟨K, [], Q, true⟩
          have L1 := putX_below T5.out.d w.heap.size (Nat.le_refl _) ⟨K, [], Q, true⟩
          refine bodyPost_ret (v := .tuple #[entV ⟨K, [], Q, true⟩, .int .i64 (p5 : Int)]) ?_ rfl ⟨⟨K, [], Q, true⟩, (p5 : Int), rfl, HR, L1⟩
          exact ret_entry (T := w.heap.size) (x := ⟨K, [], Q, true⟩) rfl rfl G1
        have hy0 : b[p4] = 0 := by
          apply UInt8.toNat_inj.1
          have : b[p4].toNat ≠ 1 := fun e => hy2 (UInt8.toNat_inj.1 e)
          show _ = 0
          omega
        have HY : Hid ((b[p4].toNat : Int) = 0) := by show _ = _; rw [hy0]; rfl
        clear hy1 hy2
        have k20 : (p5 : Int) ≤ (n : Int) := by have := HP5.out; omega
        have k21 : (p5 : Int) ≤ (c : Int) := by omega
        by_cases kc5 : c = p5
        · have hE5 : Enc.smE (b.drop p5) 4096 = 5 := by rw [List.drop_eq_nil_of_le (by have := HN.out; omega)]; exact sm_none _
          have HR := hide (NO5.out h4b hy0 (fun hx => by rw [hE5] at hx; exact absurd hx.1 (by decide)))
          have Q1 := hide (RE.out p5 kc5)
          subst kc5
          go_wp2_with (first
            | (go_at_call 78; have t5 := T5.out; refine (SM4.out 5 hE5 _ _ (Q1.out _ _ _ (by omega))).mono ?_; rintro e w5 ⟨rfl, b5⟩; have T6 := hide (T5.out.later b5); obtain ⟨⟨x0, x1, x2, x3⟩, y0, y1, y2, y3⟩ := T6.out.cx; obtain ⟨⟨u0, u1, u2, u3⟩, v0, v1, v2, v3⟩ := T6.out.cz; clear SM4 t5)
            | (go_at_call 78; refine (SM3.out 0 hE _ _ (RR.out _ _ TW.out.d)).mono ?_; rintro e w3 ⟨rfl, b3⟩; have T3 := TW.out.later b3; have T4 := hide (T3.seq (Q : Int)); obtain ⟨⟨x0, x1, x2, x3⟩, y0, y1, y2, y3⟩ := T3.cx; obtain ⟨⟨u0, u1, u2, u3⟩, v0, v1, v2, v3⟩ := T4.out.cz; clear T3 SM3; have CB := at_byte (H.out.later T4.out.d) p4 h4b; rw [HY.out] at CB; have T5 := hide (T4.out.del false); obtain ⟨⟨x0, x1, x2, x3⟩, y0, y1, y2, y3⟩ := T4.out.cx; obtain ⟨⟨x0, x1, x2, x3⟩, y0, y1, y2, y3⟩ := T5.out.cx; obtain ⟨⟨u0, u1, u2, u3⟩, v0, v1, v2, v3⟩ := T5.out.cz))
          have G1 := putX_heap (y := ⟨[], [], 0, false⟩) T6.out.z ⟨[], [], 0, false⟩
          have L1 := putX_below T6.out.d w.heap.size (Nat.le_refl _) ⟨[], [], 0, false⟩
          refine bodyPost_ret (v := .tuple #[entV ⟨[], [], 0, false⟩, .int .i64 (-1)]) ?_ rfl ⟨⟨[], [], 0, false⟩, -1, rfl, HR.out _, L1⟩
          exact ret_entry (T := w.heap.size) (x := ⟨[], [], 0, false⟩) rfl rfl G1
        by_cases hE6 : Enc.smE (b.drop p5) 4096 = 0
        · have h5n := sm_room hE6
          have hN5' : p6 ≤ n := by have := HP6.out; have := HN.out; omega
          have hp6i : (p5 : Int) + (N5 : Int) = (p6 : Int) := by have := HP6.out; omega
          have wp6 : IntKind.i64.wrap (p6 : Int) = (p6 : Int) := by rw [IntKind.wrap_i64]; omega
          have w5a : IntKind.i64.wrap ((n : Int) - (p5 : Int)) = (n : Int) - (p5 : Int) := by rw [IntKind.wrap_i64]; omega
          have w5b : IntKind.i64.wrap ((n : Int) - (p5 : Int) - (N5 : Int)) = (n : Int) - (p5 : Int) - (N5 : Int) := by rw [IntKind.wrap_i64]; omega
          by_cases hV6 : V ≤ n - p6
          · have hVl : V ≤ (b.drop p6).length := by rw [List.length_drop, ← HN.out]; exact hV6
            obtain ⟨p7, hp7⟩ : ∃ p7, p7 = p6 + V := ⟨_, rfl⟩
            have HR : Hid (entR a b lo ⟨K, (b.drop p6).take V, Q, false⟩ (p7 : Int)) := by
              have := YES0.out hE h4b hy0 hE6 hVl
              rwa [← hp7] at this
            have hp7i : (p6 : Int) + (V : Int) = (p7 : Int) := by omega
            have wp7 : IntKind.i64.wrap (p7 : Int) = (p7 : Int) := by rw [IntKind.wrap_i64]; omega
            have g8 : ¬ (n : Int) - (p5 : Int) - (N5 : Int) < (V : Int) := by omega
            have k22 : (p6 : Int) ≤ (p7 : Int) := by omega
            have k23 : (p7 : Int) ≤ (c : Int) := by omega
            have k24 : (p6 : Int) ≤ (c : Int) := by omega
            have tV : p7 - p6 = V := by omega
            obtain ⟨vv, hvv⟩ : ∃ vv, vv = (b.drop p6).take V := ⟨_, rfl⟩
            rw [← hvv] at HR
            by_cases kc6 : c = p6
            · have V0 : V = 0 := by omega
              have CZ : Hid (∀ (wx : World) (k : Nat), (convert 53 9 (.slice (some ⟨bl, off, none⟩) V k)).run Try.prog wx = .ok (str vv) wx) := fun wx k => by rw [hvv]; exact RZ.out p6 kc6 wx V k V0
              clear hp7 hvv V0
              subst kc6
              go_wp2_with (first
                | (go_at_call 78; have t5 := T5.out; refine (SM4.out 0 hE6 _ _ (RR.out _ _ T5.out.d)).mono ?_; rintro e w5 ⟨rfl, b5⟩; have T6 := hide (T5.out.later b5); obtain ⟨⟨x0, x1, x2, x3⟩, y0, y1, y2, y3⟩ := T6.out.cx; obtain ⟨⟨u0, u1, u2, u3⟩, v0, v1, v2, v3⟩ := T6.out.cz; clear SM4 t5; have CV := CZ.out w5 0; have CV2 := CZ.out w5 (c - c); have T7 := hide (T6.out.val vv); obtain ⟨⟨x0, x1, x2, x3⟩, y0, y1, y2, y3⟩ := T6.out.cx; obtain ⟨⟨x0, x1, x2, x3⟩, y0, y1, y2, y3⟩ := T7.out.cx; obtain ⟨⟨u0, u1, u2, u3⟩, v0, v1, v2, v3⟩ := T7.out.cz)
                | (go_at_call 78; refine (SM3.out 0 hE _ _ (RR.out _ _ TW.out.d)).mono ?_; rintro e w3 ⟨rfl, b3⟩; have T3 := TW.out.later b3; have T4 := hide (T3.seq (Q : Int)); obtain ⟨⟨x0, x1, x2, x3⟩, y0, y1, y2, y3⟩ := T3.cx; obtain ⟨⟨u0, u1, u2, u3⟩, v0, v1, v2, v3⟩ := T4.out.cz; clear T3 SM3; have CB := at_byte (H.out.later T4.out.d) p4 h4b; rw [HY.out] at CB; have T5 := hide (T4.out.del false); obtain ⟨⟨x0, x1, x2, x3⟩, y0, y1, y2, y3⟩ := T4.out.cx; obtain ⟨⟨x0, x1, x2, x3⟩, y0, y1, y2, y3⟩ := T5.out.cx; obtain ⟨⟨u0, u1, u2, u3⟩, v0, v1, v2, v3⟩ := T5.out.cz))
              have G1 := putX_heap (y := ⟨[], [], 0, false⟩) T7.out.z ⟨K, vv, Q, false⟩
              have L1 := putX_below T7.out.d w.heap.size (Nat.le_refl _) ⟨K, vv, Q, false⟩
              refine bodyPost_ret (v := .tuple #[entV ⟨K, vv, Q, false⟩, .int .i64 (p7 : Int)]) ?_ rfl ⟨⟨K, vv, Q, false⟩, (p7 : Int), rfl, HR, L1⟩
              exact ret_entry (T := w.heap.size) (x := ⟨K, vv, Q, false⟩) rfl rfl G1
            · have CZ := hide (RP.out p6 V (by omega))
              rw [← hvv] at CZ
              clear hp7 hvv
              go_wp2_with (first
                | (go_at_call 78; have t5 := T5.out; refine (SM4.out 0 hE6 _ _ (RR.out _ _ T5.out.d)).mono ?_; rintro e w5 ⟨rfl, b5⟩; have T6 := hide (T5.out.later b5); obtain ⟨⟨x0, x1, x2, x3⟩, y0, y1, y2, y3⟩ := T6.out.cx; obtain ⟨⟨u0, u1, u2, u3⟩, v0, v1, v2, v3⟩ := T6.out.cz; clear SM4 t5; have CV := CZ.out w5 (c - p6) T6.out.d; have T7 := hide (T6.out.val vv); obtain ⟨⟨x0, x1, x2, x3⟩, y0, y1, y2, y3⟩ := T6.out.cx; obtain ⟨⟨x0, x1, x2, x3⟩, y0, y1, y2, y3⟩ := T7.out.cx; obtain ⟨⟨u0, u1, u2, u3⟩, v0, v1, v2, v3⟩ := T7.out.cz)
                | (go_at_call 78; refine (SM3.out 0 hE _ _ (RR.out _ _ TW.out.d)).mono ?_; rintro e w3 ⟨rfl, b3⟩; have T3 := TW.out.later b3; have T4 := hide (T3.seq (Q : Int)); obtain ⟨⟨x0, x1, x2, x3⟩, y0, y1, y2, y3⟩ := T3.cx; obtain ⟨⟨u0, u1, u2, u3⟩, v0, v1, v2, v3⟩ := T4.out.cz; clear T3 SM3; have CB := at_byte (H.out.later T4.out.d) p4 h4b; rw [HY.out] at CB; have T5 := hide (T4.out.del false); obtain ⟨⟨x0, x1, x2, x3⟩, y0, y1, y2, y3⟩ := T4.out.cx; obtain ⟨⟨x0, x1, x2, x3⟩, y0, y1, y2, y3⟩ := T5.out.cx; obtain ⟨⟨u0, u1, u2, u3⟩, v0, v1, v2, v3⟩ := T5.out.cz))
              have G1 := putX_heap (y := ⟨[], [], 0, false⟩) T7.out.z ⟨K, vv, Q, false⟩
              have L1 := putX_below T7.out.d w.heap.size (Nat.le_refl _) ⟨K, vv, Q, false⟩
              refine bodyPost_ret (v := .tuple #[entV ⟨K, vv, Q, false⟩, .int .i64 (p7 : Int)]) ?_ rfl ⟨⟨K, vv, Q, false⟩, (p7 : Int), rfl, HR, L1⟩
              exact ret_entry (T := w.heap.size) (x := ⟨K, vv, Q, false⟩) rfl rfl G1
          · have HR := hide (NO5.out h4b hy0 (fun hx => hV6 (by have := hx.2; rwa [List.length_drop, ← HN.out] at this)))
            have g8 : (n : Int) - (p5 : Int) - (N5 : Int) < (V : Int) := by omega
            go_wp2_with (first
              | (go_at_call 78; have t5 := T5.out; refine (SM4.out 0 hE6 _ _ (RR.out _ _ T5.out.d)).mono ?_; rintro e w5 ⟨rfl, b5⟩; have T6 := hide (T5.out.later b5); obtain ⟨⟨x0, x1, x2, x3⟩, y0, y1, y2, y3⟩ := T6.out.cx; obtain ⟨⟨u0, u1, u2, u3⟩, v0, v1, v2, v3⟩ := T6.out.cz; clear SM4 t5)
              | (go_at_call 78; refine (SM3.out 0 hE _ _ (RR.out _ _ TW.out.d)).mono ?_; rintro e w3 ⟨rfl, b3⟩; have T3 := TW.out.later b3; have T4 := hide (T3.seq (Q : Int)); obtain ⟨⟨x0, x1, x2, x3⟩, y0, y1, y2, y3⟩ := T3.cx; obtain ⟨⟨u0, u1, u2, u3⟩, v0, v1, v2, v3⟩ := T4.out.cz; clear T3 SM3; have CB := at_byte (H.out.later T4.out.d) p4 h4b; rw [HY.out] at CB; have T5 := hide (T4.out.del false); obtain ⟨⟨x0, x1, x2, x3⟩, y0, y1, y2, y3⟩ := T4.out.cx; obtain ⟨⟨x0, x1, x2, x3⟩, y0, y1, y2, y3⟩ := T5.out.cx; obtain ⟨⟨u0, u1, u2, u3⟩, v0, v1, v2, v3⟩ := T5.out.cz))
            have G1 := putX_heap (y := ⟨[], [], 0, false⟩) T6.out.z ⟨[], [], 0, false⟩
            have L1 := putX_below T6.out.d w.heap.size (Nat.le_refl _) ⟨[], [], 0, false⟩
            refine bodyPost_ret (v := .tuple #[entV ⟨[], [], 0, false⟩, .int .i64 (-1)]) ?_ rfl ⟨⟨[], [], 0, false⟩, -1, rfl, HR.out _, L1⟩
            exact ret_entry (T := w.heap.size) (x := ⟨[], [], 0, false⟩) rfl rfl G1
        · have hE5 := ((sm_err (b.drop p5) 4096).resolve_left hE6).1
          have HR := hide (NO5.out h4b hy0 (fun hx => hE6 hx.1))
          go_wp2_with (first
            | (go_at_call 78; have t5 := T5.out; refine (SM4.out 5 hE5 _ _ (RR.out _ _ T5.out.d)).mono ?_; rintro e w5 ⟨rfl, b5⟩; have T6 := hide (T5.out.later b5); obtain ⟨⟨x0, x1, x2, x3⟩, y0, y1, y2, y3⟩ := T6.out.cx; obtain ⟨⟨u0, u1, u2, u3⟩, v0, v1, v2, v3⟩ := T6.out.cz; clear SM4 t5)
            | (go_at_call 78; refine (SM3.out 0 hE _ _ (RR.out _ _ TW.out.d)).mono ?_; rintro e w3 ⟨rfl, b3⟩; have T3 := TW.out.later b3; have T4 := hide (T3.seq (Q : Int)); obtain ⟨⟨x0, x1, x2, x3⟩, y0, y1, y2, y3⟩ := T3.cx; obtain ⟨⟨u0, u1, u2, u3⟩, v0, v1, v2, v3⟩ := T4.out.cz; clear T3 SM3; have CB := at_byte (H.out.later T4.out.d) p4 h4b; rw [HY.out] at CB; have T5 := hide (T4.out.del false); obtain ⟨⟨x0, x1, x2, x3⟩, y0, y1, y2, y3⟩ := T4.out.cx; obtain ⟨⟨x0, x1, x2, x3⟩, y0, y1, y2, y3⟩ := T5.out.cx; obtain ⟨⟨u0, u1, u2, u3⟩, v0, v1, v2, v3⟩ := T5.out.cz))
          have G1 := putX_heap (y := ⟨[], [], 0, false⟩) T6.out.z ⟨[], [], 0, false⟩
          have L1 := putX_below T6.out.d w.heap.size (Nat.le_refl _) ⟨[], [], 0, false⟩
          refine bodyPost_ret (v := .tuple #[entV ⟨[], [], 0, false⟩, .int .i64 (-1)]) ?_ rfl ⟨⟨[], [], 0, false⟩, -1, rfl, HR.out _, L1⟩
          exact ret_entry (T := w.heap.size) (x := ⟨[], [], 0, false⟩) rfl rfl G1
      · have HR := hide (NO4.out (fun hp => by have := HN.out; omega))
        have g4 : (n : Int) ≤ (p4 : Int) := by omega
        go_wp2_with (first
          | (go_at_call 78; refine (SM3.out 0 hE _ _ (RR.out _ _ TW.out.d)).mono ?_; rintro e w3 ⟨rfl, b3⟩; have T3 := TW.out.later b3; have T4 := hide (T3.seq (Q : Int)); obtain ⟨⟨x0, x1, x2, x3⟩, y0, y1, y2, y3⟩ := T3.cx; obtain ⟨⟨u0, u1, u2, u3⟩, v0, v1, v2, v3⟩ := T4.out.cz; clear T3 SM3))
        have G1 := putX_heap (y := ⟨[], [], 0, false⟩) T4.out.z ⟨[], [], 0, false⟩
        have L1 := putX_below T4.out.d w.heap.size (Nat.le_refl _) ⟨[], [], 0, false⟩
        refine bodyPost_ret (v := .tuple #[entV ⟨[], [], 0, false⟩, .int .i64 (-1)]) ?_ rfl ⟨⟨[], [], 0, false⟩, -1, rfl, HR.out _, L1⟩
        exact ret_entry (T := w.heap.size) (x := ⟨[], [], 0, false⟩) rfl rfl G1
    · have hE5 := ((sm_err (b.drop p3) 1073741824).resolve_left hE).1
      have HR := hide (NO3.out hE)
      go_wp2_with (first
        | (go_at_call 78; refine (SM3.out 5 hE5 _ _ (RR.out _ _ TW.out.d)).mono ?_; rintro e w3 ⟨rfl, b3⟩; have T3 := TW.out.later b3; have T4 := hide (T3.seq (Q : Int)); obtain ⟨⟨x0, x1, x2, x3⟩, y0, y1, y2, y3⟩ := T3.cx; obtain ⟨⟨u0, u1, u2, u3⟩, v0, v1, v2, v3⟩ := T4.out.cz; clear T3 SM3))
      have G1 := putX_heap (y := ⟨[], [], 0, false⟩) T4.out.z ⟨[], [], 0, false⟩
      have L1 := putX_below T4.out.d w.heap.size (Nat.le_refl _) ⟨[], [], 0, false⟩
      refine bodyPost_ret (v := .tuple #[entV ⟨[], [], 0, false⟩, .int .i64 (-1)]) ?_ rfl ⟨⟨[], [], 0, false⟩, -1, rfl, HR.out _, L1⟩
      exact ret_entry (T := w.heap.size) (x := ⟨[], [], 0, false⟩) rfl rfl G1
end Go.Proofs.Ytanhmebjfockjaa
