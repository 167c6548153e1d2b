/-
  Proved: the call EncNames() returns true: the layer's numbers are as told, and the chapter's examples hold.
  Conditions: none; the statement has no input.
-/
import Derived.Test.YtbcbdaaaglkjhaaRows
import Derived.Test.YtbcbdaaaglkjhaaLives
import Derived.Test.YtbcbdaaaglkjhaaBack
import Derived.ProofKit
import Derived.OpenShut
import Derived.ChangeOld
namespace Go.Proofs.Ytbcbdaaaglkjhaa.encNames
open Go.ChangeShapes Go.WideShapes Go.ChangeAt Go.RowKit
open Go.Proofs.Ytbcbdaaaglkjhaa

theorem own : ownKnob Try.prog.godebug = none := by kernel_rfl

/-- A text made of bytes that are written out. -/
theorem lit_str (l : List UInt8) (cs : Array Value) (hcs : cs.toList = bc l) (n : Nat) (hn : n = l.length) (W : World) (B : Nat) (hB : B = W.heap.size) :
    (convert 22 9 (.slice (some ⟨B, 0, none⟩) n n)).run Try.prog (W.alloc (.cells cs 5)) = .ok (.string ⟨l.toArray⟩) (W.alloc (.cells cs 5)) := by
  subst hn; subst hB
  refine run_convert_bytes_back _ 22 9 5 ⟨W.heap.size, 0, none⟩ l.length l Try.underlying22 Try.underlying5 Try.underlying9 ?_
  intro j hj
  have h := World.news_of_block (heap_alloc_new W (.cells cs 5)) j (.int .u8 ((l[j]).toNat : Int)) (by rw [hcs, bc_get l j hj])
  exact h

/-- Texts that no tuple has. -/
theorem no_vals (l : List UInt8) (h : vals l = none) (hl : l.length ≤ 1000) (wx : World) : Calls Try.prog 9 #[.string ⟨l.toArray⟩] wx fun e w' => ∃ a cap, e = .returned (.tuple #[.slice a 0 cap, .int .i64 5]) ∧ Below wx.heap.size wx w' := by
  have := encValues_any wx ⟨l.toArray⟩ (by show l.toArray.size ≤ _; rw [List.size_toArray]; omega)
  refine this.mono ?_
  rintro e w' ⟨v, rfl, hv, hb⟩
  have d : (⟨l.toArray⟩ : ByteArray).data.toList = l := by simp
  rw [d] at hv
  have e1 : valsL l = [] := by unfold valsL; rw [h]; rfl
  have e2 : valsE l = 5 := by unfold valsE; rw [h]; rfl
  rw [e1] at hv
  obtain ⟨⟨a, cap, rfl, _⟩, _⟩ := hv
  rw [d, e2]
  exact ⟨a, cap, rfl, hb⟩

theorem keep1 {W w1 : World} (hb : Below W.heap.size W w1) {p : Addr} {v : Value} (h : W.cell? p = some v) : w1.cell? p = some v := (hb.cell (World.block_lt_of_cell? W p h)).trans h

/-- Values that are written out. -/
theorem vals_lit (W : World) (B : Nat) (hB : B = W.heap.size) (cs : Array Value) (vs : List Val) (hcs : cs.toList = vc vs) (hwf : ∀ v ∈ vs, v.wf) (n : Nat) (hn : n = vs.length) (hl : vs.length ≤ 100) (cap : Nat) :
    ValsIn (W.alloc (.cells cs 32)) (.slice (some ⟨B, 0, none⟩) n cap) vs := by
  subst hB; subst hn
  refine ⟨⟨_, cap, rfl, fun _ => ⟨_, _, rfl, ?_⟩⟩, hwf, by omega⟩
  intro j hj
  have h : ∀ i, (W.alloc (.cells cs 32)).cell? ⟨W.heap.size, i, none⟩ = cs[i]? := fun i => World.cell?_alloc_mark W cs _ _ i
  have g : ∀ i, cs[i]? = (vc vs)[i]? := fun i => by rw [← hcs, Array.getElem?_toList]
  simp only [h, g, Nat.zero_add]
  exact vc_get vs j hj

theorem below1 {w w1 : World} {o1 : Obj} (hb : Below (w.alloc o1).heap.size (w.alloc o1) w1) : Below w.heap.size w w1 := by
  refine Below.trans ((Below.refl _ _).alloc ?_ _) (hb.mono ?_)
  all_goals simp

theorem wf_of (k n : Int) (t : ByteArray) (h : ⟨k, n, t⟩ ∈ [(⟨2, 1, ByteArray.empty⟩ : Val), ⟨0, 0, ByteArray.empty⟩, ⟨3, 0, ⟨#[0]⟩⟩, ⟨3, 0, ⟨#[97]⟩⟩, ⟨2, 7, ByteArray.empty⟩]) : (⟨k, n, t⟩ : Val).wf := by
  simp only [List.mem_cons, List.not_mem_nil, or_false] at h
  rcases h with h | h | h | h | h <;> (rw [h]; exact ⟨by decide, by decide, by decide, by decide, by decide⟩)

/-- The text of a text of one byte 0. -/
theorem tuple_zero (W : World) (B : Nat) (hB : B = W.heap.size) : Calls Try.prog 10 #[.slice (some ⟨B, 0, none⟩) 1 1] (W.alloc (.cells #[.int .u8 3, .int .i64 0, .string ⟨#[0]⟩] 32)) fun e w' =>
    e = .returned (.tuple #[.string ⟨[4, 0, 255, 0, 1].toArray⟩, .int .i64 0]) ∧ Below W.heap.size W w' := by
  refine (tuple_any _ _ [⟨3, 0, ⟨#[0]⟩⟩] (vals_lit W B hB _ _ rfl ?_ 1 rfl (by decide) 1)).mono ?_
  · intro v hv
    exact wf_of v.k v.n v.t (by simp only [List.mem_cons, List.not_mem_nil, or_false] at hv ⊢; rw [hv]; simp)
  · rintro e w' ⟨rfl, hb⟩
    refine ⟨?_, below1 hb⟩
    have h1 : tupE [⟨3, 0, ⟨#[0]⟩⟩] = 0 := by decide +kernel
    have h2 : tupB [⟨3, 0, ⟨#[0]⟩⟩] = [4, 0, 255, 0, 1] := by decide +kernel
    unfold tupS
    rw [h1, if_pos rfl, h2]

theorem stamp_one (W : World) : Calls Try.prog 11 #[.agg #[.int .i64 1, .int .i32 0, .int .i32 2]] W fun e w' => e = .returned (.tuple #[.string ⟨[127, 255, 255, 255, 255, 255, 255, 254, 127, 255, 255, 255, 127, 255, 255, 253].toArray⟩, .int .i64 0]) ∧ Below W.heap.size W w' := by
  refine (stamp_any W 1 0 2).mono ?_
  rintro e w' ⟨rfl, hb⟩
  refine ⟨?_, hb⟩
  have h1 : mayS 1 0 2 = true := by decide +kernel
  have h2 : stB 1 0 2 = [127, 255, 255, 255, 255, 255, 255, 254, 127, 255, 255, 255, 127, 255, 255, 253] := by decide +kernel
  unfold stS stE
  rw [h1, if_pos rfl, if_pos rfl, h2]

theorem stamp_bad (W : World) : Calls Try.prog 11 #[.agg #[.int .i64 (-1), .int .i32 0, .int .i32 0]] W fun e w' => e = .returned (.tuple #[.string ByteArray.empty, .int .i64 2]) ∧ Below W.heap.size W w' := by
  refine (stamp_any W (-1) 0 0).mono ?_
  rintro e w' ⟨rfl, hb⟩
  refine ⟨?_, hb⟩
  have h1 : mayS (-1) 0 0 = false := by decide +kernel
  unfold stS stE
  rw [h1]
  rfl

theorem read_bad (W : World) (B : Nat) (hB : B = W.heap.size) : Calls Try.prog 12 #[.slice (some ⟨B, 0, none⟩) 2 2] (W.alloc (.cells #[.int .u8 128, .int .u8 0] 5)) fun e w' =>
    e = .returned (.tuple #[.int .u64 0, .int .i64 0, .int .i64 5]) ∧ w' = W.alloc (.cells #[.int .u8 128, .int .u8 0] 5) := by
  subst hB
  refine (read_any _ _ [128, 0] (BytesIn.block (heap_alloc_new W _) _ (by decide) ?_ 2 2 rfl)).mono ?_
  · intro j hj
    match j, hj with
    | 0, _ => rfl
    | 1, _ => rfl
  · rintro e w' ⟨rfl, rfl⟩
    have : rd [128, 0] = (0, 0, 5) := by decide +kernel
    rw [this]
    exact ⟨rfl, rfl⟩

theorem vals_at {w : World} {B : Nat} {cs : Array Value} {t : TypeId} {fr : Nat × Nat} (hb : w.heap[B]? = some (.cells cs t fr)) (vs : List Val) (hc : ∀ i, i < vs.length * 3 → cs[i]? = (vc vs)[i]?) (hwf : ∀ v ∈ vs, v.wf) (n : Nat) (hn : n = vs.length) (hl : vs.length ≤ 100) (cap : Nat) :
    ValsIn w (.slice (some ⟨B, 0, none⟩) n cap) vs := by
  subst hn
  refine ⟨⟨_, cap, rfl, fun _ => ⟨B, 0, rfl, fun j hj => ?_⟩⟩, hwf, by omega⟩
  obtain ⟨g1, g2, g3⟩ := vc_get vs j hj
  rw [cell_of_row w B _ cs t fr hb, cell_of_row w B _ cs t fr hb, cell_of_row w B _ cs t fr hb, Nat.zero_add, hc _ (by omega), hc _ (by omega), hc _ (by omega)]
  exact ⟨g1, g2, g3⟩

/-- A tuple, and the same with one value more. -/
theorem compare_longer (W : World) (o : Obj) (z : Array Value) (cap B B2 : Nat) (hB : B = W.heap.size) (hB2 : B2 = W.heap.size + 1 + 1) :
    Calls Try.prog 13 #[.slice (some ⟨B, 0, none⟩) 1 1, .slice (some ⟨B2, 0, none⟩) 2 cap]
      ((((W.alloc (.cells #[.int .u8 2, .int .i64 1, .string ⟨#[]⟩] 32)).alloc o).alloc (.cells (#[.int .u8 2, .int .i64 1, .string ⟨#[]⟩] ++ (#[.int .u8 0, .int .i64 0, .string ⟨#[]⟩] ++ z)) 32)).drew) fun e w' =>
      e = .returned (.int .i64 (-1)) ∧ Below W.heap.size W w' := by
  subst hB; subst hB2
  refine (compare_any _ _ _ [⟨2, 1, ByteArray.empty⟩] [⟨2, 1, ByteArray.empty⟩, ⟨0, 0, ByteArray.empty⟩] ?_ ?_).mono ?_
  · refine vals_at (cs := #[.int .u8 2, .int .i64 1, .string ⟨#[]⟩]) (t := 32) (fr := (0, 0)) ?_ _ ?_ ?_ 1 rfl (by decide) 1
    · show (((W.alloc _).alloc o).alloc _).heap[W.heap.size]? = _
      rw [Below.heap_alloc _ _ _ (by simp; omega), Below.heap_alloc _ _ _ (by simp)]
      exact heap_alloc_new W _
    · intro i hi
      match i, hi with
      | 0, _ => rfl
      | 1, _ => rfl
      | 2, _ => rfl
    · intro v hv
      exact wf_of v.k v.n v.t (by simp only [List.mem_cons, List.not_mem_nil, or_false] at hv ⊢; rw [hv]; simp)
  · refine vals_at (cs := (#[.int .u8 2, .int .i64 1, .string ⟨#[]⟩] ++ (#[.int .u8 0, .int .i64 0, .string ⟨#[]⟩] ++ z))) (t := 32) (fr := (0, 0)) ?_ _ ?_ ?_ 2 rfl (by decide) cap
    · have := heap_alloc_new ((W.alloc (.cells #[.int .u8 2, .int .i64 1, .string ⟨#[]⟩] 32)).alloc o) (.cells (#[.int .u8 2, .int .i64 1, .string ⟨#[]⟩] ++ (#[.int .u8 0, .int .i64 0, .string ⟨#[]⟩] ++ z)) 32)
      simp only [World.size_alloc] at this
      exact this
    · intro i hi
      have e : ∀ i, (#[Value.int .u8 2, .int .i64 1, .string ⟨#[]⟩] ++ (#[.int .u8 0, .int .i64 0, .string ⟨#[]⟩] ++ z))[i]? = ([Value.int .u8 2, .int .i64 1, .string ⟨#[]⟩] ++ ([.int .u8 0, .int .i64 0, .string ⟨#[]⟩] ++ z.toList))[i]? := fun i => by
        rw [← Array.getElem?_toList, Array.toList_append, Array.toList_append]
      rw [e]
      match i, hi with
      | 0, _ => rfl
      | 1, _ => rfl
      | 2, _ => rfl
      | 3, _ => rfl
      | 4, _ => rfl
      | 5, _ => rfl
    · intro v hv
      refine wf_of v.k v.n v.t ?_
      simp only [List.mem_cons, List.not_mem_nil, or_false] at hv ⊢
      rcases hv with rfl | rfl <;> simp
  · rintro e w' ⟨rfl, hb⟩
    have h : cmpL [⟨2, 1, ByteArray.empty⟩] [⟨2, 1, ByteArray.empty⟩, ⟨0, 0, ByteArray.empty⟩] = -1 := by decide +kernel
    rw [h]
    refine ⟨rfl, Below.trans ((((Below.refl _ _).alloc ?_ _).alloc ?_ _).alloc ?_ _).drew (hb.mono ?_)⟩
    all_goals simp
    all_goals omega

theorem compare_kinds (W : World) (B B2 : Nat) (hB : B = W.heap.size) (hB2 : B2 = W.heap.size + 1) :
    Calls Try.prog 13 #[.slice (some ⟨B, 0, none⟩) 1 1, .slice (some ⟨B2, 0, none⟩) 1 1]
      ((W.alloc (.cells #[.int .u8 3, .int .i64 0, .string ⟨#[97]⟩] 32)).alloc (.cells #[.int .u8 2, .int .i64 7, .string ⟨#[]⟩] 32)) fun e w' =>
      e = .returned (.int .i64 1) ∧ Below W.heap.size W w' := by
  refine (compare_any _ _ _ [⟨3, 0, ⟨#[97]⟩⟩] [⟨2, 7, ByteArray.empty⟩] ?_ ?_).mono ?_
  · refine (vals_lit W B hB #[.int .u8 3, .int .i64 0, .string ⟨#[97]⟩] _ rfl ?_ 1 rfl (by decide) 1).later ((Below.refl _ _).alloc (Nat.le_refl _) _)
    intro v hv
    exact wf_of v.k v.n v.t (by simp only [List.mem_cons, List.not_mem_nil, or_false] at hv ⊢; rw [hv]; simp)
  · refine (vals_lit _ B2 (by simpa using hB2) #[.int .u8 2, .int .i64 7, .string ⟨#[]⟩] _ rfl ?_ 1 rfl (by decide) 1)
    intro v hv
    exact wf_of v.k v.n v.t (by simp only [List.mem_cons, List.not_mem_nil, or_false] at hv ⊢; rw [hv]; simp)
  · rintro e w' ⟨rfl, hb⟩
    have h : cmpL [⟨3, 0, ⟨#[97]⟩⟩] [⟨2, 7, ByteArray.empty⟩] = 1 := by decide +kernel
    rw [h]
    refine ⟨rfl, Below.trans (((Below.refl _ _).alloc ?_ _).alloc ?_ _) (hb.mono ?_)⟩
    all_goals simp
    all_goals omega

theorem after_lit (s r : List UInt8) (h : aft s = r) (hl : s.length ≤ 100) (W : World) : Calls Try.prog 14 #[.string ⟨s.toArray⟩] W fun e w' => e = .returned (.string ⟨r.toArray⟩) ∧ Below W.heap.size W w' := by
  refine (after_any W ⟨s.toArray⟩ (by show s.toArray.size ≤ _; rw [List.size_toArray]; omega)).mono ?_
  rintro e w' ⟨rfl, hb⟩
  rw [show (⟨s.toArray⟩ : ByteArray).data.toList = s by simp, h]
  exact ⟨rfl, hb⟩

theorem in_lit (k f t : ByteArray) (r : Bool) (h : inB k.toList f.toList t.toList = r) (W : World) :
    Calls Try.prog 15 #[.string k, .agg #[.string f, .string t]] W fun e w' => e = .returned (.bool r) ∧ w' = W.alloc (.cells #[.string f, .string t] 43) := by
  subst h
  exact in_any W k f t

/-- A text's bytes and a list that is written out, the same. -/
theorem same_lit (W : World) (S : ByteArray) (l : List UInt8) (hS : S.data.toList = l) (hl : l.length ≤ 100) (cs : Array Value) (hcs : cs.toList = bc l) (n c c2 cap B B2 : Nat) (t t2 : TypeId) (fr : Nat × Nat) (hn : n = l.length) (hB : B = W.heap.size) (hB2 : B2 = W.heap.size + 1) :
    Calls Try.prog 16 #[.slice (some ⟨B, 0, none⟩) S.size c, .slice (some ⟨B2, 0, none⟩) n c2] (((W.alloc (.cells (bytesRow S cap) t fr)).alloc (.cells cs t2)).drew) fun e w' =>
      e = .returned (.bool true) ∧ Below W.heap.size W w' := by
  have hz : S.size ≤ 100 := by rw [← ba_length, hS]; exact hl
  refine (same_any _ _ _ S.data.toList l (conv_left W S cap c t fr _ B hB (by omega)) (conv_right W _ l n c2 t2 cs hcs hn (by omega) B2 hB2)).mono ?_
  rintro e w' ⟨rfl, hb⟩
  refine ⟨by rw [hS, decide_eq_true rfl], Below.trans (((Below.refl _ _).alloc ?_ _).alloc ?_ _).drew (hb.mono ?_)⟩
  all_goals simp
  all_goals omega

theorem below3 {w w1 : World} {o1 o2 o3 : Obj} (hb : Below (((w.alloc o1).alloc o2).alloc o3).heap.size (((w.alloc o1).alloc o2).alloc o3) w1) : Below w.heap.size w w1 := by
  refine Below.trans ((((Below.refl _ _).alloc ?_ _).alloc ?_ _).alloc ?_ _) (hb.mono ?_)
  all_goals simp
  all_goals omega

theorem below4 {w w1 : World} {o1 o2 o3 o4 : Obj} (hb : Below ((((w.alloc o1).alloc o2).alloc o3).alloc o4).heap.size ((((w.alloc o1).alloc o2).alloc o3).alloc o4) w1) : Below w.heap.size w w1 := by
  refine Below.trans (((((Below.refl _ _).alloc ?_ _).alloc ?_ _).alloc ?_ _).alloc ?_ _) (hb.mono ?_)
  all_goals simp
  all_goals omega

set_option maxHeartbeats 2000000 in
theorem walk (w : World) : Calls Try.prog 3 #[] w fun e w' => e = .returned (.bool true) ∧ Below w.heap.size w w' := by
  obtain ⟨X1, hX1⟩ : ∃ X : ByteArray, X = ⟨[4, 97, 0].toArray⟩ := ⟨_, rfl⟩
  obtain ⟨X2, hX2⟩ : ∃ X : ByteArray, X = ⟨[2, 2].toArray⟩ := ⟨_, rfl⟩
  obtain ⟨X3, hX3⟩ : ∃ X : ByteArray, X = ⟨[5].toArray⟩ := ⟨_, rfl⟩
  have k1 := lit_str [4, 97, 0] #[.int .u8 4, .int .u8 97, .int .u8 0] rfl 3 rfl
  have k2 := lit_str [2, 2] #[.int .u8 2, .int .u8 2] rfl 2 rfl
  have k3 := lit_str [5] #[.int .u8 5] rfl 1 rfl
  rw [← hX1] at k1
  rw [← hX2] at k2
  rw [← hX3] at k3
  have V1 : Hid (∀ wx : World, Calls Try.prog 9 #[.string X1] wx fun e w' => ∃ a cap, e = .returned (.tuple #[.slice a 0 cap, .int .i64 5]) ∧ Below wx.heap.size wx w') := by rw [hX1]; exact no_vals _ (by decide +kernel) (by decide)
  have V2 : Hid (∀ wx : World, Calls Try.prog 9 #[.string X2] wx fun e w' => ∃ a cap, e = .returned (.tuple #[.slice a 0 cap, .int .i64 5]) ∧ Below wx.heap.size wx w') := by rw [hX2]; exact no_vals _ (by decide +kernel) (by decide)
  have V3 : Hid (∀ wx : World, Calls Try.prog 9 #[.string X3] wx fun e w' => ∃ a cap, e = .returned (.tuple #[.slice a 0 cap, .int .i64 5]) ∧ Below wx.heap.size wx w') := by rw [hX3]; exact no_vals _ (by decide +kernel) (by decide)
  clear hX1 hX2 hX3
  obtain ⟨Z, hZ⟩ : ∃ X : ByteArray, X = ⟨[0].toArray⟩ := ⟨_, rfl⟩
  have kZ := lit_str [0] #[.int .u8 0] rfl 1 rfl
  rw [← hZ] at kZ
  obtain ⟨SZ, hSZ⟩ : ∃ X : ByteArray, X = ⟨[4, 0, 255, 0, 1].toArray⟩ := ⟨_, rfl⟩
  have TZ : Hid (∀ (W : World) (B : Nat), B = W.heap.size → Calls Try.prog 10 #[.slice (some ⟨B, 0, none⟩) 1 1] (W.alloc (.cells #[.int .u8 3, .int .i64 0, .string Z] 32)) fun e w' =>
    e = .returned (.tuple #[.string SZ, .int .i64 0]) ∧ Below W.heap.size W w') := by rw [hZ, hSZ]; exact tuple_zero
  obtain ⟨ST, hST⟩ : ∃ X : ByteArray, X = ⟨[127, 255, 255, 255, 255, 255, 255, 254, 127, 255, 255, 255, 127, 255, 255, 253].toArray⟩ := ⟨_, rfl⟩
  have S1 : Hid (∀ (W : World), Calls Try.prog 11 #[.agg #[.int .i64 1, .int .i32 0, .int .i32 2]] W fun e w' => e = .returned (.tuple #[.string ST, .int .i64 0]) ∧ Below W.heap.size W w') := by rw [hST]; exact stamp_one
  have HSZ : Hid (SZ.data.toList = [4, 0, 255, 0, 1]) := by show _ = _; rw [hSZ]
  have HST : Hid (ST.data.toList = [127, 255, 255, 255, 255, 255, 255, 254, 127, 255, 255, 255, 127, 255, 255, 253]) := by show _ = _; rw [hST]
  clear hZ hSZ hST
  have kbT := fun (w : World) => run_bytes_of_string (P := Try.prog) w 9 22 5 ST Try.underlying9 Try.underlying22 Try.underlying5
  have kbZ := fun (w : World) => run_bytes_of_string (P := Try.prog) w 9 22 5 SZ Try.underlying9 Try.underlying22 Try.underlying5
  obtain ⟨D, hD⟩ : ∃ X : ByteArray, X = ⟨[97, 255].toArray⟩ := ⟨_, rfl⟩
  obtain ⟨E, hE⟩ : ∃ X : ByteArray, X = ⟨[255].toArray⟩ := ⟨_, rfl⟩
  have kD := lit_str [97, 255] #[.int .u8 97, .int .u8 255] rfl 2 rfl
  have kE := lit_str [255] #[.int .u8 255] rfl 1 rfl
  rw [← hD] at kD
  rw [← hE] at kE
  have A1 : Hid (∀ (W : World), Calls Try.prog 14 #[.string ⟨#[97]⟩] W fun e w' => e = .returned (.string ⟨#[98]⟩) ∧ Below W.heap.size W w') := after_lit [97] [98] (by decide +kernel) (by decide)
  have A2 : Hid (∀ (W : World), Calls Try.prog 14 #[.string D] W fun e w' => e = .returned (.string ⟨#[98]⟩) ∧ Below W.heap.size W w') := by rw [hD]; exact after_lit [97, 255] [98] (by decide +kernel) (by decide)
  have A3 : Hid (∀ (W : World), Calls Try.prog 14 #[.string E] W fun e w' => e = .returned (.string ⟨#[]⟩) ∧ Below W.heap.size W w') := by rw [hE]; exact after_lit [255] [] (by decide +kernel) (by decide)
  have A4 : Hid (∀ (W : World), Calls Try.prog 14 #[.string ⟨#[]⟩] W fun e w' => e = .returned (.string ⟨#[]⟩) ∧ Below W.heap.size W w') := after_lit [] [] (by decide +kernel) (by decide)
  clear hD hE
  have I1 : Hid (∀ (W : World), Calls Try.prog 15 #[.string ⟨#[98]⟩, .agg #[.string ⟨#[97]⟩, .string ⟨#[99]⟩]] W fun e w' => e = .returned (.bool true) ∧ w' = W.alloc (.cells #[.string ⟨#[97]⟩, .string ⟨#[99]⟩] 43)) := in_lit _ _ _ true (by decide +kernel)
  have I2 : Hid (∀ (W : World), Calls Try.prog 15 #[.string ⟨#[99]⟩, .agg #[.string ⟨#[97]⟩, .string ⟨#[99]⟩]] W fun e w' => e = .returned (.bool false) ∧ w' = W.alloc (.cells #[.string ⟨#[97]⟩, .string ⟨#[99]⟩] 43)) := in_lit _ _ _ false (by decide +kernel)
  have I3 : Hid (∀ (W : World), Calls Try.prog 15 #[.string ⟨#[99]⟩, .agg #[.string ⟨#[97]⟩, .string ⟨#[]⟩]] W fun e w' => e = .returned (.bool true) ∧ w' = W.alloc (.cells #[.string ⟨#[97]⟩, .string ⟨#[]⟩] 43)) := in_lit _ _ _ true (by decide +kernel)
  go_enter Try.func3, Try.ntmps3
  go_wp2
  refine wp_loop_rounds 4 ?_
  rw [rounds_succ]
  go_wp2_with (go_at_call 9; refine (V1.out _).mono ?_; rintro e w1 ⟨a1, cap1, rfl, hb1⟩; have q1 : w1.cell? ⟨w.heap.size + 1 + 1 + 1, 1, none⟩ = some (.string X2) := keep1 hb1 (by simp [go_sem]); have q2 : w1.cell? ⟨w.heap.size + 1 + 1 + 1, 2, none⟩ = some (.string X3) := keep1 hb1 (by simp [go_sem]); have b1 : Below w.heap.size w w1 := below4 hb1; clear V1 hb1)
  rw [rounds_succ]
  go_wp2_with (go_at_call 9; refine (V2.out _).mono ?_; rintro e w2 ⟨a2, cap2, rfl, hb2⟩; have q3 : w2.cell? ⟨w.heap.size + 1 + 1 + 1, 2, none⟩ = some (.string X3) := keep1 hb2 q2; have b2 := b1.trans (hb2.mono b1.size); clear V2 hb2 q1 q2 b1)
  rw [rounds_succ]
  go_wp2_with (go_at_call 9; refine (V3.out _).mono ?_; rintro e w3 ⟨a3, cap3, rfl, hb3⟩; have b3 := b2.trans (hb3.mono b2.size); clear V3 hb3 q3 b2)
  rw [rounds_succ]
  go_wp2_with (first
    | (go_at_call 10; refine (TZ.out _ _ (by simp)).mono ?_; rintro e w4 ⟨rfl, hb4⟩; have b4 : Below w.heap.size w w4 := b3.trans ((below1 hb4).mono b3.size); clear TZ hb4 b3)
    | (go_at_call 11; refine (S1.out _).mono ?_; rintro e w5 ⟨rfl, hb5⟩; have b5 : Below w.heap.size w w5 := b4.trans (hb5.mono b4.size); clear S1 hb5 b4)
    | (go_at_call 11; refine (stamp_bad _).mono ?_; rintro e w6 ⟨rfl, hb6⟩; have b6 : Below w.heap.size w w6 := b5.trans (hb6.mono b5.size); clear hb6 b5)
    | (go_at_call 12; refine (read_bad _ _ (by simp)).mono ?_; rintro e w' ⟨rfl, rfl⟩)
    | (go_at_call 13; have := b6; refine (compare_longer _ _ _ _ _ _ (by simp) (by simp)).mono ?_; rintro e w7 ⟨rfl, hb7⟩; have b7 : Below w.heap.size w w7 := b6.trans ((below1 hb7).mono b6.size); clear hb7 b6 this)
    | (go_at_call 13; have := b7; refine (compare_kinds _ _ _ (by simp) (by simp)).mono ?_; rintro e w8 ⟨rfl, hb8⟩; have b8 : Below w.heap.size w w8 := b7.trans (hb8.mono b7.size); clear hb8 b7 this)
    | (go_at_call 14; refine (A1.out _).mono ?_; rintro e w9 ⟨rfl, hb9⟩; have b9 : Below w.heap.size w w9 := b8.trans (hb9.mono b8.size); clear hb9 b8 A1)
    | (go_at_call 14; refine (A2.out _).mono ?_; rintro e w10 ⟨rfl, hb10⟩; have b10 : Below w.heap.size w w10 := b9.trans ((below1 hb10).mono b9.size); clear hb10 b9 A2)
    | (go_at_call 14; refine (A3.out _).mono ?_; rintro e w11 ⟨rfl, hb11⟩; have b11 : Below w.heap.size w w11 := b10.trans ((below1 hb11).mono b10.size); clear hb11 b10 A3)
    | (go_at_call 14; refine (A4.out _).mono ?_; rintro e w12 ⟨rfl, hb12⟩; have b12 : Below w.heap.size w w12 := b11.trans (hb12.mono b11.size); clear hb12 b11 A4)
    | (go_at_call 15; refine (I1.out _).mono ?_; rintro e w' ⟨rfl, rfl⟩; clear I1)
    | (go_at_call 15; refine (I2.out _).mono ?_; rintro e w' ⟨rfl, rfl⟩; clear I2)
    | (go_at_call 15; refine (I3.out _).mono ?_; rintro e w' ⟨rfl, rfl⟩; clear I3)
    | (go_at_call 16; have := b12; refine (same_lit _ ST _ HST.out (by decide) _ rfl _ _ _ _ _ _ _ _ _ rfl (by simp) (by simp)).mono ?_; rintro e w13 ⟨rfl, hb13⟩; have b13 : Below w.heap.size w w13 := b12.trans ((below3 hb13).mono b12.size); clear hb13 b12 this)
    | (go_at_call 17; refine (lives_any _).mono ?_; rintro e w14 ⟨rfl, hb14⟩; have b14 : Below w.heap.size w w14 := b13.trans (hb14.mono b13.size); clear hb14 b13)
    | (go_at_call 16; have := b14; refine (same_lit _ SZ _ HSZ.out (by decide) _ rfl _ _ _ _ _ _ _ _ _ rfl (by simp) (by simp)).mono ?_; rintro e w15 ⟨rfl, hb15⟩; have b15 : Below w.heap.size w w15 := b14.trans (hb15.mono b14.size); clear hb15 b14 this))
  go_ret
  exact ⟨rfl, b15⟩

set_option maxRecDepth 100000 in
theorem lifted (os : Os) (started : os.Started) (H : Type) (enc : TypeId × Value → H) :
    ReturnsInHanded {} Try.checked os 3 .any (Rows.encNamesSpec.pre6 enc Try.prog Try.f3 Rows.encNamesRow.domain false) (Rows.encNamesSpec.post enc Try.prog Try.f3 false true false false) := by
  refine returnsInHanded_of_change (C := Try.checked) own started (by kernel_rfl) Try.func3
    (ChangeSpec.witness6 (enc := enc) (C := Try.checked) false ⟨#[], #[], []⟩ 8 (by kernel_rfl) (by kernel_rfl) (by kernel_rfl) (by kernel_rfl)) ?_
  intro W base args ds gs before hval0 hW hcnd _
  have hW' := hW
  obtain ⟨p, q, hA0, hV, rfl, hfz, hnd⟩ := hW
  have hA : DataW.TrodAll enc Try.prog W 0 (fun _ => true) true Try.f3.params.toList args.toList ds p := hA0
  rw [Try.params3] at hA
  obtain ⟨hargs, rfl, rfl⟩ := trodAll_nil hA
  obtain rfl : args = #[] := by cases args; simp_all
  obtain ⟨rfl, rfl⟩ := trodVars_none hV
  clear hA0 hval0
  simp only [List.append_nil] at hW'
  refine (walk W).mono fun e W' ⟨he, bel⟩ => ?_
  subst he
  exact ⟨_, rfl, _, _, _, [], [], [], hW', trodAll_mk1 (shut_bool Try.underlying4 _), trodAll_mk0, rfl, bel.frame _, fun h => by cases h⟩

theorem over : Rows.encNamesRow.holds Try.pinned (OpenSpec.ofChange Rows.encNamesSpec) :=
  OpenClaim.holds_of_wide 3 Try.f3 rfl rfl rfl rfl rfl rfl rfl ⟨rfl, rfl, rfl, rfl, rfl⟩ rfl rfl rfl rfl rfl (by kernel_rfl) Try.func3 (by kernel_rfl)
    (of_decide_eq_true (by kernel_rfl)) (by unfold Func.isWrapper; first | (rw [if_pos (by decide +kernel)]; kernel_rfl) | (rw [if_neg (by decide +kernel)]; exact ⟨rfl, rfl⟩))
    (fun os started H enc _ => lifted os started H enc)
end Go.Proofs.Ytbcbdaaaglkjhaa.encNames

namespace Go.Proofs.Ytbcbdaaaglkjhaa
/-- THE STATEMENT. -/
theorem encNames_holds : Rows.EncNamesSaid := encNames.over
#print axioms encNames_holds
end Go.Proofs.Ytbcbdaaaglkjhaa
