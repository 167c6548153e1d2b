/-
  Proved: the call CrcNames() returns true: the checksum is the well-known one, and the chapter's examples hold.
  Conditions: none; the statement has no input.
-/
import Derived.Test.YtgfncfpcobkebaaCFrame
import Derived.Test.YtgfncfpcobkebaaCBurst
import Derived.Test.YtgfncfpcobkebaaROpened
namespace Go.Proofs.Ytgfncfpcobkebaa.crcNames
open Go.ChangeShapes Go.WideShapes Go.ChangeAt Go.RowKit
open Go.Proofs.Ytgfncfpcobkebaa

/-- The first j of a list, and zeros in the room of the others. -/
def part (x : List UInt8) (j : Nat) : List UInt8 := x.take j ++ List.replicate (x.length - j) 0
theorem part_length (x : List UInt8) (j : Nat) (h : j ≤ x.length) : (part x j).length = x.length := by
  unfold part
  rw [List.length_append, List.length_take, List.length_replicate]
  omega
theorem part_set (x : List UInt8) (j : Nat) (h : j < x.length) : (part x j).set j x[j] = part x (j + 1) := by
  unfold part
  have e : (x.take j).length = j := by rw [List.length_take]; omega
  rw [List.set_append_right _ _ (by omega), e, Nat.sub_self, show x.length - j = (x.length - (j + 1)) + 1 from by omega, List.replicate_succ, List.set_cons_zero, List.take_succ_eq_append_getElem h, List.append_assoc]
  rfl
theorem part_all (x : List UInt8) : part x x.length = x := by
  unfold part
  rw [List.take_length, Nat.sub_self]
  simp
theorem part_none (x : List UInt8) : part x 0 = List.replicate x.length 0 := by unfold part; simp

/-- What comes of a list of zeros that was just made. -/
theorem made_own (w : World) (n : Nat) (hn : n ≤ 140737488355328) : (w.alloc (.cells (zeros n) 5)).ownsRow w.heap.size 5 1 (.slice (some ⟨w.heap.size, 0, none⟩) n n) n (bc (List.replicate n 0)) ∧ w.grownBy (w.alloc (.cells (zeros n) 5)) none := by
  refine ⟨⟨by rw [bc_length, List.length_replicate]; omega, .inr ⟨w.heap.size, n, _, rfl, Nat.le_refl _, heap_alloc_new w _, Nat.le_refl _, by unfold maxLen; omega, ?_, ?_⟩⟩, World.grownBy_alloc w _ _⟩
  · simp [zeros]
  · rw [bc_zeros]
    simp [zeros]


theorem s_nil : Crc.sum [] = 0 := by decide +kernel
theorem s_zero : Crc.sum (List.replicate 32 0) = 2324772522 := by decide +kernel
theorem s_full : Crc.sum (List.replicate 32 255) = 1655221059 := by decide +kernel
theorem s_all : Crc.more (Crc.sum [49, 50, 51, 52]) [53, 54, 55, 56, 57] = 3808858755 := by decide +kernel
theorem o_four : opnB [0, 0, 0, 0] = true := by decide +kernel
theorem o_none : opnL [0, 0, 0, 0] = [] := by decide +kernel
theorem o_three : opnB [0, 0, 0] = false := by decide +kernel
theorem b_one : burE [0, 0] 7 3 = 0 := by decide +kernel
theorem b_list : burL [0, 0] 7 3 = [128, 1] := by decide +kernel
theorem b_two : burE [0, 0] 9 255 = 2 := by decide +kernel
theorem z_nil : sealB [] = [0, 0, 0, 0] := by decide +kernel

theorem below1 {w w1 : World} {o1 : Obj} (hb : Below (w.alloc o1).heap.size (w.alloc o1) w1) : Below w.heap.size w w1 := by
  refine Below.trans ((Below.refl _ _).alloc ?_ _) (hb.mono ?_)
  all_goals simp

theorem op_four (W : World) (B : Nat) (hB : B = W.heap.size) : Calls Try.prog 9 #[.slice (some ⟨B, 0, none⟩) 4 4] (W.alloc (.cells #[.int .u8 0, .int .u8 0, .int .u8 0, .int .u8 0] 5)) fun e w' => ∃ ad cap, e = .returned (.tuple #[.slice ad 0 cap, .bool true]) ∧ Below W.heap.size W w' := by
  refine (opened_any _ (some ⟨B, 0, none⟩) 4 [0, 0, 0, 0] (const_bytes W _ 4 4 B rfl hB _ rfl _ _ (by decide)) (by decide)).mono ?_
  rintro e w' ⟨v, rfl, hx⟩
  rw [o_four]
  rw [o_none] at hx
  obtain ⟨ad, cap, rfl⟩ := hx.shape
  exact ⟨ad, cap, rfl, below1 (hx.below (Nat.le_refl _) (by simp [Value.ownBlock]))⟩
theorem op_three (W : World) (B : Nat) (hB : B = W.heap.size) : Calls Try.prog 9 #[.slice (some ⟨B, 0, none⟩) 3 3] (W.alloc (.cells #[.int .u8 0, .int .u8 0, .int .u8 0] 5)) fun e w' => ∃ v, e = .returned (.tuple #[v, .bool false]) ∧ Below W.heap.size W w' := by
  refine (opened_any _ (some ⟨B, 0, none⟩) 3 [0, 0, 0] (const_bytes W _ 3 3 B rfl hB _ rfl _ _ (by decide)) (by decide)).mono ?_
  rintro e w' ⟨v, rfl, hx⟩
  rw [o_three]
  exact ⟨v, rfl, below1 (hx.below (Nat.le_refl _) (by simp [Value.ownBlock]))⟩
theorem bu_one (W : World) (B : Nat) (hB : B = W.heap.size) : Calls Try.prog 10 #[.slice (some ⟨B, 0, none⟩) 2 2, .int .i64 7, .int .u32 3] (W.alloc (.cells #[.int .u8 0, .int .u8 0] 5)) fun e w' => ∃ v, e = .returned (.tuple #[v, .int .i64 0]) ∧ Below W.heap.size W w' ∧ BytesIn w' v [128, 1] := by
  refine (burst_any _ (some ⟨B, 0, none⟩) 2 [0, 0] 7 3 (const_bytes W _ 2 2 B rfl hB _ rfl _ _ (by decide)) (by decide) (by decide)).mono ?_
  rintro e w' ⟨v, rfl, hx⟩
  rw [b_one]
  rw [b_list] at hx
  exact ⟨v, rfl, below1 (hx.below (Nat.le_refl _) (by simp [Value.ownBlock])), bytes_of_own hx.own (by decide)⟩
theorem bu_two (W : World) (B : Nat) (hB : B = W.heap.size) : Calls Try.prog 10 #[.slice (some ⟨B, 0, none⟩) 2 2, .int .i64 9, .int .u32 255] (W.alloc (.cells #[.int .u8 0, .int .u8 0] 5)) fun e w' => ∃ v, e = .returned (.tuple #[v, .int .i64 2]) ∧ Below W.heap.size W w' := by
  refine (burst_any _ (some ⟨B, 0, none⟩) 2 [0, 0] 9 255 (const_bytes W _ 2 2 B rfl hB _ rfl _ _ (by decide)) (by decide) (by decide)).mono ?_
  rintro e w' ⟨v, rfl, hx⟩
  rw [b_two]
  exact ⟨v, rfl, below1 (hx.below (Nat.le_refl _) (by simp [Value.ownBlock]))⟩
theorem sum_nil (W : World) : Calls Try.prog 11 #[.slice none 0 0] W fun e w' => e = .returned (.int .u32 0) ∧ w' = W := by
  have := sum_any W (.slice none 0 0) [] ⟨⟨none, 0, rfl, fun h => absurd rfl h⟩, by decide⟩
  rw [s_nil] at this
  exact this
theorem sum_zero (W : World) (B : Nat) (hB : B = W.heap.size) : Calls Try.prog 11 #[.slice (some ⟨B, 0, none⟩) 32 32] (W.alloc (.cells (zeros 32) 5)) fun e w' => e = .returned (.int .u32 2324772522) ∧ w' = W.alloc (.cells (zeros 32) 5) :=
  sum_lit W (List.replicate 32 0) 32 32 B (by simp) hB _ (by rw [bc_zeros]; rfl) _ _ (by simp) _ (by rw [s_zero]; rfl)
theorem seal_nil (W : World) : Calls Try.prog 15 #[.slice none 0 0] W fun e w' => e = .returned (.slice (some ⟨W.heap.size, 0, none⟩) 4 4) ∧ Below W.heap.size W w' ∧ BytesIn w' (.slice (some ⟨W.heap.size, 0, none⟩) 4 4) [0, 0, 0, 0] := by
  refine (sealed_any W none 0 [] ⟨⟨none, 0, rfl, fun h => absurd rfl h⟩, by decide⟩ (by decide)).mono ?_
  rintro e w' ⟨rfl, hx⟩
  rw [z_nil] at hx
  exact ⟨rfl, hx.below (Nat.le_refl _) (by simp [Value.ownBlock]), bytes_of_own hx.own (by decide)⟩

theorem more_lit (W : World) (s : Nat) (hs : s < 4294967296) (l : List UInt8) (n c B : Nat) (hn : n = l.length) (hB : B = W.heap.size) (cs : Array Value) (hcs : cs.toList = bc l) (t : TypeId) (fr : Nat × Nat) (hl : l.length ≤ 1000) (z : Int) (hz : ((Crc.more s l : Nat) : Int) = z) :
    Calls Try.prog 12 #[.int .u32 (s : Int), .slice (some ⟨B, 0, none⟩) n c] (W.alloc (.cells cs t fr)) fun e w' => e = .returned (.int .u32 z) ∧ w' = W.alloc (.cells cs t fr) := by
  subst hz
  exact more_any _ s hs _ l (const_bytes W l n c B hn hB cs hcs t fr (by omega))
theorem below3 {w w1 : World} {o1 o2 o3 : Obj} (hb : Below (((w.alloc o1).alloc o2).alloc o3).heap.size (((w.alloc o1).alloc o2).alloc o3) w1) : Below w.heap.size w w1 := by
  refine Below.trans ((((Below.refl _ _).alloc ?_ _).alloc ?_ _).alloc ?_ _) (hb.mono ?_)
  all_goals simp
  all_goals omega
/-- Bytes that lie there, and the same written out. -/
theorem same_new (W : World) (v : Value) (l : List UInt8) (hv : BytesIn W v l) (cs : Array Value) (hcs : cs.toList = bc l) (n B : Nat) (hn : n = l.length) (hB : B = W.heap.size) (hl : l.length ≤ 1000) :
    Calls Try.prog 14 #[v, .slice (some ⟨B, 0, none⟩) n n] (W.alloc (.cells cs 5)) fun e w' => e = .returned (.bool true) ∧ Below W.heap.size W w' := by
  have := same_any (W.alloc (.cells cs 5)) v (.slice (some ⟨B, 0, none⟩) n n) l l (hv.later ((Below.refl _ _).alloc (Nat.le_refl _) _)) (const_bytes W l n n B hn hB cs hcs _ _ (by omega))
  rw [decide_eq_true rfl] at this
  refine this.mono ?_
  rintro e w' ⟨rfl, hb⟩
  exact ⟨rfl, below1 hb⟩

set_option maxHeartbeats 800000 in
theorem walk (w : World) : Calls Try.prog 3 #[] w fun e w' => e = .returned (.bool true) ∧ Below w.heap.size w w' := by
  have kc := fun (w : World) (C : Array Value) (n c : Nat) => Lib.run_convert_bytes_const (P := Try.prog) w 22 5 C n c Try.underlying22 Try.underlying5
  have kc1 : ∀ (w : World) (o : Obj) (C : Array Value) (n c : Nat), (convert 22 22 (.slice (some ⟨w.heap.size + 1, 0, none⟩) n c)).run Try.prog ((w.alloc o).alloc (.cells C 5)) = .ok (.slice (some ⟨w.heap.size + 1, 0, none⟩) n c) ((w.alloc o).alloc (.cells C 5 (C.size, C.size + 1))) := fun w o C n c => by
    have := kc (w.alloc o) C n c
    rwa [World.size_alloc] at this
  have kc2 : ∀ (w : World) (o o2 : Obj) (C : Array Value) (n c : Nat), (convert 22 22 (.slice (some ⟨w.heap.size + 1 + 1, 0, none⟩) n c)).run Try.prog (((w.alloc o).alloc o2).alloc (.cells C 5)) = .ok (.slice (some ⟨w.heap.size + 1 + 1, 0, none⟩) n c) (((w.alloc o).alloc o2).alloc (.cells C 5 (C.size, C.size + 1))) := fun w o o2 C n c => by
    have := kc ((w.alloc o).alloc o2) C n c
    rwa [World.size_alloc, World.size_alloc] at this
  clear kc
  have MK := make_bytes 32 (by decide) 32 rfl
  obtain ⟨X, hX⟩ : ∃ X : List UInt8, X = List.replicate 32 255 := ⟨_, rfl⟩
  have lX : X.length = 32 := by rw [hX]; simp
  have GX : Hid (∀ j (h : j < X.length), X[j] = 255) := fun j h => by subst hX; rw [List.getElem_replicate]
  have SX : Hid (∀ wx v, BytesIn wx v X → Calls Try.prog 11 #[v] wx fun e w' => e = .returned (.int .u32 1655221059) ∧ w' = wx) := fun wx v hv => by
    have := sum_any wx v X hv
    rw [hX, s_full] at this
    exact this
  have LX : Hid (X.length = 32) := lX
  have MO : Hid ((w.alloc (.cells (zeros 32) 5)).ownsRow w.heap.size 5 1 (.slice (some ⟨w.heap.size, 0, none⟩) 32 32) 32 (bc (part X 0)) ∧ w.grownBy (w.alloc (.cells (zeros 32) 5)) none) := by
    show _ ∧ _
    rw [part_none, lX]
    exact made_own w 32 (by decide)
  obtain ⟨q, hq0⟩ : ∃ q, q = Crc.sum [49, 50, 51, 52] := ⟨_, rfl⟩
  have hq : q < 4294967296 := by rw [hq0]; exact Crc.sum_lt _
  have HQ : Hid (((Crc.sum [49, 50, 51, 52] : Nat) : Int) = (q : Int)) := by show _ = _; rw [hq0]
  have HM : Hid (((Crc.more q [53, 54, 55, 56, 57] : Nat) : Int) = 3808858755) := by show _ = _; rw [hq0, s_all]; rfl
  clear hX lX hq0
  go_enter Try.func3, Try.ntmps3
  go_wp2_with (fail)
  go_loopw [2] (fun i wr => ∃ j : Nat, j ≤ 32 ∧ i = .int .i64 j ∧ wr.ownsRow w.heap.size 5 1 (.slice (some ⟨w.heap.size, 0, none⟩) 32 32) 32 (bc (part X j)) ∧ w.grownBy wr none) (fun i _ => 32 - (intOf i).toNat)
  case atStart => exact ⟨0, Nat.zero_le _, rfl, MO.out.1, MO.out.2⟩
  case round =>
    obtain ⟨j, hj, rfl, ho, hg⟩ := hrel
    clear MO
    by_cases hlt : j < 32
    · have hjX : j < X.length := by rw [LX.out]; exact hlt
      have f0 := ho.frozenAt j
      obtain ⟨u0, e0⟩ : ∃ u, wr.cell? ⟨w.heap.size, j, none⟩ = some u := by
        refine ⟨_, (ho.cellAt j (by omega)).trans (bc_get _ _ ?_)⟩
        rw [part_length _ _ (by omega)]; exact hjX
      have HS : Hid ((wr.setCell ⟨w.heap.size, j, none⟩ (.int .u8 255)).ownsRow w.heap.size 5 1 (.slice (some ⟨w.heap.size, 0, none⟩) 32 32) 32 (bc (part X (j + 1))) ∧ w.grownBy (wr.setCell ⟨w.heap.size, j, none⟩ (.int .u8 255)) none) := by
        show _ ∧ _
        obtain ⟨r1, r2⟩ := ho.stored j (.int .u8 255)
        have e : (Value.int .u8 255) = .int .u8 (((X[j]).toNat : Nat) : Int) := by rw [GX.out j hjX]; rfl
        rw [e, bc_set, part_set X j hjX] at r1
        rw [← e] at r1
        exact ⟨r1, grownBy_trans hg r2 (.inr ⟨_, rfl, Nat.le_refl _⟩)⟩
      clear ho hg GX SX hjX kc1 kc2 MK
      go_wp2_with (fail)
      exact ⟨⟨j + 1, by omega, by go_num, HS.out.1, HS.out.2⟩, by simp [intOf]; omega⟩
    · have ej : j = 32 := by omega
      subst ej
      have HP : Hid (part X 32 = X) := by show _ = _; have := part_all X; rw [LX.out] at this; exact this
      rw [HP.out] at ho
      have VX : Hid (BytesIn wr (.slice (some ⟨w.heap.size, 0, none⟩) 32 32) X) := bytes_of_own (by rw [LX.out]; exact ho) (by rw [LX.out]; decide)
      have BW := below_of hg
      have t1 : Hid True := trivial
      clear ho hg GX LX HP
      go_wp2_with (first
        | (go_at_call 9; have g := t1; refine (op_four wr _ (by simp)).mono ?_; rintro e w1 ⟨a1, c1, rfl, b1⟩; have K1 := b1; clear b1 g t1)
        | (go_at_call 9; have g := K1; refine (op_three w1 _ (by simp)).mono ?_; rintro e w2 ⟨v2, rfl, b2⟩; have K2 := K1.trans (b2.mono K1.size); clear b2 g K1)
        | (go_at_call 10; have g := K2; refine (bu_one w2 _ (by simp)).mono ?_; rintro e w3 ⟨v3, rfl, b3, U3⟩; have K3 := K2.trans (b3.mono K2.size); clear b3 g K2)
        | (go_at_call 10; have g := K3; refine (bu_two w3 _ (by simp)).mono ?_; rintro e w4 ⟨v4, rfl, b4⟩; have K4 := K3.trans (b4.mono K3.size); have U4 := U3.later b4; have s1 : Hid True := trivial; clear b4 g K3 U3)
        | (go_at_call 11; have g := s1; refine (sum_nil _).mono ?_; rintro e w5 ⟨rfl, rfl⟩; have s2 : Hid True := trivial; clear g s1)
        | (go_at_call 11; have g := s2; refine (sum_zero w5 _ (by simp)).mono ?_; rintro e w6 ⟨rfl, rfl⟩; have s3 : Hid True := trivial; clear g s2)
        | (go_at_call 11; have g := s3; refine (SX.out _ _ (VX.out.later (K4.alloc K4.size _))).mono ?_; rintro e w6 ⟨rfl, rfl⟩; have s4 : Hid True := trivial; clear g s3 SX VX)
        | (go_at_call 11; have g := s4; refine (sum_lit (w5.alloc _) [49, 50, 51, 52] 4 4 _ rfl (by simp) _ rfl _ _ (by decide) (q : Int) HQ.out).mono ?_; rintro e w6 ⟨rfl, rfl⟩; have s5 : Hid True := trivial; clear g s4 HQ)
        | (go_at_call 12; have g := s5; refine (more_lit ((w5.alloc _).alloc _) q hq [53, 54, 55, 56, 57] 5 5 _ rfl (by simp) _ rfl _ _ (by decide) 3808858755 HM.out).mono ?_; rintro e w6 ⟨rfl, rfl⟩; clear g s5 HM)
        | (go_at_call 13; refine (lives_any _).mono ?_; rintro e w6 ⟨rfl, b6⟩; have c6 := below3 b6; have K6 := K4.trans (c6.mono K4.size); have U6 := U4.later c6; clear b6 c6 U4 K4)
        | (go_at_call 15; have g := K6; refine (seal_nil _).mono ?_; rintro e w7 ⟨rfl, b7, Z7⟩; have K7 := K6.trans (b7.mono K6.size); have U7 := U6.later b7; clear b7 g K6 U6)
        | (go_at_call 14; have g := Z7; refine (same_new w7 _ [0, 0, 0, 0] Z7 _ rfl 4 _ rfl (by simp) (by decide)).mono ?_; rintro e w8 ⟨rfl, b8⟩; have K8 := K7.trans (b8.mono K7.size); have U8 := U7.later b8; clear b8 g K7 U7 Z7)
        | (go_at_call 14; have g := U8; refine (same_new w8 _ [128, 1] U8 _ rfl 2 _ rfl (by simp) (by decide)).mono ?_; rintro e w9 ⟨rfl, b9⟩; have K9 := K8.trans (b9.mono K8.size); clear b9 g K8 U8))
      go_ret
      exact ⟨rfl, BW.trans (K9.mono BW.size)⟩

set_option maxRecDepth 100000 in
theorem lifted (os : Os) (started : os.Started) (H : Type) (enc : TypeId × Value → H) :
    ReturnsInHanded {} Try.checked os 3 .any (Rows.crcNamesSpec.pre6 enc Try.prog Try.f3 Rows.crcNamesRow.domain false) (Rows.crcNamesSpec.post enc Try.prog Try.f3 false true false false) := by
  refine returnsInHanded_of_change (C := Try.checked) own started (by kernel_rfl) Try.func3
    (ChangeSpec.witness6 (enc := enc) (C := Try.checked) false ⟨#[], #[], []⟩ 8 (by kernel_rfl) (by kernel_rfl) (by kernel_rfl) (by kernel_rfl)) ?_
  intro W base args ds gs before hval0 hW hcnd _
  have hW' := hW
  obtain ⟨p, q, hA0, hV, rfl, hfz, hnd⟩ := hW
  have hA : DataW.TrodAll enc Try.prog W 0 (fun _ => true) true Try.f3.params.toList args.toList ds p := hA0
  rw [Try.params3] at hA
  obtain ⟨hargs, rfl, rfl⟩ := trodAll_nil hA
  obtain rfl : args = #[] := by cases args; simp_all
  obtain ⟨rfl, rfl⟩ := trodVars_none hV
  clear hA0 hval0
  simp only [List.append_nil] at hW'
  refine (walk W).mono fun e W' ⟨he, bel⟩ => ?_
  subst he
  exact ⟨_, rfl, _, _, _, [], [], [], hW', trodAll_mk1 (shut_bool Try.underlying4 _), trodAll_mk0, rfl, bel.frame _, fun h => by cases h⟩

theorem over : Rows.crcNamesRow.holds Try.pinned (OpenSpec.ofChange Rows.crcNamesSpec) :=
  OpenClaim.holds_of_wide 3 Try.f3 rfl rfl rfl rfl rfl rfl rfl ⟨rfl, rfl, rfl, rfl, rfl⟩ rfl rfl rfl rfl rfl (by kernel_rfl) Try.func3 (by kernel_rfl)
    (of_decide_eq_true (by kernel_rfl)) (by unfold Func.isWrapper; first | (rw [if_pos (by decide +kernel)]; kernel_rfl) | (rw [if_neg (by decide +kernel)]; exact ⟨rfl, rfl⟩))
    (fun os started H enc _ => lifted os started H enc)
end Go.Proofs.Ytgfncfpcobkebaa.crcNames

namespace Go.Proofs.Ytgfncfpcobkebaa
/-- THE STATEMENT. -/
theorem crcNames_holds : Rows.CrcNamesSaid := crcNames.over
#print axioms crcNames_holds
end Go.Proofs.Ytgfncfpcobkebaa
