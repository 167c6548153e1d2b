/-
  Numbers and what is said of a block, put behind bytes that a call owns, as the table's inner calls do it. .. and what follows from it.
-/
import Derived.Test.YtolalicliojkfaaGreatSTab
namespace Go.Proofs.YtolalicliojkfaaGreat
open Go.RowKit

set_option maxHeartbeats 800000 in
theorem snum_any (w : World) (base : Nat) (v : Value) (l : List UInt8) (x : Nat) (hx : x ≤ 9223372036854775807) (h : w.ownsRow base 5 1 v l.length (bc l)) (hb : base ≤ w.heap.size) (hl : l.length ≤ 1000000000) :
    Calls Tryz.prog 20 #[v, .int .i64 (x : Int)] w fun e w' => ∃ v', e = .returned v' ∧ Ext base w v w' v' (l ++ Enc.leb x) := by
  have hw : IntKind.u64.wrap (x : Int) = (x : Int) := by rw [IntKind.wrap_u64]; omega
  have AP : Hid (Calls Tryz.prog 53 #[.slice none 0 0, .int .u64 (x : Int)] w fun e w' => ∃ g c, e = .returned (.slice (some ⟨g, 0, none⟩) (Enc.leb x).length c) ∧ Ext w.heap.size w (.slice none 0 0) w' (.slice (some ⟨g, 0, none⟩) (Enc.leb x).length c) (Enc.leb x)) := by
    refine (Enc.append_any w (.slice none 0 0) [] x ⟨⟨none, 0, rfl, fun h => absurd rfl h⟩, by simp⟩ (fun a b e => by cases e; rfl) (by omega) (by simp)).mono ?_
    rintro e w' ⟨v', rfl, hx'⟩
    rw [List.nil_append] at hx'
    obtain ⟨g, c, rfl⟩ := hx'.some (by have := Enc.leb_pos x; intro e; rw [e] at this; simp at this)
    exact ⟨g, c, rfl, hx'⟩
  have hlp := Enc.leb_pos x
  have hl10 := Enc.leb_len64 x (by omega)
  have H : Hid (w.ownsRow base 5 1 v l.length (bc l)) := h
  obtain ⟨q, hq⟩ : ∃ q, q = Enc.leb x := ⟨_, rfl⟩
  rw [← hq] at AP hlp hl10 ⊢
  have R1 : Hid (l.length + q.length ≤ 140737488355328) := by show _ ≤ _; omega
  obtain ⟨m, hm⟩ : ∃ m, m = q.length := ⟨_, rfl⟩
  rw [← hm] at AP
  have HM : Hid (m = q.length) := hm
  have HP : Hid (0 < q.length) := hlp
  clear h hq hx hlp hl10 hm hl
  go_enter Tryz.func20, Tryz.ntmps20
  go_wp2_with (first
    | (go_at_call 53; refine AP.out.mono ?_; rintro e w1 ⟨g1, c1, rfl, x1⟩; have b1 := below_of x1.grown; have o1 : Hid _ := own_after H.out b1; have z1 : base ≤ w1.heap.size := Nat.le_trans hb b1.size; have y1 : Hid _ := x1.own; clear AP x1)
    | (at_builtin; refine wpList_append_bytes _ rfl _ _ rfl base v l q rfl o1.out ⟨g1, 0, none⟩ m c1 rfl HM.out (own_cells (by have := y1.out; rw [← HM.out] at this; exact this)) HP.out R1.out z1 ?_; intro g2 cap2 L2 w2 HL2 x2 lt2))
  go_ret
  exact ⟨_, rfl, wext_after b1 x2⟩


/-- What is said of a block, as bytes. -/
def Ss.partB (s : Nat) (k : List UInt8) (q : Nat) : List UInt8 := Enc.leb s ++ (Enc.leb k.length ++ (k ++ Enc.leb q))

theorem step_app_strL (w : World) {ops : Array Oper} {o : Oper} {a : Act} {K : Act → World → Prop} {Q : Exit → Act → World → Prop} {E : Prop} (hgd : o.guard = none) (s x : Operand)
    (hop : o.op = .call { callee := .builtin .append, args := #[s, x], argTypes := #[26, 9] })
    (base g cap : Nat) (l m : List UInt8) (n : Nat) (hn : n = l.length) (hs : a.eval s = .slice (some ⟨g, 0, none⟩) n cap) (hown : w.ownsRow base 5 1 (.slice (some ⟨g, 0, none⟩) n cap) n (bc l))
    (sb : ByteArray) (hx : a.eval x = .string sb) (hsb : sb = ⟨m.toArray⟩) (hroom : l.length + m.length ≤ 140737488355328) (hbase : base ≤ w.heap.size)
    (h : ∀ g' cap' L w', Hid (L = (l ++ m).length) → Ext base w (.slice (some ⟨g, 0, none⟩) n cap) w' (.slice (some ⟨g', 0, none⟩) L cap') (l ++ m) → K (a.put o.dst (.slice (some ⟨g', 0, none⟩) L cap')) w') :
    if Region.wanted o (yielded ops a.tmps) = true then Oper.wp Tryz.prog o a w K Q else E := by
  have hw : Region.wanted o (yielded ops a.tmps) = true := by simp [Region.wanted, hgd]
  rw [if_pos hw]
  subst hn hsb
  obtain ⟨i0, hi, hz0, hz1, hz2⟩ := info_parts Tryz.info5
  have hsz : (⟨m.toArray⟩ : ByteArray).size = m.length := by show m.toArray.size = _; simp
  obtain ⟨v', w', hr, h2, h3, h4⟩ := Lib.run_append_own_string (P := Tryz.prog) w base 26 9 o.type 5 i0 Tryz.underlying26 Tryz.underlying9 hi hz0 hz1 hz2 _ l.length (bc l) hown ⟨m.toArray⟩ (by rw [hsz]; unfold maxLen; omega) (by rw [hsz]; exact hroom) hbase
  have lies : v'.ownBlock = some g ∨ v'.ownBlock = some w.heap.size := by
    rcases hown.2 with ⟨e, _⟩ | ⟨g', cap', cur, e, hbg, hg, hnc, hcm, hcs, htake⟩
    · cases e
    · simp only [Value.slice.injEq, Option.some.injEq, Addr.mk.injEq, and_true, true_and] at e
      obtain ⟨rfl, rfl⟩ := e
      have hcs' : cur.size = cap := by simpa using hcs
      by_cases hro : l.length + (⟨m.toArray⟩ : ByteArray).size ≤ cap
      · have hr2 := Lib.run_append_room_string (P := Tryz.prog) w 26 9 o.type 5 i0 Tryz.underlying26 Tryz.underlying9 hi hz1 g l.length cap cur hg ⟨m.toArray⟩ hro (by omega)
        rw [hr2] at hr
        simp only [Result.ok.injEq] at hr
        rw [← hr.1]
        exact .inl rfl
      · have holds := hown.cells (g := g) rfl
        have hr2 := Lib.run_append_grow_string (P := Tryz.prog) w 26 9 o.type 5 i0 (.int .u8 0) Tryz.underlying26 Tryz.underlying9 hi hz0 ⟨g, 0, none⟩ l.length cap (bc l) (by rw [hz1, bc_length]; omega) holds ⟨m.toArray⟩ (by omega) (by rw [hsz]; omega) (by rw [hz2, hsz]; exact growslice_fits (by omega) (by omega))
        rw [hr2] at hr
        simp only [Result.ok.injEq] at hr
        rw [← hr.1]
        exact .inr rfl
  rw [strCells_bc, ← bc_append, hsz, ← List.length_append] at h2
  unfold Oper.wp execOp
  simp only [hop, resolve, invoke, builtin, Sem.run_bind, Sem.run_pure, Result.andThen_ok, List.map_toArray, List.map_cons, List.map_nil, hs, hx, hr]
  rcases h2.2 with ⟨rfl, _⟩ | ⟨g', cap', cur, rfl, _⟩
  · have := (h4.1 rfl).1
    cases this
  · refine h g' cap' _ w' rfl ⟨h2, h3, ?_⟩
    rcases lies with e | e
    · exact .inl e
    · exact .inr ⟨_, e, Nat.le_refl _⟩
end Go.Proofs.YtolalicliojkfaaGreat
namespace Go.Proofs.YtolalicliojkfaaGreat
open Go.RowKit

/-- Bytes that a call lengthens, beside the block of an entry. -/
structure Ex9 (base G : Nat) (e : Mm.Ent) (w0 : World) (v0 : Value) (wx : World) (v : Value) (q : List UInt8) : Prop where
  ext : Ext base w0 v0 wx v q
  blk : wx.heap[G]? = some (eO e)
  low : base ≤ wx.heap.size
theorem Ex9.later {base G : Nat} {e : Mm.Ent} {w0 wx w' : World} {v0 v : Value} {q : List UInt8} (h : Ex9 base G e w0 v0 wx v q) (b : Below wx.heap.size wx w') : Ex9 base G e w0 v0 w' v q :=
  ⟨⟨own_after h.ext.own b, grownBy_trans h.ext.grown (grown_any b) (.inl rfl), h.ext.lies⟩, keepB b h.blk, Nat.le_trans h.low b.size⟩
theorem Ex9.step {base G : Nat} {e : Mm.Ent} {w0 wx w' : World} {v0 v v' : Value} {q q' : List UInt8} (h : Ex9 base G e w0 v0 wx v q) (x : Ext base wx v w' v' q') : Ex9 base G e w0 v0 w' v' q' :=
  ⟨h.ext.trans x, (x.grown.block G (Array.getElem?_eq_some_iff.1 h.blk).1 (fun e => own_ne h.ext.own h.blk e.symm)).trans h.blk, Nat.le_trans h.low x.grown.size⟩
theorem ex_num {base G : Nat} {e : Mm.Ent} {w0 wx : World} {v0 v : Value} {q : List UInt8} (x : Nat) (h : Ex9 base G e w0 v0 wx v q) (hx : x ≤ 9223372036854775807) (hq : q.length ≤ 1000000000) :
    Calls Tryz.prog 20 #[v, .int .i64 (x : Int)] wx fun r w' => ∃ g cap L, r = .returned (.slice (some ⟨g, 0, none⟩) L cap) ∧ Hid (L = (q ++ Enc.leb x).length) ∧ Hid (Ex9 base G e w0 v0 w' (.slice (some ⟨g, 0, none⟩) L cap) (q ++ Enc.leb x)) := by
  refine (snum_any wx base v q x hx h.ext.own h.low hq).mono ?_
  rintro r w' ⟨v', rfl, x1⟩
  obtain ⟨g, cap, rfl⟩ := x1.some (by
    intro e
    have h1 := congrArg List.length e
    have h2 := Enc.leb_pos x
    rw [List.length_append, List.length_nil] at h1
    omega)
  exact ⟨g, cap, _, rfl, rfl, h.step x1⟩
theorem Ex9.row {base G : Nat} {e : Mm.Ent} {w0 wx : World} {v0 : Value} {g cap L : Nat} {q : List UInt8} (hL : L = q.length) (h : Ex9 base G e w0 v0 wx (.slice (some ⟨g, 0, none⟩) L cap) q) : wx.ownsRow base 5 1 (.slice (some ⟨g, 0, none⟩) L cap) L (bc q) := by
  have := h.ext.own
  rw [← hL] at this
  exact this

set_option maxRecDepth 100000 in
set_option maxHeartbeats 4000000 in
theorem spart_any (w : World) (base : Nat) (v : Value) (l : List UInt8) (s : Nat) (k u : List UInt8) (q : Nat) (d : Bool) (hs : s ≤ 1000000000) (hq : q ≤ 1073741824) (hk : k.length ≤ 1000000) (h : w.ownsRow base 5 1 v l.length (bc l)) (hb : base ≤ w.heap.size) (hl : l.length ≤ 900000000) :
    Calls Tryz.prog 24 #[v, .int .i64 (s : Int), entV ⟨k, u, q, d⟩] w fun r w' => ∃ v', r = .returned v' ∧ Ext base w v w' v' (l ++ Ss.partB s k q) := by
  obtain ⟨W1, hW1⟩ : ∃ W1, W1 = w.alloc (eO ⟨k, u, q, d⟩) := ⟨_, rfl⟩
  have a1 : Below w.heap.size w W1 := by rw [hW1]; exact (Below.refl _ _).alloc (Nat.le_refl _) _
  have E0 : Ex9 base w.heap.size ⟨k, u, q, d⟩ w v W1 v l := ⟨⟨own_after h a1, grown_any a1, .inl rfl⟩, by rw [hW1]; exact World.alloc_heap_new w _, Nat.le_trans hb a1.size⟩
  have b1 := Enc.leb_len64 s (by omega)
  have b2 := Enc.leb_len64 k.length (by omega)
  have N1 := ex_num s E0 (by omega) (by omega)
  have N2 : Hid (∀ wx v1, Ex9 base w.heap.size ⟨k, u, q, d⟩ w v wx v1 (l ++ Enc.leb s) → Calls Tryz.prog 20 #[v1, .int .i64 (k.length : Int)] wx fun r w' => ∃ g cap L, r = .returned (.slice (some ⟨g, 0, none⟩) L cap) ∧ Hid (L = (l ++ Enc.leb s ++ Enc.leb k.length).length) ∧ Hid (Ex9 base w.heap.size ⟨k, u, q, d⟩ w v w' (.slice (some ⟨g, 0, none⟩) L cap) (l ++ Enc.leb s ++ Enc.leb k.length))) := fun wx v1 hx => ex_num _ hx (by omega) (by rw [List.length_append]; omega)
  have N3 : Hid (∀ wx v1, Ex9 base w.heap.size ⟨k, u, q, d⟩ w v wx v1 (l ++ Enc.leb s ++ Enc.leb k.length ++ k) → Calls Tryz.prog 20 #[v1, .int .i64 (q : Int)] wx fun r w' => ∃ g cap L, r = .returned (.slice (some ⟨g, 0, none⟩) L cap) ∧ Hid (L = (l ++ Enc.leb s ++ Enc.leb k.length ++ k ++ Enc.leb q).length) ∧ Hid (Ex9 base w.heap.size ⟨k, u, q, d⟩ w v w' (.slice (some ⟨g, 0, none⟩) L cap) (l ++ Enc.leb s ++ Enc.leb k.length ++ k ++ Enc.leb q))) := fun wx v1 hx => ex_num _ hx (by omega) (by simp only [List.length_append]; omega)
  have FE : Hid (l ++ Enc.leb s ++ Enc.leb k.length ++ k ++ Enc.leb q = l ++ Ss.partB s k q) := by show _ = _; unfold Ss.partB; simp only [List.append_assoc]
  have RM : Hid ((l ++ Enc.leb s ++ Enc.leb k.length).length + k.length ≤ 140737488355328) := by show _ ≤ _; simp only [List.length_append]; omega
  have KC : Hid (∀ wx v1 qq, Ex9 base w.heap.size ⟨k, u, q, d⟩ w v wx v1 qq → wx.cell? ⟨w.heap.size, 0, none⟩ = some (str k) ∧ wx.cell? ⟨w.heap.size, 2, none⟩ = some (.int .i64 (q : Int))) := fun wx v1 qq hx => ⟨Joins.cell_of_block hx.blk 0, Joins.cell_of_block hx.blk 2⟩
  generalize l ++ Enc.leb s ++ Enc.leb k.length ++ k ++ Enc.leb q = q4 at *
  obtain ⟨q2, hq2⟩ : ∃ q2, q2 = l ++ Enc.leb s ++ Enc.leb k.length := ⟨_, rfl⟩
  rw [← hq2] at N2 N3 RM
  generalize l ++ Enc.leb s = q1 at *
  rw [hW1] at N1
  clear E0 b1 b2 hq2 h a1 hW1
  have klen : ((⟨k.toArray⟩ : ByteArray).size : Int) = (k.length : Int) := by show ((k.toArray.size : Nat) : Int) = _; simp
  go_enter Tryz.func24, Tryz.ntmps24
  go_wp2_with (first
    | (go_at_call 20; refine N1.mono ?_; rintro r w1 ⟨g1, cap1, L1, rfl, HL1, E1⟩; clear N1))
  have P1 := (KC.out _ _ _ (E1.out.later (Below.refl _ _).drew)).1
  go_region_held3 (fun wx => wx.cell? ⟨w.heap.size, 0, none⟩ = some (str k))
    (first | exact P1 | exact P2 | exact P3)
    (first
      | (refine step_app_strL _ (by rfl) _ _ (by rfl) base g2 cap2 _ k L2 HL2.out rfl (E2.out.row HL2.out) _ (by rfl) rfl RM.out E2.out.low ?_; intro g3 cap3 L3 w3 HL3 x3; have E3 := hide (E2.out.step x3); have P3 := (KC.out _ _ _ E3.out).1)
      | (go_at_call 20; refine (N2.out _ _ (E1.out.later (Below.refl _ _).drew)).mono ?_; rintro r w2 ⟨g2, cap2, L2, rfl, HL2, E2⟩; have P2 := (KC.out _ _ _ E2.out).1))
  have P4 := (KC.out _ _ _ E3.out).2
  clear P1 P2 P3 KC N2 E1 E2 HL1 HL2 HL3 RM
  go_wp2_with (first
    | (go_at_call 20; refine (N3.out _ _ E3.out).mono ?_; rintro r w4 ⟨g4, cap4, L4, rfl, HL4, E4⟩; clear N3))
  go_ret
  have x4 := E4.out.ext
  rw [FE.out] at x4
  exact ⟨_, rfl, x4⟩
end Go.Proofs.YtolalicliojkfaaGreat
namespace Go.Proofs.YtolalicliojkfaaGreat
open Go.RowKit

theorem le8_take (n j : Nat) (h : j < 8) : (Ss.le8 n).take (j + 1) = (Ss.le8 n).take j ++ [UInt8.ofNat (n / 2 ^ (8 * j))] := by
  rw [List.take_succ_eq_append_getElem (by rw [Ss.le8_length]; exact h)]
  simp [Ss.le8]
theorem byte_at (n j : Nat) : (n : Int) / 2 ^ (8 * j) % 256 = ((UInt8.ofNat (n / 2 ^ (8 * j))).toNat : Int) := by
  rw [UInt8.toNat_ofNat']
  have : ((n : Int) / 2 ^ (8 * j)) = ((n / 2 ^ (8 * j) : Nat) : Int) := by push_cast; rfl
  rw [this]
  simp
def rec3 (F X N : Nat) : List UInt8 := Ss.le8 F ++ (Ss.le8 X ++ Ss.le8 N)
theorem rec3_length (F X N : Nat) : (rec3 F X N).length = 24 := by simp [rec3, Ss.le8_length]
/-- The bytes up to the m-th number. -/
def recTo (f : Nat → Nat) : Nat → List UInt8
  | 0 => []
  | m + 1 => recTo f m ++ Ss.le8 (f m)
theorem recTo_length (f : Nat → Nat) : ∀ m, (recTo f m).length = 8 * m
  | 0 => rfl
  | m + 1 => by rw [recTo, List.length_append, recTo_length f m, Ss.le8_length]; omega

set_option maxRecDepth 100000 in
set_option maxHeartbeats 4000000 in
theorem record_any (w : World) (F X N : Nat) (hF : F < 18446744073709551616) (hX : X < 18446744073709551616) (hN : N < 18446744073709551616) :
    Calls Tryz.prog 27 #[footV F X N] w fun e w' => ∃ v, e = .returned v ∧ w'.ownsRow w.heap.size 5 1 v 24 (bc (rec3 F X N)) ∧ Below w.heap.size w w' := by
  obtain ⟨i0, hi, hz0, hz1, hz2⟩ := info_parts Tryz.info5
  go_enter Tryz.func27, Tryz.ntmps27
  go_wp2_with (fail)
  obtain ⟨W2, hW2⟩ : ∃ W2, W2 = (w.alloc (.cells #[.int .u64 (F : Int), .int .u64 (X : Int), .int .u64 (N : Int)] 57)).alloc (.cells #[.int .u64 (F : Int), .int .u64 (X : Int), .int .u64 (N : Int)] 55) := ⟨_, rfl⟩
  have a2 : Below w.heap.size w W2 := by rw [hW2]; exact ((Below.refl _ _).alloc (Nat.le_refl _) _).alloc (by simp) _
  have z2 : W2.heap.size = w.heap.size + 2 := by rw [hW2]; simp
  have L2 : W2.heap[w.heap.size + 1]? = some (.cells #[.int .u64 (F : Int), .int .u64 (X : Int), .int .u64 (N : Int)] 55 (0, 0)) := by
    rw [hW2]
    have := World.alloc_heap_new (w.alloc (.cells #[.int .u64 (F : Int), .int .u64 (X : Int), .int .u64 (N : Int)] 57)) (.cells #[.int .u64 (F : Int), .int .u64 (X : Int), .int .u64 (N : Int)] 55)
    rw [World.size_alloc] at this
    exact this
  rw [← hW2]
  obtain ⟨f, hf⟩ : ∃ f : Nat → Nat, f = fun m => if m = 0 then F else if m = 1 then X else N := ⟨_, rfl⟩
  have f3 : Hid (recTo f 3 = rec3 F X N) := by show _ = _; rw [hf]; simp [recTo, rec3]
  have fl : Hid (∀ m, f m < 18446744073709551616) := fun m => by rw [hf]; show (if m = 0 then F else if m = 1 then X else N) < _; split; exact hF; split; exact hX; exact hN
  have FC : Hid (∀ m, m < 3 → W2.cell? ⟨w.heap.size + 1, m, none⟩ = some (.int .u64 (f m : Int))) := by
    intro m hm
    rw [hf]
    match m, hm with
    | 0, _ => exact Joins.cell_of_block L2 0
    | 1, _ => exact Joins.cell_of_block L2 1
    | 2, _ => exact Joins.cell_of_block L2 2
  clear hW2 L2 hf hF hX hN
  go_loopw [3, 15] (fun v k wr => ∃ m : Nat, m ≤ 3 ∧ k = .int .i64 m ∧ wr.ownsRow W2.heap.size 5 1 v (recTo f m).length (bc (recTo f m)) ∧ Below W2.heap.size W2 wr) (fun _ k _ => 3 - (intOf k).toNat)
  case atStart => exact ⟨0, Nat.zero_le _, rfl, World.ownsRow_nil _ _ _ _, Below.refl _ _⟩
  case round =>
    obtain ⟨m, hm, rfl, o, b⟩ := hrel
    by_cases hlt : m < 3
    · have c0 := keepC b (FC.out m hlt)
      have FL := fl.out m
      have RN : Hid (recTo f (m + 1) = recTo f m ++ Ss.le8 (f m)) := rfl
      have q1 : (m : Int) < 3 := by omega
      have q0 : (0 : Int) ≤ (m : Int) := by omega
      obtain ⟨R, hR⟩ : ∃ R, R = recTo f m := ⟨_, rfl⟩
      have hRl : R.length = 8 * m := by rw [hR, recTo_length]
      rw [← hR] at o RN
      generalize f m = y at *
      have OR := hide o
      clear o FC hR
      go_wp2_with (fail)
      go_loopw [3, 19] (fun v k wi => ∃ j : Nat, j ≤ 8 ∧ k = .int .i64 j ∧ wi.ownsRow W2.heap.size 5 1 v (R ++ (Ss.le8 y).take j).length (bc (R ++ (Ss.le8 y).take j)) ∧ Below W2.heap.size W2 wi) (fun _ k _ => 8 - (intOf k).toNat)
      case atStart => exact ⟨0, Nat.zero_le _, rfl, by rw [List.take_zero, List.append_nil]; exact OR.out, b⟩
      case round =>
        obtain ⟨j, hj, rfl, o1, b1⟩ := hrel
        clear OR
        by_cases hj8 : j < 8
        · have TK : Hid (R ++ (Ss.le8 y).take (j + 1) = R ++ (Ss.le8 y).take j ++ [UInt8.ofNat (y / 2 ^ (8 * j))]) := by show _ = _; rw [le8_take y j hj8, List.append_assoc]
          have BA := byte_at y j
          obtain ⟨c, hc⟩ : ∃ c, c = UInt8.ofNat (y / 2 ^ (8 * j)) := ⟨_, rfl⟩
          rw [← hc] at TK BA
          have LE : (R ++ (Ss.le8 y).take j).length ≤ 100 := by rw [List.length_append, List.length_take, Ss.le8_length]; omega
          generalize R ++ (Ss.le8 y).take j = o at *
          have w8 : IntKind.i64.wrap (8 * (j : Int)) = 8 * (j : Int) := by rw [IntKind.wrap_i64]; omega
          have k0 : ¬ (8 * (j : Int)) < 0 := by omega
          have O1 := hide o1
          have zb := b1.size
          clear o1 hc
          have Z1 : Hid (o.length + 1 ≤ maxLen) := by show _ ≤ _; unfold maxLen; omega
          have Z2 : Hid ((o.length + 1) * 1 ≤ 140737488355328) := by show _ ≤ _; omega
          go_wp2_with (at_builtin; refine wpList_append_lies _ rfl (.tmp 22) (.tmp 28) 26 rfl W2.heap.size 5 i0 (.int .u8 0) 1 1 Tryz.underlying26 hi hz0 hz1 hz2 rfl (by decide) _ o.length _ rfl (O1.out.alloc _) ⟨wr.heap.size, 0, none⟩ 1 1 (bc [c]) rfl rfl (cell_one_new _ _ _) (bc_one _) (by decide) Z1.out Z2.out (by simp; omega) _ rfl ?_; intro g8 cap8 w8' o8 h8 l8 lt8)
          refine ⟨⟨j + 1, hj8, by go_num, ?_, (b1.alloc (Nat.le_trans (Nat.le_refl _) zb) _).grown h8 (by simp; omega) (fun k hk => (O1.out.lt k hk).1)⟩, by simp [intOf]; omega⟩
          rw [TK.out, bc_append, List.length_append]
          exact o8
        · have e : j = 8 := by omega
          subst e
          have tk : (Ss.le8 y).take 8 = Ss.le8 y := List.take_of_length_le (by rw [Ss.le8_length]; exact Nat.le_refl _)
          rw [tk, ← RN.out] at o1
          have O1 := hide o1
          clear o1 tk
          go_wp2_with (fail)
          go_roundw
          case rel => exact ⟨m + 1, by omega, by go_num, O1.out, b1⟩
          case measure => simp [intOf]; omega
    · have e : m = 3 := by omega
      subst e
      have O := hide (own_lift o (show w.heap.size ≤ W2.heap.size by omega))
      clear o fl FC
      go_wp2_with (fail)
      go_ret
      refine ⟨_, rfl, ?_, a2.trans (b.mono a2.size)⟩
      have := O.out
      rw [f3.out, rec3_length] at this
      exact this
end Go.Proofs.YtolalicliojkfaaGreat
