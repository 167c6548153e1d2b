/-
  An altered byte.
-/
import Derived.Test.YtlhnjloimhcpfaaGreatDoorVCalls5
import Derived.Test.YtlhnjloimhcpfaaGreatDoorSB
namespace Go.Proofs.YtlhnjloimhcpfaaGreatDoor
open Go.RowKit Go.Maps Go.Sort

/-- A turn of the block of a file's bytes. -/
theorem RepAt.turnR {w : World} {b bf bh bd : Nat} {pv : Value} {fs : Nat → Option Nat} {sl : Nat → Value} {σ : Vf.St} {S : Nat → Prop} (h : RepAt w b bf bh bd pv fs sl σ S) {n g r : Nat} {x x' : Vf.File} (hn : fs n = some g) (hx : σ.files n = some x) (hr : (sl n).ownBlock = some r) {w' : World} (ho : Only w w' r) (hs : x'.synced = x.synced) (hl : x'.bytes.length = x.bytes.length)
    (hw : w'.ownsRow 0 5 1 (sl n) x.bytes.length (bc x'.bytes)) : RepAt w' b bf bh bd pv fs sl { σ with files := Vf.setF σ.files n (some x') } S := by
  have hne : fs n ≠ none := by rw [hn]; simp
  have kr := h.kr hne hr
  refine ⟨(ho.2 b (h.low _ h.sb) (ne_kind h.kb kr (by decide))).trans h.blk, h.files.same (ho.2 _ h.files.lt (ne_kind h.files.kind kr (by simp))), h.held.same (ho.2 _ h.held.lt (ne_kind h.held.kind kr (by simp))), h.dur.same (ho.2 _ h.dur.lt (ne_kind h.dur.kind kr (by simp))),
    ownsRow_same h.pend fun q hq => ho.2 q (h.low _ (h.sp q hq)) (ne_kind (h.kp hq) kr (by decide)), fun k => ?_, fun k q y hk hy => ?_, h.inj, h.rows, h.fh, h.fd, h.hd, h.sb, h.sf, h.sh, h.sd, h.sp, h.sg, h.sr, fun i hi => Nat.lt_of_lt_of_le (h.low i hi) ho.1⟩
  · show (fs k).isSome = (Vf.setF σ.files n (some x') k).isSome
    by_cases e : k = n
    · subst e; rw [Vf.setF_eq, hn]; rfl
    · rw [Vf.setF_ne e]; exact h.dom k
  · have hy' : Vf.setF σ.files n (some x') k = some y := hy
    by_cases e : k = n
    · subst e
      rw [Vf.setF_eq] at hy'
      cases hy'
      have e2 : q = g := by rw [hn] at hk; exact (Option.some.inj hk).symm
      subst e2
      refine ⟨?_, ?_⟩
      · rw [hs]
        exact (ho.2 q (h.low _ (h.sg k q hn)) (ne_kind (h.kg hn) kr (by decide))).trans (h.file k q x hn hx).1
      · rw [hl]; exact hw
    · rw [Vf.setF_ne e] at hy'
      have hne' : fs k ≠ none := by rw [hk]; simp
      refine ⟨(ho.2 q (h.low _ (h.sg k q hk)) (ne_kind (h.kg hk) kr (by decide))).trans (h.file k q y hk hy').1, ownsRow_same (h.file k q y hk hy').2 fun t ht => ho.2 t (h.low _ (h.sr k t hne' ht)) (fun e' => e (h.rows k n r hne' hne (by rw [← e']; exact ht) hr))⟩

set_option maxRecDepth 20000 in
set_option maxHeartbeats 1000000 in
theorem alter_any (w : World) (b : Nat) (σ : Vf.St) (S : Nat → Prop) (h : Rep w b σ S) (i : Vf.Inv σ) (hs : σ.steps ≤ 100000000) (k : Vf.Bs) (hk : k.length ≤ 1000000) (at_ : Int) (bits : UInt8) (E : Int) (HE : Hid (E = Vf.alterE σ k at_)) :
    Calls Tryz.prog 86 #[.pointer (some ⟨b, 0, none⟩), str k, .int .i64 at_, .int .u8 (bits.toNat : Int)] w fun e w' => e = .returned (.int .i64 E) ∧ Rep w' b (Vf.alter σ k at_ bits) S ∧ Moved S w w' := by
  have q := made_rep w b σ S h
  have qp := proper_any w ⟨k.toArray⟩ (by show k.toArray.size ≤ _; simp [maxLen]; omega)
  simp only at qp
  obtain ⟨bf, bh, bd, pv, fs, sl, hr⟩ := h
  have c5 := hr.cells.2.2.2.2.2.1
  have c7 := hr.cells.2.2.2.2.2.2.2.1
  have H0 : Hid _ := hr
  cases hf : Vf.fine k with
  | false =>
    have e2 : E = 2 := by rw [HE.out]; unfold Vf.alterE; rw [hf]; rfl
    have ea : Vf.alter σ k at_ bits = σ := by unfold Vf.alter; rw [← HE.out, if_neg (by omega)]
    rw [ea]
    rw [hf] at qp
    subst e2
    clear HE hr hf ea i
    go_enter Tryz.func86, Tryz.ntmps86
    go_wp2_with (first | (go_at_call 108; refine still q ?_) | (go_at_call 116; refine still qp ?_))
    go_ret
    exact ⟨rfl, ⟨_, _, _, _, _, _, H0.out⟩, Moved.refl _ _⟩
  | true =>
    rw [hf] at qp
    obtain ⟨n, hn⟩ : ∃ n, n = Vf.num σ.durable k := ⟨_, rfl⟩
    have nle : n ≤ 100000000 := by rw [hn]; have := Vf.num_le (fun p hp => (i.durOk.le p hp).2) k; omega
    have L7 := hr.drew.dur.look k hk
    rw [← hn] at L7
    have L5 := hr.drew.files.look n (by omega)
    cases hx : σ.files n with
    | none =>
      have e2 : E = 4 := by rw [HE.out]; unfold Vf.alterE; rw [hf, ← hn, hx]; rfl
      have ea : Vf.alter σ k at_ bits = σ := by unfold Vf.alter; rw [← HE.out, if_neg (by omega)]
      rw [ea]
      have hg : fs n = none := by have := hr.dom n; rw [hx] at this; simpa using this
      rw [ptr_none hg] at L5
      subst e2
      clear HE hr hf ea i hx hg hn
      go_enter Tryz.func86, Tryz.ntmps86
      go_wp2_with (first | (go_at_call 108; refine still q ?_) | (go_at_call 116; refine still qp ?_))
      go_region
      go_wp2_with (fail)
      go_ret
      exact ⟨rfl, ⟨_, _, _, _, _, _, H0.out.drew⟩, (Moved.refl _ _).drew⟩
    | some x =>
      obtain ⟨g, hg⟩ : ∃ g, fs n = some g := by have := hr.dom n; rw [hx] at this; exact Option.isSome_iff_exists.1 this
      rw [ptr_some hg] at L5
      have hsy : x.synced ≤ x.bytes.length := by have := i.pend n x hx; omega
      have hby : x.bytes.length ≤ 100000000000 := by have := (i.nums n x hx).2.2; omega
      have d1 : w.drew.cell? ⟨g, 1, none⟩ = some (.int .i64 (x.synced : Int)) := Joins.cell_of_block (hr.file n g x hg hx).1 1
      by_cases hb : at_ < 0 ∨ at_ ≥ x.synced
      · have e2 : E = 2 := by rw [HE.out]; unfold Vf.alterE; rw [hf, ← hn, hx]; rw [if_pos rfl]; exact if_pos hb
        have ea : Vf.alter σ k at_ bits = σ := by unfold Vf.alter; rw [← HE.out, if_neg (by omega)]
        rw [ea]
        subst e2
        clear HE hr hf ea i hx hg hn
        by_cases h1 : at_ < 0
        · clear hb
          go_enter Tryz.func86, Tryz.ntmps86
          go_wp2_with (first | (go_at_call 108; refine still q ?_) | (go_at_call 116; refine still qp ?_))
          go_region
          go_wp2_with (fail)
          go_ret
          exact ⟨rfl, ⟨_, _, _, _, _, _, H0.out.drew⟩, (Moved.refl _ _).drew⟩
        · have h2 : at_ ≥ (x.synced : Int) := by omega
          clear hb
          go_enter Tryz.func86, Tryz.ntmps86
          go_wp2_with (first | (go_at_call 108; refine still q ?_) | (go_at_call 116; refine still qp ?_))
          go_region
          go_wp2_with (fail)
          go_ret
          exact ⟨rfl, ⟨_, _, _, _, _, _, H0.out.drew⟩, (Moved.refl _ _).drew⟩
      · have e2 : E = 0 := by rw [HE.out]; unfold Vf.alterE; rw [hf, ← hn, hx]; rw [if_pos rfl]; exact if_neg hb
        obtain ⟨m, rfl⟩ : ∃ m : Nat, at_ = (m : Int) := ⟨at_.toNat, by omega⟩
        have hm : m < x.bytes.length := by omega
        obtain ⟨cv, hcv⟩ : ∃ cv, cv = x.bytes[m] := ⟨_, rfl⟩
        have ea : Vf.alter σ k (m : Int) bits = { σ with files := Vf.setF σ.files n (some { x with bytes := x.bytes.set m (cv ^^^ bits) }) } := by
          unfold Vf.alter
          rw [← HE.out, if_pos e2, ← hn, hx]
          simp [hcv, hm]
        rw [ea]
        subst e2
        have OWN := (hr.file n g x hg hx).2
        rcases OWN.2 with ⟨_, h0⟩ | ⟨g2, cap, cur, hsl, _⟩
        · omega
        have d0 : w.drew.cell? ⟨g, 0, none⟩ = some (.slice (some ⟨g2, 0, none⟩) x.bytes.length cap) := by rw [← hsl]; exact file_cell hr hg hx
        have dm : w.drew.cell? ⟨g2, m, none⟩ = some (.int .u8 (cv.toNat : Int)) := by
          have o2 := OWN
          rw [hsl] at o2
          have e := o2.cellAt m (by omega)
          rw [bc_get x.bytes m hm, ← hcv] at e
          exact e
        have o2 := OWN
        rw [hsl] at o2
        have fm : w.drew.frozen? ⟨g2, m, none⟩ = false := o2.frozenAt m
        have ST := (o2.stored m (.int .u8 ((cv ^^^ bits).toNat : Int)))
        have FIN : Hid (RepAt (w.setCell ⟨g2, m, none⟩ (.int .u8 ((cv ^^^ bits).toNat : Int))) b bf bh bd pv fs sl { σ with files := Vf.setF σ.files n (some { x with bytes := x.bytes.set m (cv ^^^ bits) }) } S) :=
          hr.turnR hg hx (r := g2) (x' := { x with bytes := x.bytes.set m (cv ^^^ bits) }) (by rw [hsl]; rfl) (only_setCell w ⟨g2, m, none⟩ _) rfl List.length_set (by
            rw [hsl]
            have e : (bc x.bytes).set m (.int .u8 ((cv ^^^ bits).toNat : Int)) = bc (x.bytes.set m (cv ^^^ bits)) := by unfold bc; rw [List.map_set]
            rw [← e]
            exact ST.1)
        have SG : Hid (S g2) := hr.sr n g2 (by rw [hg]; simp) (by rw [hsl]; rfl)
        have i1 : (m : Int) < (x.bytes.length : Int) := by omega
        have i2 : ¬ (m : Int) < 0 := by omega
        have i3 : ¬ (m : Int) ≥ (x.synced : Int) := by omega
        have XB : Hid (Go.bits .xor .u8 (cv.toNat : Int) (bits.toNat : Int) = ((cv ^^^ bits).toNat : Int)) := by
          show _ = _
          rw [u8_xor_nat _ _ (UInt8.toNat_lt cv) (UInt8.toNat_lt bits), UInt8.toNat_xor]
        clear HE hf ea i hx hn hb hby hsy hcv OWN hr hsl o2 ST
        go_enter Tryz.func86, Tryz.ntmps86
        go_wp2_with (first | (go_at_call 108; refine still q ?_) | (go_at_call 116; refine still qp ?_))
        go_region
        go_wp2_with (fail)
        go_ret
        rw [XB.out]
        exact ⟨rfl, ⟨_, _, _, _, _, _, FIN.out.drew⟩, ((Moved.refl _ _).setCell (p := ⟨g2, m, none⟩) (fun _ => SG.out) _).drew⟩
end Go.Proofs.YtlhnjloimhcpfaaGreatDoor
