/-
  What a file system must keep to, so that a raw step can be done; a raw step of any kind. .. and what follows from it.
-/
import Derived.Test.YtlhnjloimhcpfabGreatDoorVB
import Derived.Test.YtlhnjloimhcpfabGreatDoorShelf
import Derived.Test.YtlhnjloimhcpfabGreatDoorShelfIter
import Derived.Sort.KeysCollected
import Derived.Maps.RangeWalk
namespace Go.Proofs.YtlhnjloimhcpfabGreatDoor
open Go.RowKit Go.Maps

structure Ready (σ : Vf.St) : Prop where
  ok : DoOk σ
  pend : σ.pending.length ≤ 1000000000
  heldN : σ.held.length ≤ 1000000000
  heldV : ∀ k, Vf.num σ.held k ≤ 1000000000
  free : σ.files (σ.steps + 1) = none
  used : -1000000000000000000 ≤ σ.used ∧ σ.used ≤ 1000000000000000000
  bytes : ∀ n x, σ.files n = some x → x.bytes.length ≤ 100000000000000
  sync : ∀ F, SettleOk (fun p => decide (p.kind = 0) && decide (p.file = F)) (Vf.tick σ)
  names : SettleOk (fun p => !decide (p.kind = 0)) (Vf.tick σ)
  heldIn : ∀ k n, Vf.look σ.held k = some n → ∃ x, σ.files n = some x

theorem lost_le {σ : Vf.St} (r : Ready σ) (s : Vf.Step) : Vf.lost s σ.held ≤ 1000000000 := by
  unfold Vf.lost
  split
  · unfold Vf.num
    rw [Vf.look_del]
    split
    · simp
    · exact r.heldV _
  · split
    · exact r.heldV _
    · omega

/-- A raw step that is no write. -/
theorem do_any (w : World) (b : Nat) (σ : Vf.St) (S : Nat → Prop) (h : Rep w b σ S) (r : Ready σ) (s : Vf.Step) (so : StepOk s) (hk : s.kind ≠ 0) (v : Value) :
    Calls Tryz.prog 51 #[.pointer (some ⟨b, 0, none⟩), sv s, v] w fun e w' => e = .returned (.int .i64 (Vf.doE σ)) ∧ Rep w' b (Vf.doSt σ s []) (grow S w w') ∧ Moved S w w' := by
  obtain ⟨bf, bh, bd, pv, fs, sl, h⟩ := h
  by_cases h0 : σ.fuse = 0
  · have e1 : Vf.doE σ = 7 := by unfold Vf.doE; rw [if_pos h0]
    have e2 : Vf.doSt σ s [] = { σ with on := false } := by unfold Vf.doSt; rw [if_pos h0]
    rw [e1, e2]
    exact do_off w b bf bh bd pv fs sl σ S h s v h0
  · have e1 : Vf.doE σ = 0 := by unfold Vf.doE; rw [if_neg h0]
    have e2 : Vf.doSt σ s [] = Vf.act (Vf.tick σ) s [] := by unfold Vf.doSt; rw [if_neg h0]
    rw [e1, e2]
    by_cases k1 : s.kind = 1
    · have e3 : Vf.act (Vf.tick σ) s [] = Vf.pend { Vf.tick σ with files := Vf.setF σ.files (σ.steps + 1) (some ⟨[], 0⟩), held := Vf.put σ.held s.name (σ.steps + 1) } { s with file := σ.steps + 1 } := by
        unfold Vf.act
        rw [if_neg hk, if_pos k1]
        rfl
      rw [e3]
      exact do_name w b bf bh bd pv fs sl σ S h s k1 v h0 r.ok r.pend so r.heldN r.heldV r.free _ rfl _ rfl
    · by_cases k3 : s.kind ≤ 3
      · have hk2 : s.kind = 2 ∨ s.kind = 3 := by omega
        have e3 : Vf.act (Vf.tick σ) s [] = Vf.pend { Vf.tick σ with held := Vf.ren s σ.held, used := match σ.files (Vf.lost s σ.held) with | none => σ.used | some x => σ.used - x.bytes.length } s := by
          unfold Vf.act
          rw [if_neg hk, if_neg k1, if_pos k3]
          rfl
        rw [e3]
        cases hx : σ.files (Vf.lost s σ.held) with
        | none => exact do_move_none w b bf bh bd pv fs sl σ S h s hk2 v h0 r.ok r.pend so r.heldN r.heldV _ rfl (lost_le r s) _ rfl hx
        | some x => exact do_move_some w b bf bh bd pv fs sl σ S h s hk2 v h0 r.ok r.pend so r.heldN r.heldV _ rfl (lost_le r s) _ rfl x hx r.used (Nat.le_trans (r.bytes _ x hx) (by omega)) _ rfl _ rfl
      · by_cases k4 : s.kind = 4
        · have e3 : Vf.act (Vf.tick σ) s [] = Vf.settle (fun p => decide (p.kind = 0) && decide (p.file = s.file)) (Vf.tick σ) := by
            unfold Vf.act
            rw [if_neg hk, if_neg k1, if_neg k3, if_pos k4]
          rw [e3]
          exact do_file w b bf bh bd pv fs sl σ S h s k4 v h0 r.ok r.pend (r.sync s.file)
        · have k5 : s.kind = 5 := by have := so.kind; omega
          have e3 : Vf.act (Vf.tick σ) s [] = Vf.settle (fun p => !decide (p.kind = 0)) (Vf.tick σ) := by
            unfold Vf.act
            rw [if_neg hk, if_neg k1, if_neg k3, if_neg k4]
          rw [e3]
          exact do_names w b bf bh bd pv fs sl σ S h s k5 v h0 r.ok r.pend r.names

/-- A raw step that is a write. -/
theorem do_piece (w : World) (b : Nat) (σ : Vf.St) (S : Nat → Prop) (h : Rep w b σ S) (r : Ready σ) (n : Nat) (x : Vf.File) (hx : σ.files n = some x) (hn : n ≤ 1000000000) (bb off k c : Nat) (p : Vf.Bs) (hk : k = p.length) (hpos : 0 < p.length) (hp : p.length ≤ 64) (hc : ∀ j u, (bc p)[j]? = some u → w.cell? ((⟨bb, off, none⟩ : Addr).add j) = some u) (hbS : ¬ S bb) (hbl : bb < w.heap.size) :
    Calls Tryz.prog 51 #[.pointer (some ⟨b, 0, none⟩), .agg #[.int .i64 0, .int .i64 (n : Int), .int .i64 (k : Int), .string ⟨#[]⟩, .string ⟨#[]⟩], .slice (some ⟨bb, off, none⟩) k c] w fun e w' => e = .returned (.int .i64 (Vf.doE σ)) ∧ Rep w' b (Vf.doSt σ ⟨0, n, p.length, [], []⟩ p) (grow S w w') ∧ Moved S w w' := by
  subst hk
  obtain ⟨bf, bh, bd, pv, fs, sl, h⟩ := h
  by_cases h0 : σ.fuse = 0
  · have e1 : Vf.doE σ = 7 := by unfold Vf.doE; rw [if_pos h0]
    have e2 : Vf.doSt σ ⟨0, n, p.length, [], []⟩ p = { σ with on := false } := by unfold Vf.doSt; rw [if_pos h0]
    rw [e1, e2]
    exact do_off w b bf bh bd pv fs sl σ S h ⟨0, n, p.length, [], []⟩ _ h0
  · have e1 : Vf.doE σ = 0 := by unfold Vf.doE; rw [if_neg h0]
    have e2 : Vf.doSt σ ⟨0, n, p.length, [], []⟩ p = Vf.pend { Vf.tick σ with files := Vf.setF σ.files n (some { x with bytes := x.bytes ++ p }), used := σ.used + (p.length : Int) } ⟨0, n, p.length, [], []⟩ := by
      unfold Vf.doSt
      rw [if_neg h0]
      unfold Vf.act
      rw [if_pos rfl]
      unfold Vf.write
      have : (Vf.tick σ).files n = some x := hx
      simp only [this]
      rfl
    rw [e1, e2]
    exact do_write w b bf bh bd pv fs sl σ S h ⟨0, n, p.length, [], []⟩ rfl h0 r.ok r.pend ⟨by simp, by simp, hn, by show p.length ≤ _; omega, by simp⟩ x hx bb off p.length c p rfl hpos hc hbS hbl (by have := r.bytes n x hx; omega) _ rfl r.used
end Go.Proofs.YtlhnjloimhcpfabGreatDoor
namespace Go.Proofs.YtlhnjloimhcpfabGreatDoor
open Go.RowKit Go.Maps

theorem clone_any (w : World) (k : Vf.Bs) (hk : k.length ≤ 1000000) : Calls Tryz.prog 52 #[str k] w fun e w' => e = .returned (str k) ∧ Below w.heap.size w w' := by
  have q := Tryz.stringslite_Clone ⟨k.toArray⟩ w (by show k.toArray.size ≤ _; simp; omega)
  go_enter Tryz.func52, Tryz.ntmps52
  go_wp2_with (go_at_call 84; refine q.mono ?_; rintro e w' ⟨rfl, hb⟩)
  go_ret
  exact ⟨rfl, hb⟩

theorem step_ok {k t : Nat} {a c : Vf.Bs} (hk : k ≤ 5) (ht : t ≤ 1000000000) (ha : a.length ≤ 1000000) (hc : c.length ≤ 1000000) : StepOk ⟨k, t, 0, a, c⟩ := ⟨ha, hc, ht, by show 0 ≤ _; omega, hk⟩

/-- What a raw step leaves, behind new blocks. -/
theorem Rep.after {w w1 w2 : World} {b : Nat} {σ : Vf.St} {S : Nat → Prop} (hb : Below w.heap.size w w1) (h : Rep w2 b σ (grow S w1 w2)) (hm : Moved S w1 w2) : Rep w2 b σ (grow S w w2) ∧ Moved S w w2 :=
  ⟨h.wide (fun i hi => by
    rcases hi with hi | hi
    · exact .inl hi
    · exact .inr ⟨by have := hb.size; omega, hi.2⟩) (fun i hi => by
    rcases hi with hi | hi
    · exact h.low i (.inl hi)
    · exact hi.2), (Moved.below hb).trans hm (fun i _ hi => hi)⟩

set_option maxHeartbeats 400000 in
theorem create_any (w : World) (b : Nat) (σ : Vf.St) (S : Nat → Prop) (h : Rep w b σ S) (r : Ready σ) (k : Vf.Bs) (hk : k.length ≤ 1000000) (E : Int) (HE : Hid (E = Vf.createE σ k)) :
    Calls Tryz.prog 79 #[.pointer (some ⟨b, 0, none⟩), str k] w fun e w' => e = .returned (.int .i64 E) ∧ Rep w' b (Vf.create σ k) (grow S w w') ∧ Moved S w w' := by
  obtain ⟨bf, bh, bd, pv, fs, sl, hr⟩ := h
  obtain ⟨F, hF⟩ : ∃ F, F = Vf.findE σ k := ⟨_, rfl⟩
  obtain ⟨N, hN⟩ : ∃ N, N = if Vf.findE σ k = 0 then Vf.num σ.held k else 0 := ⟨_, rfl⟩
  have q := find_some w b bf bh bd pv fs sl σ S hr k hk F hF N hN
  have B1 : Below w.heap.size w (w.alloc (.cells #[str k] 9)) := (Below.refl _ _).alloc (Nat.le_refl _) _
  have h1 : Rep (w.alloc (.cells #[str k] 9)) b σ S := ⟨bf, bh, bd, pv, fs, sl, hr.alloc _⟩
  have same : ∀ w', w' = w.alloc (.cells #[str k] 9) → Vf.create σ k = σ → Rep w' b (Vf.create σ k) (grow S w w') ∧ Moved S w w' := fun w' e e2 => by
    subst e
    rw [e2]
    exact ⟨h1.grow1, (Moved.refl S w).alloc _⟩
  by_cases f0 : F = 0
  · have HE' : Hid (E = 9) := by show _ = _; rw [HE.out]; unfold Vf.createE; rw [← hF, f0]; rfl
    have e2 : Vf.create σ k = σ := by unfold Vf.create; rw [← hF, f0]; rfl
    have SM : Hid _ := same _ rfl e2
    subst f0
    clear hF hN HE same e2 h1 B1 hr
    go_enter Tryz.func79, Tryz.ntmps79
    go_wp2_with (go_at_call 23; refine still2 q ?_)
    go_ret
    exact ⟨by rw [HE'.out]; rfl, SM.out⟩
  by_cases f4 : F = 4
  · have HE' : Hid (E = Vf.doE σ) := by show _ = _; rw [HE.out]; unfold Vf.createE; rw [← hF, f4]; rfl
    have e2 : Vf.create σ k = Vf.doSt σ ⟨1, 0, 0, k, []⟩ [] := by unfold Vf.create; rw [← hF, f4]; rfl
    have DO : Hid (∀ wx, Below w.heap.size w wx → Calls Tryz.prog 51 #[.pointer (some ⟨b, 0, none⟩), .agg #[.int .i64 1, .int .i64 0, .int .i64 0, str k, .string ⟨#[]⟩], .slice none 0 0] wx fun e w' => e = .returned (.int .i64 E) ∧ Rep w' b (Vf.create σ k) (grow S w w') ∧ Moved S w w') := fun wx hb => by
      refine (do_any wx b σ S (Rep.later ⟨bf, bh, bd, pv, fs, sl, hr⟩ hb) r ⟨1, 0, 0, k, []⟩ (step_ok (by omega) (by omega) hk (by simp)) (by simp) (.slice none 0 0)).mono ?_
      rintro e w' ⟨rfl, r1, m1⟩
      rw [e2]
      exact ⟨by rw [HE'.out], Rep.after hb r1 m1⟩
    have CL := clone_any (w.alloc (.cells #[str k] 9)) k hk
    have B2 : Hid _ := B1
    subst f4
    clear hF hN HE same e2 h1 B1 hr HE'
    go_enter Tryz.func79, Tryz.ntmps79
    go_wp2_with (first
      | (go_at_call 23; refine still2 q ?_)
      | (go_at_call 52; refine CL.mono ?_; rintro e w2 ⟨rfl, b2⟩; have B3 : Below w.heap.size w w2 := B2.out.trans (b2.mono B2.out.size))
      | (go_at_call 51; refine (DO.out _ B3).mono ?_; rintro e w3 ⟨rfl, r3, m3⟩))
    go_ret
    exact ⟨rfl, r3, m3⟩
  · have HE' : Hid (E = F) := by show _ = _; rw [HE.out]; unfold Vf.createE; rw [← hF, if_neg f0, if_neg f4]
    have e2 : Vf.create σ k = σ := by unfold Vf.create; rw [← hF, if_neg f4]
    have SM : Hid _ := same _ rfl e2
    have b0 : (F == 0) = false := by simpa using f0
    have b4 : (F == 4) = false := by simpa using f4
    clear hF hN HE same e2 h1 B1 hr
    go_enter Tryz.func79, Tryz.ntmps79
    go_wp2_with (go_at_call 23; refine still2 q ?_)
    go_ret
    exact ⟨by rw [HE'.out]; rfl, SM.out⟩
end Go.Proofs.YtlhnjloimhcpfabGreatDoor
namespace Go.Proofs.YtlhnjloimhcpfabGreatDoor
open Go.RowKit Go.Maps

set_option maxHeartbeats 400000 in
theorem remove_any (w : World) (b : Nat) (σ : Vf.St) (S : Nat → Prop) (h : Rep w b σ S) (r : Ready σ) (k : Vf.Bs) (hk : k.length ≤ 1000000) (E : Int) (HE : Hid (E = Vf.removeE σ k)) :
    Calls Tryz.prog 22 #[.pointer (some ⟨b, 0, none⟩), str k] w fun e w' => e = .returned (.int .i64 E) ∧ Rep w' b (Vf.remove σ k) (grow S w w') ∧ Moved S w w' := by
  obtain ⟨bf, bh, bd, pv, fs, sl, hr⟩ := h
  obtain ⟨F, hF⟩ : ∃ F, F = Vf.findE σ k := ⟨_, rfl⟩
  obtain ⟨N, hN⟩ : ∃ N, N = if Vf.findE σ k = 0 then Vf.num σ.held k else 0 := ⟨_, rfl⟩
  have q := find_some w b bf bh bd pv fs sl σ S hr k hk F hF N hN
  have B1 : Below w.heap.size w (w.alloc (.cells #[str k] 9)) := (Below.refl _ _).alloc (Nat.le_refl _) _
  by_cases f0 : F = 0
  · have ff : Vf.findE σ k = 0 := by rw [← hF, f0]
    have HE' : Hid (E = Vf.doE σ) := by show _ = _; rw [HE.out]; unfold Vf.removeE; rw [if_pos ff]
    have n0 : N = Vf.num σ.held k := by rw [hN, if_pos ff]
    have e2 : Vf.remove σ k = Vf.doSt σ ⟨3, 0, 0, k, []⟩ [] := by unfold Vf.remove; rw [if_pos ff]
    have nle : N ≤ 1000000000 := by rw [n0]; exact r.heldV k
    have DO : Hid (∀ wx, Below w.heap.size w wx → Calls Tryz.prog 51 #[.pointer (some ⟨b, 0, none⟩), .agg #[.int .i64 3, .int .i64 0, .int .i64 0, str k, .string ⟨#[]⟩], .slice none 0 0] wx fun e w' => e = .returned (.int .i64 E) ∧ Rep w' b (Vf.remove σ k) (grow S w w') ∧ Moved S w w') := fun wx hb => by
      refine (do_any wx b σ S (Rep.later ⟨bf, bh, bd, pv, fs, sl, hr⟩ hb) r ⟨3, 0, 0, k, []⟩ (step_ok (by omega) (by omega) (by first | exact hk | simp) (by simp)) (by simp) (.slice none 0 0)).mono ?_
      rintro e w' ⟨rfl, r1, m1⟩
      rw [e2]
      exact ⟨by rw [HE'.out], Rep.after hb r1 m1⟩
    have CL := clone_any (w.alloc (.cells #[str k] 9)) k hk
    have B2 : Hid _ := B1
    subst f0
    clear hF hN HE e2 hr HE' n0 ff
    go_enter Tryz.func22, Tryz.ntmps22
    go_wp2_with (first
      | (go_at_call 23; refine still2 q ?_)
      | (go_at_call 52; refine CL.mono ?_; rintro e w2 ⟨rfl, b2⟩; have B3 : Below w.heap.size w w2 := B2.out.trans (b2.mono B2.out.size))
      | (go_at_call 51; refine (DO.out _ B3).mono ?_; rintro e w3 ⟨rfl, r3, m3⟩))
    go_ret
    exact ⟨rfl, r3, m3⟩
  · have ff : ¬ Vf.findE σ k = 0 := by rw [← hF]; exact f0
    have HE' : Hid (E = F) := by show _ = _; rw [HE.out]; unfold Vf.removeE; rw [if_neg ff, hF]
    have e2 : Vf.remove σ k = σ := by unfold Vf.remove; rw [if_neg ff]
    have SM : Hid (Rep (w.alloc (.cells #[str k] 9)) b (Vf.remove σ k) (grow S w (w.alloc (.cells #[str k] 9))) ∧ Moved S w (w.alloc (.cells #[str k] 9))) := by
      rw [e2]
      exact ⟨Rep.grow1 ⟨bf, bh, bd, pv, fs, sl, hr.alloc _⟩, (Moved.refl S w).alloc _⟩
    have b0 : (F != 0) = true := by simpa using f0
    clear hF hN HE e2 B1 hr ff
    go_enter Tryz.func22, Tryz.ntmps22
    go_wp2_with (go_at_call 23; refine still2 q ?_)
    go_ret
    exact ⟨by rw [HE'.out]; rfl, SM.out⟩

set_option maxHeartbeats 400000 in
theorem sync_any (w : World) (b : Nat) (σ : Vf.St) (S : Nat → Prop) (h : Rep w b σ S) (r : Ready σ) (k : Vf.Bs) (hk : k.length ≤ 1000000) (E : Int) (HE : Hid (E = Vf.syncE σ k)) :
    Calls Tryz.prog 62 #[.pointer (some ⟨b, 0, none⟩), str k] w fun e w' => e = .returned (.int .i64 E) ∧ Rep w' b (Vf.sync σ k) (grow S w w') ∧ Moved S w w' := by
  obtain ⟨bf, bh, bd, pv, fs, sl, hr⟩ := h
  obtain ⟨F, hF⟩ : ∃ F, F = Vf.findE σ k := ⟨_, rfl⟩
  obtain ⟨N, hN⟩ : ∃ N, N = if Vf.findE σ k = 0 then Vf.num σ.held k else 0 := ⟨_, rfl⟩
  have q := find_some w b bf bh bd pv fs sl σ S hr k hk F hF N hN
  have B1 : Below w.heap.size w (w.alloc (.cells #[str k] 9)) := (Below.refl _ _).alloc (Nat.le_refl _) _
  by_cases f0 : F = 0
  · have ff : Vf.findE σ k = 0 := by rw [← hF, f0]
    have HE' : Hid (E = Vf.doE σ) := by show _ = _; rw [HE.out]; unfold Vf.syncE; rw [if_pos ff]
    have n0 : N = Vf.num σ.held k := by rw [hN, if_pos ff]
    have e2 : Vf.sync σ k = Vf.doSt σ ⟨4, N, 0, [], []⟩ [] := by unfold Vf.sync; rw [if_pos ff, ← n0]
    have nle : N ≤ 1000000000 := by rw [n0]; exact r.heldV k
    have DO : Hid (∀ wx, Below w.heap.size w wx → Calls Tryz.prog 51 #[.pointer (some ⟨b, 0, none⟩), .agg #[.int .i64 4, .int .i64 (N : Int), .int .i64 0, .string ⟨#[]⟩, .string ⟨#[]⟩], .slice none 0 0] wx fun e w' => e = .returned (.int .i64 E) ∧ Rep w' b (Vf.sync σ k) (grow S w w') ∧ Moved S w w') := fun wx hb => by
      refine (do_any wx b σ S (Rep.later ⟨bf, bh, bd, pv, fs, sl, hr⟩ hb) r ⟨4, N, 0, [], []⟩ (step_ok (by omega) (by omega) (by first | exact hk | simp) (by simp)) (by simp) (.slice none 0 0)).mono ?_
      rintro e w' ⟨rfl, r1, m1⟩
      rw [e2]
      exact ⟨by rw [HE'.out], Rep.after hb r1 m1⟩
    have CL := clone_any (w.alloc (.cells #[str k] 9)) k hk
    have B2 : Hid _ := B1
    subst f0
    clear hF hN HE e2 hr HE' n0 ff
    go_enter Tryz.func62, Tryz.ntmps62
    go_wp2_with (first
      | (go_at_call 23; refine still2 q ?_)
      | (go_at_call 51; refine (DO.out _ B2.out).mono ?_; rintro e w3 ⟨rfl, r3, m3⟩))
    go_ret
    exact ⟨rfl, r3, m3⟩
  · have ff : ¬ Vf.findE σ k = 0 := by rw [← hF]; exact f0
    have HE' : Hid (E = F) := by show _ = _; rw [HE.out]; unfold Vf.syncE; rw [if_neg ff, hF]
    have e2 : Vf.sync σ k = σ := by unfold Vf.sync; rw [if_neg ff]
    have SM : Hid (Rep (w.alloc (.cells #[str k] 9)) b (Vf.sync σ k) (grow S w (w.alloc (.cells #[str k] 9))) ∧ Moved S w (w.alloc (.cells #[str k] 9))) := by
      rw [e2]
      exact ⟨Rep.grow1 ⟨bf, bh, bd, pv, fs, sl, hr.alloc _⟩, (Moved.refl S w).alloc _⟩
    have b0 : (F != 0) = true := by simpa using f0
    clear hF hN HE e2 B1 hr ff
    go_enter Tryz.func62, Tryz.ntmps62
    go_wp2_with (go_at_call 23; refine still2 q ?_)
    go_ret
    exact ⟨by rw [HE'.out]; rfl, SM.out⟩

/-- Why a call without a name is refused. -/
theorem refused_rep (w : World) (b : Nat) (σ : Vf.St) (S : Nat → Prop) (h : Rep w b σ S) (R : Int) (HR : Hid (R = Vf.refuse σ [])) : Calls Tryz.prog 37 #[.pointer (some ⟨b, 0, none⟩), .slice none 0 0] w fun e w' => e = .returned (.int .i64 R) ∧ w' = w := by
  obtain ⟨bf, bh, bd, pv, fs, sl, hr⟩ := h
  exact refused_some w b bf σ.on _ [] hr.cells.2.2.2.2.2.1 hr.cells.2.2.1 (asked_none w) R (by show _ = _; rw [HR.out]; rfl)

set_option maxHeartbeats 400000 in
theorem syncNames_any (w : World) (b : Nat) (σ : Vf.St) (S : Nat → Prop) (h : Rep w b σ S) (r : Ready σ) (E : Int) (HE : Hid (E = Vf.syncNamesE σ)) :
    Calls Tryz.prog 49 #[.pointer (some ⟨b, 0, none⟩)] w fun e w' => e = .returned (.int .i64 E) ∧ Rep w' b (Vf.syncNames σ) (grow S w w') ∧ Moved S w w' := by
  obtain ⟨R, hR⟩ : ∃ R, R = Vf.refuse σ [] := ⟨_, rfl⟩
  have q := refused_rep w b σ S h R hR
  by_cases f0 : R = 0
  · have ff : Vf.refuse σ [] = 0 := by rw [← hR, f0]
    have HE' : Hid (E = Vf.doE σ) := by show _ = _; rw [HE.out]; unfold Vf.syncNamesE; rw [if_pos ff]
    have e2 : Vf.syncNames σ = Vf.doSt σ ⟨5, 0, 0, [], []⟩ [] := by unfold Vf.syncNames; rw [if_pos ff]
    have DO : Calls Tryz.prog 51 #[.pointer (some ⟨b, 0, none⟩), .agg #[.int .i64 5, .int .i64 0, .int .i64 0, .string ⟨#[]⟩, .string ⟨#[]⟩], .slice none 0 0] w fun e w' => e = .returned (.int .i64 E) ∧ Rep w' b (Vf.syncNames σ) (grow S w w') ∧ Moved S w w' := by
      refine (do_any w b σ S h r ⟨5, 0, 0, [], []⟩ (step_ok (by omega) (by omega) (by simp) (by simp)) (by simp) (.slice none 0 0)).mono ?_
      rintro e w' ⟨rfl, r1, m1⟩
      rw [e2]
      exact ⟨by rw [HE'.out], r1, m1⟩
    subst f0
    clear hR HE e2 HE' ff h
    go_enter Tryz.func49, Tryz.ntmps49
    go_wp2_with (first
      | (go_at_call 37; refine still q ?_)
      | (go_at_call 51; refine DO.mono ?_; rintro e w3 ⟨rfl, r3, m3⟩))
    go_ret
    exact ⟨rfl, r3, m3⟩
  · have ff : ¬ Vf.refuse σ [] = 0 := by rw [← hR]; exact f0
    have HE' : Hid (E = R) := by show _ = _; rw [HE.out]; unfold Vf.syncNamesE; rw [if_neg ff, hR]
    have e2 : Vf.syncNames σ = σ := by unfold Vf.syncNames; rw [if_neg ff]
    have SM : Hid (Rep w b (Vf.syncNames σ) (grow S w w) ∧ Moved S w w) := by rw [e2]; exact ⟨h.grow1, Moved.refl S w⟩
    have b0 : (R != 0) = true := by simpa using f0
    clear hR HE e2 ff h
    go_enter Tryz.func49, Tryz.ntmps49
    go_wp2_with (go_at_call 37; refine still q ?_)
    go_ret
    exact ⟨by rw [HE'.out]; rfl, SM.out⟩
end Go.Proofs.YtlhnjloimhcpfabGreatDoor
namespace Go.Proofs.YtlhnjloimhcpfabGreatDoor
open Go.RowKit Go.Maps

theorem asked_two (w : World) (k t : Vf.Bs) (hk : k.length ≤ 1000000) (ht : t.length ≤ 1000000) : Asked (w.alloc (.cells #[str k, str t] 9)) (.slice (some ⟨w.heap.size, 0, none⟩) 2 2) [k, t] := by
  refine ⟨⟨_, 2, rfl, fun j hj => ⟨w.heap.size, 0, rfl, ?_⟩⟩, fun x hx => ?_, by simp⟩
  · rw [Joins.cell_of_block (new_block w _)]
    match j, hj with
    | 0, _ => rfl
    | 1, _ => rfl
  · simp at hx
    rcases hx with rfl | rfl
    · exact hk
    · exact ht

set_option maxHeartbeats 400000 in
theorem rename_any (w : World) (b : Nat) (σ : Vf.St) (S : Nat → Prop) (h : Rep w b σ S) (r : Ready σ) (k t : Vf.Bs) (hk : k.length ≤ 1000000) (ht : t.length ≤ 1000000) (E : Int) (HE : Hid (E = Vf.renameE σ k t)) :
    Calls Tryz.prog 50 #[.pointer (some ⟨b, 0, none⟩), str k, str t] w fun e w' => e = .returned (.int .i64 E) ∧ Rep w' b (Vf.rename σ k t) (grow S w w') ∧ Moved S w w' := by
  obtain ⟨bf, bh, bd, pv, fs, sl, hr⟩ := h
  have h1 := hr.alloc (.cells #[str k, str t] 9)
  obtain ⟨R, hR⟩ : ∃ R, R = Vf.refuse σ [k, t] := ⟨_, rfl⟩
  have q1 := refused_some _ b bf σ.on _ [k, t] h1.cells.2.2.2.2.2.1 h1.cells.2.2.1 (asked_two w k t hk ht) R (by show _ = _; rw [hR]; rfl)
  obtain ⟨F, hF⟩ : ∃ F, F = Vf.findE σ k := ⟨_, rfl⟩
  obtain ⟨N, hN⟩ : ∃ N, N = if Vf.findE σ k = 0 then Vf.num σ.held k else 0 := ⟨_, rfl⟩
  have q := find_some _ b bf bh bd pv fs sl σ S h1 k hk F hF N hN
  have B1 : Below w.heap.size w ((w.alloc (.cells #[str k, str t] 9)).alloc (.cells #[str k] 9)) := ((Below.refl _ _).alloc (Nat.le_refl _) _).alloc (by simp) _
  by_cases r0 : R = 0
  · have rr : Vf.refuse σ [k, t] = 0 := by rw [← hR, r0]
    by_cases f0 : F = 0
    · have ff : Vf.findE σ k = 0 := by rw [← hF, f0]
      have HE' : Hid (E = Vf.doE σ) := by show _ = _; rw [HE.out]; unfold Vf.renameE; rw [if_pos rr, if_pos ff]
      have e2 : Vf.rename σ k t = Vf.doSt σ ⟨2, 0, 0, k, t⟩ [] := by unfold Vf.rename; rw [if_pos (.inr ⟨rr, ff⟩)]
      have DO : Hid (∀ wx, Below w.heap.size w wx → Calls Tryz.prog 51 #[.pointer (some ⟨b, 0, none⟩), .agg #[.int .i64 2, .int .i64 0, .int .i64 0, str k, str t], .slice none 0 0] wx fun e w' => e = .returned (.int .i64 E) ∧ Rep w' b (Vf.rename σ k t) (grow S w w') ∧ Moved S w w') := fun wx hb => by
        refine (do_any wx b σ S (Rep.later ⟨bf, bh, bd, pv, fs, sl, hr⟩ hb) r ⟨2, 0, 0, k, t⟩ (step_ok (by omega) (by omega) hk ht) (by simp) (.slice none 0 0)).mono ?_
        rintro e w' ⟨rfl, r1, m1⟩
        rw [e2]
        exact ⟨by rw [HE'.out], Rep.after hb r1 m1⟩
      have CL : Hid (∀ wx x, x.length ≤ 1000000 → Calls Tryz.prog 52 #[str x] wx fun e w' => e = .returned (str x) ∧ Below wx.heap.size wx w') := clone_any
      have B2 : Hid _ := B1
      subst r0
      subst f0
      clear hF hN hR HE e2 hr HE' rr ff h1 B1
      go_enter Tryz.func50, Tryz.ntmps50
      go_wp2_with (first
        | (go_at_call 37; refine still q1 ?_)
        | (go_at_call 23; refine still2 q ?_)
        | (go_at_call 52; have tk := B2; refine (CL.out _ k hk).mono ?_; rintro e w2 ⟨rfl, b2⟩; have B3 : Below w.heap.size w w2 := B2.out.trans (b2.mono B2.out.size); clear tk B2)
        | (go_at_call 52; refine (CL.out _ t ht).mono ?_; rintro e w4 ⟨rfl, b4⟩; have B5 : Below w.heap.size w w4 := B3.trans (b4.mono B3.size))
        | (go_at_call 51; refine (DO.out _ B5).mono ?_; rintro e w3 ⟨rfl, r3, m3⟩))
      go_ret
      exact ⟨rfl, r3, m3⟩
    · have ff : ¬ Vf.findE σ k = 0 := by rw [← hF]; exact f0
      have HE' : Hid (E = F) := by show _ = _; rw [HE.out]; unfold Vf.renameE; rw [if_pos rr, if_neg ff, hF]
      have ne : ¬ Vf.renameE σ k t = 0 := by rw [← HE.out, HE'.out]; exact f0
      have e2 : Vf.rename σ k t = σ := by unfold Vf.rename; rw [if_neg (fun h => by rcases h with h | h; exact ne h; exact ff h.2)]
      have SM : Hid _ := (⟨Rep.grow1 ⟨bf, bh, bd, pv, fs, sl, h1.alloc _⟩, Moved.below B1⟩ : Rep ((w.alloc (.cells #[str k, str t] 9)).alloc (.cells #[str k] 9)) b σ (grow S w ((w.alloc (.cells #[str k, str t] 9)).alloc (.cells #[str k] 9))) ∧ Moved S w ((w.alloc (.cells #[str k, str t] 9)).alloc (.cells #[str k] 9)))
      rw [e2]
      have b0 : (F != 0) = true := by simpa using f0
      subst r0
      clear hF hN hR HE e2 B1 hr ff rr h1 ne
      go_enter Tryz.func50, Tryz.ntmps50
      go_wp2_with (first
        | (go_at_call 37; refine still q1 ?_)
        | (go_at_call 23; refine still2 q ?_))
      go_ret
      exact ⟨by rw [HE'.out]; rfl, SM.out⟩
  · have rr : ¬ Vf.refuse σ [k, t] = 0 := by rw [← hR]; exact r0
    have HE' : Hid (E = R) := by show _ = _; rw [HE.out]; unfold Vf.renameE; rw [if_neg rr, hR]
    have ne : ¬ Vf.renameE σ k t = 0 := by rw [← HE.out, HE'.out]; exact r0
    have e2 : Vf.rename σ k t = σ := by unfold Vf.rename; rw [if_neg (fun h => by rcases h with h | h; exact ne h; exact rr h.1)]
    have SM : Hid _ := (⟨Rep.grow1 ⟨bf, bh, bd, pv, fs, sl, h1⟩, (Moved.refl S w).alloc _⟩ : Rep (w.alloc (.cells #[str k, str t] 9)) b σ (grow S w (w.alloc (.cells #[str k, str t] 9))) ∧ Moved S w (w.alloc (.cells #[str k, str t] 9)))
    rw [e2]
    have b0 : (R != 0) = true := by simpa using r0
    clear hF hN hR HE e2 B1 hr rr h1 ne q
    go_enter Tryz.func50, Tryz.ntmps50
    go_wp2_with (go_at_call 37; refine still q1 ?_)
    go_ret
    exact ⟨by rw [HE'.out]; rfl, SM.out⟩

theorem left_any (w : World) (b : Nat) (σ : Vf.St) (S : Nat → Prop) (h : Rep w b σ S) (hu : -1000000000000000000 ≤ σ.used ∧ σ.used ≤ 1000000000000000000) (hm : σ.room ≤ 1073741824) (E : Int) (HE : Hid (E = Vf.left σ)) :
    Calls Tryz.prog 32 #[.pointer (some ⟨b, 0, none⟩)] w fun e w' => e = .returned (.int .i64 E) ∧ Below w.heap.size w w' := by
  obtain ⟨R, hR⟩ : ∃ R, R = Vf.refuse σ [] := ⟨_, rfl⟩
  have q := refused_rep w b σ S h R hR
  obtain ⟨bf, bh, bd, pv, fs, sl, hr⟩ := h
  have c0 := hr.cells.1
  have c1 := hr.cells.2.1
  cases ho : σ.on with
  | true =>
    have r0 : R = 0 := by rw [hR]; unfold Vf.refuse; rw [ho]; rfl
    have HE' : Hid (E = (σ.room : Int) - σ.used) := by show _ = _; rw [HE.out]; unfold Vf.left; rw [ho]; rfl
    obtain ⟨U, hU⟩ : ∃ U, U = σ.used := ⟨_, rfl⟩
    obtain ⟨M, hM⟩ : ∃ M, M = σ.room := ⟨_, rfl⟩
    rw [← hU] at c1 hu HE'
    rw [← hM] at c0 hm HE'
    obtain ⟨u1, u2⟩ := hu
    subst r0
    clear hR HE hr ho hU hM
    go_enter Tryz.func32, Tryz.ntmps32
    go_wp2_with (go_at_call 37; refine still q ?_)
    go_region
    go_wp2_with (fail)
    go_ret
    exact ⟨by rw [HE'.out]; rfl, (Below.refl _ _).drew⟩
  | false =>
    have r7 : R = 7 := by rw [hR]; unfold Vf.refuse; rw [ho]; rfl
    have HE' : Hid (E = 0) := by show _ = _; rw [HE.out]; unfold Vf.left; rw [ho]; rfl
    subst r7
    clear hR HE hr ho
    go_enter Tryz.func32, Tryz.ntmps32
    go_wp2_with (go_at_call 37; refine still q ?_)
    go_ret
    exact ⟨by rw [HE'.out]; rfl, Below.refl _ _⟩

theorem made_rep (w : World) (b : Nat) (σ : Vf.St) (S : Nat → Prop) (h : Rep w b σ S) : Calls Tryz.prog 34 #[.pointer (some ⟨b, 0, none⟩)] w fun e w' => e = .returned (.bool true) ∧ w' = w := by
  obtain ⟨bf, bh, bd, pv, fs, sl, hr⟩ := h
  exact made_some w b bf hr.cells.2.2.2.2.2.1
theorem on_any (w : World) (b : Nat) (σ : Vf.St) (S : Nat → Prop) (h : Rep w b σ S) : Calls Tryz.prog 27 #[.pointer (some ⟨b, 0, none⟩)] w fun e w' => e = .returned (.bool σ.on) ∧ w' = w := by
  have q := made_rep w b σ S h
  obtain ⟨bf, bh, bd, pv, fs, sl, hr⟩ := h
  have c2 := hr.cells.2.2.1
  clear hr
  go_enter Tryz.func27, Tryz.ntmps27
  go_wp2_with (go_at_call 34; refine still q ?_)
  go_ret
  exact ⟨rfl, rfl⟩
end Go.Proofs.YtlhnjloimhcpfabGreatDoor
namespace Go.Proofs.YtlhnjloimhcpfabGreatDoor
open Go.RowKit Go.Maps

theorem new_bad (w : World) (room : Int) (h : room < 0 ∨ room > 1073741824) : Calls Tryz.prog 5 #[.int .i64 room] w fun e w' => e = .returned (.tuple #[.pointer none, .int .i64 2]) ∧ w' = w := by
  by_cases h1 : room < 0
  · go_enter Tryz.func5, Tryz.ntmps5
    go_wp2
    go_ret2
    exact ⟨rfl, rfl⟩
  · have h2 : room > 1073741824 := by omega
    go_enter Tryz.func5, Tryz.ntmps5
    go_wp2
    go_ret2
    exact ⟨rfl, rfl⟩

theorem new_any (w : World) (room : Nat) (h : room ≤ 1073741824) : Calls Tryz.prog 5 #[.int .i64 (room : Int)] w fun e w' => e = .returned (.tuple #[.pointer (some ⟨w.heap.size + 3, 0, none⟩), .int .i64 0]) ∧ Rep w' (w.heap.size + 3) (Vf.new room) (fun i => w.heap.size ≤ i ∧ i < w'.heap.size) ∧ Below w.heap.size w w' := by
  have h1 : ¬ (room : Int) < 0 := by omega
  have h2 : ¬ (room : Int) > 1073741824 := by omega
  have hmm := @run_makeMap Tryz.prog
  have FIN : Hid (Rep ((((w.alloc (.map #[] 0)).alloc (.map #[] 0)).alloc (.map #[] 0)).alloc (.cells #[.int .i64 (room : Int), .int .i64 0, .bool true, .int .i64 (-1), .int .i64 0, .map (some w.heap.size), .map (some (w.heap.size + 1)), .map (some (w.heap.size + 1 + 1)), .slice none 0 0] 59)) (w.heap.size + 3) (Vf.new room) (fun i => w.heap.size ≤ i ∧ i < ((((w.alloc (.map #[] 0)).alloc (.map #[] 0)).alloc (.map #[] 0)).alloc (.cells #[.int .i64 (room : Int), .int .i64 0, .bool true, .int .i64 (-1), .int .i64 0, .map (some w.heap.size), .map (some (w.heap.size + 1)), .map (some (w.heap.size + 1 + 1)), .slice none 0 0] 59)).heap.size)) := by
    generalize hC : Obj.cells #[.int .i64 (room : Int), .int .i64 0, .bool true, .int .i64 (-1), .int .i64 0, .map (some w.heap.size), .map (some (w.heap.size + 1)), .map (some (w.heap.size + 1 + 1)), .slice none 0 0] 59 = C
    have z : ((((w.alloc (.map #[] 0)).alloc (.map #[] 0)).alloc (.map #[] 0)).alloc C).heap.size = w.heap.size + 4 := by simp
    have p1 : PtrsAt ((((w.alloc (.map #[] 0)).alloc (.map #[] 0)).alloc (.map #[] 0)).alloc C) w.heap.size 0 (fun _ => none) := (PtrsAt.made w).same (((Below.heap_alloc _ C _ (by simp; omega)).trans (Below.heap_alloc _ _ _ (by simp; omega))).trans (Below.heap_alloc _ _ _ (by simp)))
    have p2 : NamesAt ((((w.alloc (.map #[] 0)).alloc (.map #[] 0)).alloc (.map #[] 0)).alloc C) (w.heap.size + 1) [] := by
      have := NamesAt.made (w.alloc (.map #[] 0))
      rw [World.size_alloc] at this
      exact this.same ((Below.heap_alloc _ C _ (by simp)).trans (Below.heap_alloc _ _ _ (by simp)))
    have p3 : NamesAt ((((w.alloc (.map #[] 0)).alloc (.map #[] 0)).alloc (.map #[] 0)).alloc C) (w.heap.size + 2) [] := by
      have := NamesAt.made ((w.alloc (.map #[] 0)).alloc (.map #[] 0))
      rw [World.size_alloc, World.size_alloc] at this
      exact this.same (Below.heap_alloc _ C _ (by simp))
    have p4 : ((((w.alloc (.map #[] 0)).alloc (.map #[] 0)).alloc (.map #[] 0)).alloc C).heap[w.heap.size + 3]? = some C := by
      have := new_block (((w.alloc (.map #[] 0)).alloc (.map #[] 0)).alloc (.map #[] 0)) C
      rw [World.size_alloc, World.size_alloc, World.size_alloc] at this
      exact this
    refine ⟨w.heap.size, w.heap.size + 1, w.heap.size + 2, .slice none 0 0, fun _ => none, fun _ => .slice none 0 0, ⟨?_, p1, p2, p3, World.ownsRow_nil _ _ _ _, fun n => rfl, (fun n g x hn => by cases hn), (fun n n' g hn => by cases hn), (fun n n' g hn => absurd rfl hn), (by omega), (by omega), (by omega), ⟨by omega, by omega⟩, ⟨by omega, by omega⟩, ⟨by omega, by omega⟩, ⟨by omega, by omega⟩, (fun g hg => by cases hg), (fun n g hn => by cases hn), (fun n g hn => absurd rfl hn), (fun i hi => hi.2)⟩⟩
    rw [p4, ← hC]
    rfl
  go_enter Tryz.func5, Tryz.ntmps5
  go_wp2
  go_ret2
  exact ⟨rfl, FIN.out, ((((Below.refl _ _).alloc (Nat.le_refl _) _).alloc (by simp) _).alloc (by simp; omega) _).alloc (by simp; omega) _⟩

/-- A copy of bytes that a file has. -/
theorem clone_bytes (w : World) (v : Value) (l : List UInt8) (h : w.ownsRow 0 5 1 v l.length (bc l)) (hl : l.length ≤ 140737488355328) :
    Calls Tryz.prog 24 #[v] w fun e w' => ∃ v', e = .returned v' ∧ w'.ownsRow w.heap.size 5 1 v' l.length (bc l) ∧ Below w.heap.size w w' := by
  rcases h.2 with ⟨rfl, h0⟩ | ⟨g, cap, cur, hv, _⟩
  · refine (Tryz.bytes_Clone_nil 0 0 w).mono ?_
    rintro e w' ⟨rfl, rfl⟩
    have : l = [] := List.eq_nil_of_length_eq_zero h0
    subst this
    exact ⟨_, rfl, World.ownsRow_nil _ _ _ _, Below.refl _ _⟩
  · have ho := h
    subst hv
    have hxs : (l.map fun c => (c.toNat : Int)).map (Value.int .u8) = bc l := by unfold bc; rw [List.map_map]; rfl
    refine (Tryz.bytes_Clone_at ⟨g, 0, none⟩ l.length cap (l.map fun c => (c.toNat : Int)) w (by simp) hl ?_).mono ?_
    · intro i hi
      have e1 := own_cells ho i (.int .u8 (l[i].toNat : Int)) (bc_get l i hi)
      rw [e1]
      simp [hi]
    · rintro e w' ⟨v', rfl, o, _, hb⟩
      rw [hxs] at o
      exact ⟨v', rfl, o, hb⟩

set_option maxHeartbeats 400000 in
theorem read_any (w : World) (b : Nat) (σ : Vf.St) (S : Nat → Prop) (h : Rep w b σ S) (r : Ready σ) (k : Vf.Bs) (hk : k.length ≤ 1000000) (E : Int) (HE : Hid (E = Vf.findE σ k)) :
    Calls Tryz.prog 7 #[.pointer (some ⟨b, 0, none⟩), str k] w fun e w' => ∃ v', e = .returned (.tuple #[v', .int .i64 E]) ∧ w'.ownsRow w.heap.size 5 1 v' (Vf.read σ k).length (bc (Vf.read σ k)) ∧ Below w.heap.size w w' := by
  obtain ⟨bf, bh, bd, pv, fs, sl, hr⟩ := h
  obtain ⟨N, hN⟩ : ∃ N, N = if Vf.findE σ k = 0 then Vf.num σ.held k else 0 := ⟨_, rfl⟩
  have q := find_some w b bf bh bd pv fs sl σ S hr k hk E HE N hN
  have B1 : Below w.heap.size w (w.alloc (.cells #[str k] 9)) := (Below.refl _ _).alloc (Nat.le_refl _) _
  have h1 := hr.alloc (.cells #[str k] 9)
  by_cases f0 : E = 0
  · have ff : Vf.findE σ k = 0 := by rw [← HE.out, f0]
    have n0 : N = Vf.num σ.held k := by rw [hN, if_pos ff]
    have hlk : (Vf.look σ.held k).isSome = true := by
      cases e : (Vf.look σ.held k).isSome with
      | true => rfl
      | false =>
        unfold Vf.findE at ff
        split at ff
        · rw [e] at ff; cases ff
        · rename_i hh; exact absurd ff hh
    obtain ⟨m, hm⟩ := Option.isSome_iff_exists.1 hlk
    have nm : N = m := by rw [n0]; unfold Vf.num; rw [hm]; rfl
    obtain ⟨x, hx⟩ := r.heldIn k m hm
    rw [← nm] at hx
    obtain ⟨g, hg⟩ : ∃ g, fs N = some g := by have := hr.dom N; rw [hx] at this; exact Option.isSome_iff_exists.1 this
    have e2 : Vf.read σ k = x.bytes := by unfold Vf.read Vf.bytesOf; rw [if_pos ff, ← n0, hx]
    rw [e2]
    have c5 := h1.cells.2.2.2.2.2.1
    have nle : N ≤ 1000000000 := by rw [n0]; exact r.heldV k
    have L := h1.files.look N (by omega)
    rw [ptr_some hg] at L
    have d0 := file_cell h1 hg hx
    have CB := clone_bytes _ (sl N) x.bytes (h1.file N g x hg hx).2 (by have := r.bytes N x hx; omega)
    have B2 : Hid _ := B1
    subst f0
    clear hN HE ff n0 hlk hm nm hx hg e2 h1 hr B1
    go_enter Tryz.func7, Tryz.ntmps7
    go_wp2_with (first
      | (go_at_call 23; refine still2 q ?_)
      | (go_at_call 24; refine CB.mono ?_; rintro e w3 ⟨v3, rfl, o3, b3⟩))
    go_ret2
    exact ⟨v3, rfl, own_base o3 B2.out.size, B2.out.trans (b3.mono B2.out.size)⟩
  · have ff : ¬ Vf.findE σ k = 0 := by rw [← HE.out]; exact f0
    have e2 : Vf.read σ k = [] := by unfold Vf.read; rw [if_neg ff]
    rw [e2]
    have b0 : (E != 0) = true := by simpa using f0
    have B2 : Hid _ := B1
    clear hN HE ff e2 h1 hr B1
    go_enter Tryz.func7, Tryz.ntmps7
    go_wp2_with (go_at_call 23; refine still2 q ?_)
    go_ret2
    exact ⟨_, rfl, World.ownsRow_nil _ _ _ _, B2.out⟩
end Go.Proofs.YtlhnjloimhcpfabGreatDoor
namespace Go.Proofs.YtlhnjloimhcpfabGreatDoor
open Go.RowKit Go.Maps Go.Sort Go.Shelf

/-- Names in their order. -/
def rising (l : List Vf.Bs) : List Vf.Bs := l.mergeSort fun x y => decide (x ≤ y)

theorem sorts_any (m : Nat) : AnyZ.SortsIn Tryz.prog Tryz.sortedM_ren Fence.wide m :=
  ⟨fun blk off cap ss W hH hblk hsz => callsIn_wide.2 (AnyM.slices_Sort_string Tryz.sortM blk off cap ss W hH hblk hsz), fun p cap W => callsIn_wide.2 (AnyM.slices_Sort_string_none Tryz.sortM p cap W)⟩
theorem keys_any (mb : Option Nat) (W : World) : Calls Tryz.prog 39 #[.map mb] W fun e w' => e = .returned (.func (.func 65) #[] #[.pointer (some ⟨W.heap.size, 0, none⟩)]) ∧ w' = W.alloc (.cells #[.map mb] 56) :=
  (callsIn_wide (n := 5)).1 (AnyZ.keys_in Tryz.keysM Fence.wide 5 trivial rfl mb W)

set_option maxHeartbeats 1000000 in
theorem sorted_any (b : Nat) (m : Vf.Nm) (w : World) (h : NamesAt w b m) (hm : m.length ≤ 1000000000) :
    Calls Tryz.prog 38 #[.func (.func 65) #[] #[.pointer (some ⟨w.heap.size, 0, none⟩)]] (w.alloc (.cells #[.map (some b)] 56)) fun e w' => ∃ v, e = .returned v ∧ w'.ownsRow w.heap.size 9 1 v (rising (m.map (·.1))).length ((rising (m.map (·.1))).map str) ∧ Below w.heap.size w w' := by
  obtain ⟨D, hown, hD⟩ := h
  have hbl := hown.lt
  have hs : Maps.size D ≤ 1000000000 := by rw [hD.size]; exact hm
  have hseq : SeqGives Fence.wide 2 Tryz.prog 65 #[.pointer (some ⟨w.heap.size, 0, none⟩)] encStr (fun ss => ss.Perm (strKeys D)) (Maps.size D) (w.alloc (.cells #[.map (some b)] 56)) :=
    AnyZ.keys_gives (ρ := Tryz.keysM_ren) { Tryz.keysM with } Fence.wide _ trivial rfl (by omega) w.heap.size b m.length D _ (by simp) (by simp) (by
      obtain ⟨es, clock, hb, Ft, hs, hD⟩ := hown
      exact ⟨es, clock, (Below.heap_alloc _ _ b hbl).trans hb, Ft, hs, hD⟩)
  have hperm : (m.map (·.1)).Perm (strKeys D) := by
    refine Collected.perm (left := fun _ => false) ?_ hown lawS Tryz.underlying9 (fun _ => rfl)
    refine ⟨hD.nodup, fun x => ?_⟩
    rw [hD.hs x]
    have := Vf.look_none m x
    cases e : Vf.look m x with
    | none => rw [e] at this; simp only [true_iff] at this; simp only [Option.isSome_none, Bool.false_eq_true, false_and, iff_false]; exact this
    | some n => rw [e] at this; simp only [reduceCtorEq, false_iff, Classical.not_not] at this; simp only [Option.isSome_some, true_and, iff_true]; exact this
  have c := AnyZ.sorted_in Tryz.sortedM Fence.wide 5 trivial trivial trivial trivial rfl (by omega) (sorts_any _) (enters_of Tryz.func64 (by kernel_rfl) rfl) 65 #[.pointer (some ⟨w.heap.size, 0, none⟩)] trivial (enters_of Tryz.func65 (by kernel_rfl) rfl) _ _ (by unfold maxLen; omega) (by omega) _ hseq
  refine ((callsIn_wide (n := 5)).1 c).mono ?_
  rintro e w' ⟨v, ss, rfl, hS, hrow, hnil, hb⟩
  have B0 : Below w.heap.size w (w.alloc (.cells #[.map (some b)] 56)) := (Below.refl _ _).alloc (Nat.le_refl _) _
  have hl : ss.length = (rising (m.map (·.1))).length := by rw [rising, List.length_mergeSort]; exact (hS.trans hperm.symm).length_eq
  have he : ss.mergeSort (fun x y => decide (x ≤ y)) = rising (m.map (·.1)) := mergeSort_of_perm (hS.trans hperm.symm)
  rw [he, hl] at hrow
  refine ⟨v, rfl, ?_, B0.trans (hb.mono B0.size)⟩
  refine ⟨hrow.1, ?_⟩
  rcases hrow.2 with h' | ⟨g, cap, cur, e, h1, h2⟩
  · exact .inl h'
  · exact .inr ⟨g, cap, cur, e, Nat.le_trans B0.size h1, h2⟩

set_option maxHeartbeats 400000 in
theorem names_any (w : World) (b : Nat) (σ : Vf.St) (S : Nat → Prop) (h : Rep w b σ S) (hm : σ.held.length ≤ 1000000000) (L : List Vf.Bs) (HL : Hid (L = if σ.on then rising (σ.held.map (·.1)) else [])) :
    Calls Tryz.prog 17 #[.pointer (some ⟨b, 0, none⟩)] w fun e w' => ∃ v, e = .returned v ∧ w'.ownsRow w.heap.size 9 1 v L.length (L.map str) ∧ Below w.heap.size w w' := by
  obtain ⟨R, hR⟩ : ∃ R, R = Vf.refuse σ [] := ⟨_, rfl⟩
  have q := refused_rep w b σ S h R hR
  obtain ⟨bf, bh, bd, pv, fs, sl, hr⟩ := h
  cases ho : σ.on with
  | true =>
    have r0 : R = 0 := by rw [hR]; unfold Vf.refuse; rw [ho]; rfl
    have HL' : Hid (rising (σ.held.map (·.1)) = L) := by show _ = _; rw [HL.out, ho]; rfl
    have c6 := hr.cells.2.2.2.2.2.2.1
    have KY := keys_any (some bh) w
    have SO := sorted_any bh σ.held w hr.held hm
    rw [HL'.out] at SO
    subst r0
    clear hR HL hr ho HL' hm
    go_enter Tryz.func17, Tryz.ntmps17
    go_wp2_with (first
      | (go_at_call 37; refine still q ?_)
      | (go_at_call 39; refine still2 KY ?_)
      | (go_at_call 38; refine SO.mono ?_; rintro e w3 ⟨v3, rfl, o3, b3⟩))
    go_ret
    exact ⟨v3, rfl, o3, b3⟩
  | false =>
    have r7 : R = 7 := by rw [hR]; unfold Vf.refuse; rw [ho]; rfl
    have HL' : Hid (L = []) := by show _ = _; rw [HL.out, ho]; rfl
    subst r7
    clear hR HL hr ho
    go_enter Tryz.func17, Tryz.ntmps17
    go_wp2_with (go_at_call 37; refine still q ?_)
    go_ret
    exact ⟨_, rfl, by rw [HL'.out]; exact World.ownsRow_nil _ _ _ _, Below.refl _ _⟩
end Go.Proofs.YtlhnjloimhcpfabGreatDoor
namespace Go.Proofs.YtlhnjloimhcpfabGreatDoor
open Go.RowKit Go.Maps Go.Sort

theorem run_makeMap_hint (w : World) (n : Nat) : (Instr.makeMap 55 (some (.int .i64 (n : Int)))).run Tryz.prog w = .ok (.map (some w.heap.size)) (w.alloc (.map #[] 0)) := by
  simp [Instr.makeMap]
  rfl

section
variable {w w1 : World} {b bf bh bd : Nat} {pv : Value} {fs : Nat → Option Nat} {sl : Nat → Value} {σ : Vf.St} {S : Nat → Prop}
/-- The held names are told anew. -/
theorem RepAt.swapHeld (h : RepAt w b bf bh bd pv fs sl σ S) (hb : Below w.heap.size w w1) {h2 : Nat} (hz : w.heap.size ≤ h2) (M : Vf.Nm) (hM : NamesAt w1 h2 M) :
    RepAt (w1.setCell ⟨b, 6, none⟩ (.map (some h2))) b bf h2 bd pv fs sl { σ with held := M } (fun i => S i ∨ i = h2) := by
  have h1 := h.later hb
  have ho := only_setCell w1 ⟨b, 6, none⟩ (.map (some h2))
  have lf := h.files.lt
  have ld := h.dur.lt
  refine ⟨by rw [Joins.block_setCell h1.blk]; rfl, h1.files.same (ho.2 _ h1.files.lt (ne_kind h1.files.kind h1.kb (by simp))), hM.same (ho.2 _ hM.lt (ne_kind hM.kind h1.kb (by simp))), h1.dur.same (ho.2 _ h1.dur.lt (ne_kind h1.dur.kind h1.kb (by simp))),
    ownsRow_same h1.pend fun g hg => ho.2 g (h1.low _ (h1.sp g hg)) (ne_kind (h1.kp hg) h1.kb (by decide)), h1.dom,
    fun n g x hn hx => ?_, h1.inj, h1.rows, by omega, h1.fd, by omega, .inl h1.sb, .inl h1.sf, .inr rfl, .inl h1.sd, fun g hg => .inl (h1.sp g hg), fun n g hn => .inl (h1.sg n g hn), fun n g h2 h3 => .inl (h1.sr n g h2 h3), fun i hi => ?_⟩
  · refine ⟨(ho.2 g (h1.low _ (h1.sg n g hn)) (ne_kind (h1.kg hn) h1.kb (by decide))).trans (h1.file n g x hn hx).1, ownsRow_same (h1.file n g x hn hx).2 fun r hr => ?_⟩
    have hne : fs n ≠ none := by rw [hn]; simp
    exact ho.2 r (h1.low _ (h1.sr n r hne hr)) (ne_kind (h1.kr hne hr) h1.kb (by decide))
  · have e : (w1.setCell ⟨b, 6, none⟩ (.map (some h2))).heap.size = w1.heap.size := by simp [World.setCell]
    rw [e]
    rcases hi with hi | hi
    · exact h1.low i hi
    · rw [hi]; exact hM.lt

/-- The files are told anew: fewer of them. -/
theorem RepAt.swapFiles (h : RepAt w b bf bh bd pv fs sl σ S) {bn : Nat} (fn : Nat → Option Nat) (hF : PtrsAt w bn σ.steps fn) (hb : ¬ S bn) (hs : ∀ n g, fn n = some g → fs n = some g) (F : Nat → Option Vf.File) (hd : ∀ n, (fn n).isSome = (F n).isSome) (hx : ∀ n x, F n = some x → σ.files n = some x) :
    RepAt (w.setCell ⟨b, 5, none⟩ (.map (some bn))) b bn bh bd pv fn sl { σ with files := F } (fun i => S i ∨ i = bn) := by
  have ho := only_setCell w ⟨b, 5, none⟩ (.map (some bn))
  have hs' : ∀ n, fn n ≠ none → fs n ≠ none := fun n hn => by
    obtain ⟨g, hg⟩ := Option.ne_none_iff_exists'.1 hn
    rw [hs n g hg]; simp
  refine ⟨by rw [Joins.block_setCell h.blk]; rfl, hF.same (ho.2 _ hF.lt (ne_kind hF.kind h.kb (by simp))), h.held.same (ho.2 _ h.held.lt (ne_kind h.held.kind h.kb (by simp))), h.dur.same (ho.2 _ h.dur.lt (ne_kind h.dur.kind h.kb (by simp))),
    ownsRow_same h.pend fun g hg => ho.2 g (h.low _ (h.sp g hg)) (ne_kind (h.kp hg) h.kb (by decide)), hd,
    fun n g x hn hy => ?_, fun n n' g h1 h2 => h.inj n n' g (hs _ _ h1) (hs _ _ h2), fun n n' g h1 h2 => h.rows n n' g (hs' _ h1) (hs' _ h2), fun e => hb (by rw [e]; exact h.sh), fun e => hb (by rw [e]; exact h.sd), h.hd, .inl h.sb, .inr rfl, .inl h.sh, .inl h.sd, fun g hg => .inl (h.sp g hg), fun n g hn => .inl (h.sg n g (hs _ _ hn)), fun n g h1 h2 => .inl (h.sr n g (hs' _ h1) h2), fun i hi => ?_⟩
  · have hn' := hs n g hn
    have hy' := hx n x hy
    refine ⟨(ho.2 g (h.low _ (h.sg n g hn')) (ne_kind (h.kg hn') h.kb (by decide))).trans (h.file n g x hn' hy').1, ownsRow_same (h.file n g x hn' hy').2 fun r hr => ?_⟩
    have hne : fs n ≠ none := by rw [hn']; simp
    exact ho.2 r (h.low _ (h.sr n r hne hr)) (ne_kind (h.kr hne hr) h.kb (by decide))
  · have e : (w.setCell ⟨b, 5, none⟩ (.map (some bn))).heap.size = w.heap.size := by simp [World.setCell]
    rw [e]
    rcases hi with hi | hi
    · exact h.low i hi
    · rw [hi]; exact hF.lt
end

/-- The state behind some names. -/
def cutF (M : Vf.Nm) (F : Nat → Option Vf.File) (ss : List Vf.Bs) : Nat → Option Vf.File := fun n => if n ∈ ss.map (Vf.num M) then (F n).map (fun x => { x with bytes := x.bytes.take x.synced }) else F n
def synOf (F : Nat → Option Vf.File) (n : Nat) : Nat := match F n with | none => 0 | some x => x.synced
def cutU (M : Vf.Nm) (F : Nat → Option Vf.File) (ss : List Vf.Bs) : Nat := (ss.map fun k => synOf F (Vf.num M k)).sum
def onlyG (M : Vf.Nm) (fs : Nat → Option Nat) (ss : List Vf.Bs) : Nat → Option Nat := fun n => if n ∈ ss.map (Vf.num M) then fs n else none

theorem cutF_step {M : Vf.Nm} {F : Nat → Option Vf.File} {ss : List Vf.Bs} {k : Vf.Bs} {x : Vf.File} (hx : F (Vf.num M k) = some x) : cutF M F (ss ++ [k]) = Vf.setF (cutF M F ss) (Vf.num M k) (some { x with bytes := x.bytes.take x.synced }) := by
  funext n
  unfold cutF Vf.setF
  simp only [List.map_append, List.map_cons, List.map_nil, List.mem_append, List.mem_singleton]
  by_cases e : n = Vf.num M k
  · subst e; simp [hx]
  · simp [e]
theorem cutU_step (M : Vf.Nm) (F : Nat → Option Vf.File) (ss : List Vf.Bs) (k : Vf.Bs) : cutU M F (ss ++ [k]) = cutU M F ss + synOf F (Vf.num M k) := by simp [cutU]
theorem onlyG_step {M : Vf.Nm} {fs : Nat → Option Nat} {ss : List Vf.Bs} {k : Vf.Bs} {g : Nat} (hg : fs (Vf.num M k) = some g) : onlyG M fs (ss ++ [k]) = setG (onlyG M fs ss) (Vf.num M k) (some g) := by
  funext n
  unfold onlyG setG
  simp only [List.map_append, List.map_cons, List.map_nil, List.mem_append, List.mem_singleton]
  by_cases e : n = Vf.num M k
  · subst e; simp [hg]
  · simp [e]
end Go.Proofs.YtlhnjloimhcpfabGreatDoor
namespace Go.Proofs.YtlhnjloimhcpfabGreatDoor
open Go.RowKit Go.Maps Go.Sort

structure ForgetOk (σ : Vf.St) : Prop where
  few : σ.durable.length ≤ 100000000
  nums : ∀ k, Vf.num σ.durable k ≤ 1000000000
  files : ∀ k n, Vf.look σ.durable k = some n → ∃ x, σ.files n = some x ∧ x.synced ≤ x.bytes.length ∧ x.synced ≤ 10000000000
  one : ∀ k k' n, Vf.look σ.durable k = some n → Vf.look σ.durable k' = some n → k = k'
  few2 : σ.durable.length ≤ σ.steps

theorem grown_setCell (w : World) (a : Addr) (u : Value) : w.grownBy (w.setCell a u) (some a.block) := ⟨rfl, rfl, rfl, by simp [World.setCell], fun k _ hk => Below.heap_setCell _ _ _ _ (fun e => hk (by rw [e]))⟩

theorem row_cut {w : World} {v : Value} {l : Vf.Bs} {k : Nat} (h : w.ownsRow 0 5 1 v l.length (bc l)) (hk : k ≤ l.length) : ∃ a c, v = .slice a l.length c ∧ l.length ≤ c ∧ (a = none → l = [] ∧ c = 0) ∧ w.ownsRow 0 5 1 (.slice a k c) k (bc (l.take k)) := by
  rcases h.2 with ⟨rfl, h0⟩ | ⟨g, cap, cur, rfl, _, _, hnc, _⟩
  · have e : l = [] := List.eq_nil_of_length_eq_zero h0
    subst e
    have e : k = 0 := by simpa using hk
    subst e
    exact ⟨none, 0, rfl, Nat.le_refl _, fun _ => ⟨rfl, rfl⟩, World.ownsRow_nil _ _ _ _⟩
  · refine ⟨_, cap, rfl, hnc, (fun e => by cases e), ?_⟩
    have h' : w.ownsRow 0 5 1 (.slice (some ⟨g, 0, none⟩) l.length cap) l.length (bc (l.take k ++ l.drop k)) := by rw [List.take_append_drop]; exact h
    exact own_shrink h' (by rw [List.length_take, Nat.min_eq_left hk]) hk
theorem cutU_le (M : Vf.Nm) (F : Nat → Option Vf.File) (Y : Nat) : ∀ ss : List Vf.Bs, (∀ k ∈ ss, synOf F (Vf.num M k) ≤ Y) → cutU M F ss ≤ ss.length * Y
  | [], _ => by simp [cutU]
  | k :: r, h => by
    have h1 := cutU_le M F Y r (fun j hj => h j (List.mem_cons_of_mem _ hj))
    have h2 := h k (List.mem_cons_self ..)
    unfold cutU at h1 ⊢
    rw [List.map_cons, List.sum_cons, List.length_cons, Nat.add_mul]
    omega

/-- What the next name of the walk brings. -/
theorem next_name {σ : Vf.St} (ok : ForgetOk σ) {D : DataW Unit} (hD : NmOf D σ.durable) {left : Lit → Bool} {ss : List Vf.Bs} (hC : Collected D left ss) {x : Vf.Bs} {yd : DataW Unit} (hlk : left (.string x) = true) (hat : ∀ zd, D.atKey (.string x) zd = yd) {cnt : Nat} (hn : ss.length + cnt ≤ Maps.size D) :
    ∃ f, yd = .lit (.int .i64 (Vf.num σ.durable x : Int)) ∧ cutF σ.durable σ.files ss (Vf.num σ.durable x) = some f ∧ σ.files (Vf.num σ.durable x) = some f ∧ f.synced ≤ f.bytes.length ∧ f.synced ≤ 10000000000 ∧ cutU σ.durable σ.files ss ≤ 1000000000000000000 ∧ ss.length ≤ 100000000 := by
  have hh : Maps.has D (.string x) = true := has_true_of_atKey hat
  rw [hD.hs x] at hh
  obtain ⟨n, hx⟩ := Option.isSome_iff_exists.1 hh
  have en : Vf.num σ.durable x = n := by unfold Vf.num; rw [hx]; rfl
  obtain ⟨f, hf, h1, h2⟩ := ok.files x n hx
  have hxs : x ∉ ss := fun hm => by have := ((hC.2 x).1 hm).2; rw [hlk] at this; cases this
  have hin : ∀ k ∈ ss, ∃ m, Vf.look σ.durable k = some m ∧ Vf.num σ.durable k = m := fun k hk => by
    have := ((hC.2 k).1 hk).1
    rw [hD.hs k] at this
    obtain ⟨m, hm⟩ := Option.isSome_iff_exists.1 this
    exact ⟨m, hm, by unfold Vf.num; rw [hm]; rfl⟩
  have hnot : n ∉ ss.map (Vf.num σ.durable) := fun hm => by
    obtain ⟨k, hk, e⟩ := List.mem_map.1 hm
    obtain ⟨m, hlm, em⟩ := hin k hk
    rw [em] at e
    subst e
    exact hxs (by rw [← ok.one k x m hlm hx]; exact hk)
  have hlen : ss.length ≤ σ.durable.length := by have := hD.size; omega
  refine ⟨f, by rw [← hat (.lit (.int .i64 0)), hD.num x], ?_, by rw [en]; exact hf, h1, h2, ?_, Nat.le_trans hlen ok.few⟩
  · rw [en]; unfold cutF; rw [if_neg hnot]; exact hf
  · have hle := cutU_le σ.durable σ.files 10000000000 ss (fun k hk => by
      obtain ⟨m, hm, em⟩ := hin k hk
      obtain ⟨f', hf', _, h2'⟩ := ok.files k m hm
      rw [em]; unfold synOf; rw [hf']; exact h2')
    have : ss.length * 10000000000 ≤ 100000000 * 10000000000 := Nat.mul_le_mul_right _ (Nat.le_trans hlen ok.few)
    omega

theorem num_mem {M : Vf.Nm} (hd : (M.map (·.1)).Nodup) {p : Vf.Bs × Nat} (hp : p ∈ M) : Vf.num M p.1 = p.2 := by
  unfold Vf.num; rw [Vf.mem_look hd (k := p.1) (n := p.2) hp]; rfl
theorem all_perm {M : Vf.Nm} {ss : List Vf.Bs} (hd : (M.map (·.1)).Nodup) (hs : ss.Nodup) (hm : ∀ k, k ∈ ss ↔ (Vf.look M k).isSome = true) : ss.Perm (M.map (·.1)) := by
  refine (List.perm_ext_iff_of_nodup hs hd).2 fun k => ?_
  rw [hm k]
  have := Vf.look_none M k
  cases hk : Vf.look M k with
  | none => rw [hk] at this; simpa using this.1 rfl
  | some n => simpa using List.mem_map_of_mem (f := (·.1)) (Vf.look_mem hk)
theorem all_nums {M : Vf.Nm} {ss : List Vf.Bs} (hd : (M.map (·.1)).Nodup) (hp : ss.Perm (M.map (·.1))) : (ss.map (Vf.num M)).Perm (M.map (·.2)) := by
  refine (hp.map (Vf.num M)).trans ?_
  rw [List.map_map]
  have e : M.map (Vf.num M ∘ fun x => x.1) = M.map (·.2) := List.map_congr_left fun p hp => num_mem hd hp
  rw [e]
theorem forget_used {M : Vf.Nm} {ss : List Vf.Bs} (F : Nat → Option Vf.File) (hd : (M.map (·.1)).Nodup) (hp : ss.Perm (M.map (·.1))) : cutU M F ss = Vf.sum F M := by
  have h := ((all_nums hd hp).map (synOf F)).sum_nat
  rw [List.map_map, List.map_map] at h
  exact h
theorem forget_mem {M : Vf.Nm} {ss : List Vf.Bs} (hd : (M.map (·.1)).Nodup) (hp : ss.Perm (M.map (·.1))) (n : Nat) : n ∈ ss.map (Vf.num M) ↔ n ∈ M.map (·.2) := (all_nums hd hp).mem_iff

end Go.Proofs.YtlhnjloimhcpfabGreatDoor
namespace Go.Proofs.YtlhnjloimhcpfabGreatDoor
open Go.RowKit Go.Maps Go.Sort

namespace Vf
theorem keepAll_append (σ : St) (l m : List Step) : keepAll σ (l ++ m) = keepAll (keepAll σ l) m := by unfold keepAll; rw [List.foldl_append]
theorem keepAll_pending (σ : St) (l : List Step) : (keepAll σ l).pending = σ.pending := by
  induction l generalizing σ with
  | nil => rfl
  | cons s r ih =>
    show (keepAll (keep σ s) r).pending = _
    rw [ih]
    unfold keep
    split
    · split <;> rfl
    · split <;> rfl
theorem kept_small {l : List Step} {k t i : Nat} (hi : i ≤ k) : kept (l.take i) k t = l.take i := by
  unfold kept
  rw [List.take_take, List.drop_of_length_le (by rw [List.length_take]; omega)]
  simp [Nat.min_eq_right hi]
theorem kept_below {l : List Step} {k t i : Nat} (h : i < l.length) (hi : i < k) : kept (l.take (i + 1)) k t = kept (l.take i) k t ++ [l[i]] := by
  rw [kept_small (by omega), kept_small (by omega), List.take_succ_eq_append_getElem h]
theorem kept_at {l : List Step} {k t : Nat} (h : k < l.length) : kept (l.take (k + 1)) k t = l.take k ++ if (l[k]).kind = 0 then [{ l[k] with size := min t ((l[k]).size - 1) }] else [] := by
  unfold kept
  rw [List.take_take, Nat.min_eq_left (by omega), List.drop_take, List.drop_eq_getElem_cons h]
  have e : k + 1 - k = 1 := by omega
  rw [e]
  rfl
theorem kept_above {l : List Step} {k t i : Nat} (hi : k < i) : kept (l.take (i + 1)) k t = kept (l.take i) k t := by
  unfold kept
  rw [List.take_take, List.take_take, Nat.min_eq_left (by omega), Nat.min_eq_left (by omega)]
  congr 1
  by_cases h : k < l.length
  · rw [List.drop_take, List.drop_take, List.drop_eq_getElem_cons h]
    obtain ⟨a, ha⟩ : ∃ a, i + 1 - k = a + 1 := ⟨i - k, by omega⟩
    obtain ⟨c, hc⟩ : ∃ c, i - k = c + 1 := ⟨i - k - 1, by omega⟩
    rw [ha, hc]
    rfl
  · rw [List.drop_of_length_le (by rw [List.length_take]; omega), List.drop_of_length_le (by rw [List.length_take]; omega)]
end Vf

/-- What a crash must keep to. -/
structure CrashOk (σ : Vf.St) (k t : Nat) : Prop where
  keep : ∀ i (hi : i < σ.pending.length) z, z ≤ (σ.pending[i]).size → KeepOk (Vf.keepAll σ (σ.pending.take i)) { σ.pending[i] with size := z }
  size : ∀ i (hi : i < σ.pending.length), (σ.pending[i]).kind = 0 → 0 < (σ.pending[i]).size
  forget : ForgetOk (Vf.keepAll σ (Vf.kept σ.pending k t))

/-- The state behind i rounds. -/
def crashTo (σ : Vf.St) (k t i : Nat) : Vf.St := Vf.keepAll σ (Vf.kept (σ.pending.take i) k t)
theorem crashTo_pend (σ : Vf.St) (k t i : Nat) : (crashTo σ k t i).pending = σ.pending := Vf.keepAll_pending _ _

/-- The last three fields. -/
theorem crash_end {w wr w3 : World} {b bf bh bd : Nat} {pv : Value} {fs : Nat → Option Nat} {sl : Nat → Value} {σ : Vf.St} {S : Nat → Prop} {k t : Nat} (h : RepAt w3 b bf bh bd pv fs sl (Vf.forget (Vf.keepAll σ (Vf.kept σ.pending k t))) (grow S wr w3)) (m3 : Moved S wr w3) (m : Moved S w wr) :
    Rep (((w3.setCell ⟨b, 8, none⟩ (.slice none 0 0)).setCell ⟨b, 2, none⟩ (.bool true)).setCell ⟨b, 3, none⟩ (.int .i64 (-1))) b (Vf.crash σ k t) (grow S w (((w3.setCell ⟨b, 8, none⟩ (.slice none 0 0)).setCell ⟨b, 2, none⟩ (.bool true)).setCell ⟨b, 3, none⟩ (.int .i64 (-1)))) ∧ Moved S w (((w3.setCell ⟨b, 8, none⟩ (.slice none 0 0)).setCell ⟨b, 2, none⟩ (.bool true)).setCell ⟨b, 3, none⟩ (.int .i64 (-1))) := by
  have ez : (((w3.setCell ⟨b, 8, none⟩ (.slice none 0 0)).setCell ⟨b, 2, none⟩ (.bool true)).setCell ⟨b, 3, none⟩ (.int .i64 (-1))).heap.size = w3.heap.size := by simp [World.setCell]
  have ho : Only w3 (((w3.setCell ⟨b, 8, none⟩ (.slice none 0 0)).setCell ⟨b, 2, none⟩ (.bool true)).setCell ⟨b, 3, none⟩ (.int .i64 (-1))) b := ⟨by rw [ez]; exact Nat.le_refl _, fun i _ hne => (Below.heap_setCell _ ⟨b, 3, none⟩ _ i hne).trans ((Below.heap_setCell _ ⟨b, 2, none⟩ _ i hne).trans (Below.heap_setCell _ ⟨b, 8, none⟩ _ i hne))⟩
  have R := h.turnB ho (Vf.crash σ k t) (.slice none 0 0) (by rw [Joins.block_setCell (Joins.block_setCell (Joins.block_setCell h.blk _) _) _]; rfl) rfl rfl rfl (Nat.le_refl _) (World.ownsRow_nil _ _ _ _) (fun g hg => by cases hg)
  have hb : b < w.heap.size → S b := fun hl => by
    rcases h.sb with hh | hh
    · exact hh
    · have := m.size; omega
  have M := m.trans m3 (fun i _ h => h)
  refine ⟨⟨_, _, _, _, _, _, R.wide (fun i hi => ?_) (fun i hi => ?_)⟩, ((M.setCell (p := ⟨b, 8, none⟩) hb _).setCell (p := ⟨b, 2, none⟩) hb _).setCell (p := ⟨b, 3, none⟩) hb _⟩
  · rcases hi with hi | hi
    · exact .inl hi
    · exact .inr ⟨Nat.le_trans m.size hi.1, by rw [ez]; exact hi.2⟩
  · rcases hi with hi | hi
    · exact R.low i (.inl hi)
    · exact hi.2

end Go.Proofs.YtlhnjloimhcpfabGreatDoor
