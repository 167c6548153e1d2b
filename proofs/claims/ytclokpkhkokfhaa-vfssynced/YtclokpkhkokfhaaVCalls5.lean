/-
  No fuse; what is durable; an altered byte.
-/
import Derived.Test.YtclokpkhkokfhaaVD
namespace Go.Proofs.Ytclokpkhkokfhaa
open Go.RowKit Go.Maps Go.Sort

theorem safe_any (w : World) (b : Nat) (σ : Vf.St) (S : Nat → Prop) (h : Rep w b σ S) (R : Int) (HR : Hid (R = Vf.refuse σ [])) :
    Calls Try.prog 25 #[.pointer (some ⟨b, 0, none⟩)] w fun e w' => e = .returned (.int .i64 R) ∧ Rep w' b (Vf.safe σ) S ∧ Moved S w w' := by
  have q := refused_rep w b σ S h R HR
  by_cases f0 : R = 0
  · have ff : Vf.refuse σ [] = 0 := by rw [← HR.out, f0]
    have e2 : Vf.safe σ = { σ with fuse := -1 } := by unfold Vf.safe; rw [if_pos ff]
    rw [e2]
    obtain ⟨bf, bh, bd, pv, fs, sl, hr⟩ := h
    have c3 := hr.cells.2.2.2.1
    have f3 := hr.unfrozen 3
    have FIN : Hid (RepAt (w.setCell ⟨b, 3, none⟩ (.int .i64 (-1))) b bf bh bd pv fs sl { σ with fuse := -1 } S) := hr.field 3 (.int .i64 (-1)) _ rfl rfl rfl rfl rfl (Nat.le_refl _)
    have SB : Hid (S b) := hr.sb
    subst f0
    clear HR ff e2 hr
    go_enter Try.func25, Try.ntmps25
    go_wp2_with (go_at_call 37; refine still q ?_)
    go_ret
    exact ⟨rfl, ⟨bf, bh, bd, pv, fs, sl, FIN.out⟩, (Moved.refl S w).setCell (fun _ => SB.out) _⟩
  · have ff : ¬ Vf.refuse σ [] = 0 := by rw [← HR.out]; exact f0
    have e2 : Vf.safe σ = σ := by unfold Vf.safe; rw [if_neg ff]
    rw [e2]
    have H : Hid _ := h
    have b0 : (R != 0) = true := by simpa using f0
    clear HR ff e2 h
    go_enter Try.func25, Try.ntmps25
    go_wp2_with (go_at_call 37; refine still q ?_)
    go_ret
    exact ⟨rfl, H.out, Moved.refl S w⟩

theorem two_kept {w w' : World} {p q : Addr} {u v : Value} (b : Below w.heap.size w w') (h : w.cell? p = some u ∧ w.cell? q = some v) : w'.cell? p = some u ∧ w'.cell? q = some v := ⟨keepC b h.1, keepC b h.2⟩

set_option maxHeartbeats 400000 in
theorem durable_any (w : World) (b : Nat) (σ : Vf.St) (S : Nat → Prop) (h : Rep w b σ S) (i : Vf.Inv σ) (hs : σ.steps ≤ 100000000) (k : Vf.Bs) (hk : k.length ≤ 1000000) (L : List UInt8) (HL : Hid (L = (Vf.durableOf σ k).getD [])) (B : Bool) (HB : Hid (B = (Vf.durableOf σ k).isSome)) :
    Calls Try.prog 23 #[.pointer (some ⟨b, 0, none⟩), str k] w fun e w' => ∃ v', e = .returned (.tuple #[v', .bool B]) ∧ w'.ownsRow w.heap.size 5 1 v' L.length (bc L) ∧ Below w.heap.size w w' := by
  have q := made_rep w b σ S h
  obtain ⟨bf, bh, bd, pv, fs, sl, hr⟩ := h
  have c5 := hr.cells.2.2.2.2.2.1
  have c7 := hr.cells.2.2.2.2.2.2.2.1
  replace hr := hr.drew
  obtain ⟨n, hn⟩ : ∃ n, n = Vf.num σ.durable k := ⟨_, rfl⟩
  have nle : n ≤ 100000000 := by rw [hn]; have := Vf.num_le (fun p hp => (i.durOk.le p hp).2) k; omega
  have L7 := hr.dur.look k hk
  rw [← hn] at L7
  have L5 := hr.files.look n (by omega)
  cases hx : σ.files n with
  | none =>
    have ed : Vf.durableOf σ k = none := by unfold Vf.durableOf; rw [← hn, hx]
    have hg : fs n = none := by have := hr.dom n; rw [hx] at this; simpa using this
    rw [ptr_none hg] at L5
    have HL' : Hid (L = []) := by show _ = _; rw [HL.out, ed]; rfl
    have HB' : Hid (B = false) := by show _ = _; rw [HB.out, ed]; rfl
    clear HL HB hx hg ed hr hn i
    go_enter Try.func23, Try.ntmps23
    go_wp2_with (go_at_call 38; refine still q ?_)
    go_region
    go_wp2_with (fail)
    go_ret2
    exact ⟨_, by rw [HB'.out]; rfl, by rw [HL'.out]; exact World.ownsRow_nil _ _ _ _, (Below.refl _ _).drew⟩
  | some x =>
    have ed : Vf.durableOf σ k = some (x.bytes.take x.synced) := by unfold Vf.durableOf; rw [← hn, hx]
    obtain ⟨g, hg⟩ : ∃ g, fs n = some g := by have := hr.dom n; rw [hx] at this; exact Option.isSome_iff_exists.1 this
    rw [ptr_some hg] at L5
    have HL' : Hid (L = x.bytes.take x.synced) := by show _ = _; rw [HL.out, ed]; rfl
    have HB' : Hid (B = true) := by show _ = _; rw [HB.out, ed]; rfl
    have hsy : x.synced ≤ x.bytes.length := by have := i.pend n x hx; omega
    have hby : x.bytes.length ≤ 100000000000 := by have := (i.nums n x hx).2.2; omega
    obtain ⟨a, cp, hsl, hcp, hna, hcut⟩ := row_cut (hr.file n g x hg hx).2 hsy
    have d0 : w.drew.cell? ⟨g, 0, none⟩ = some (.slice a x.bytes.length cp) := by rw [← hsl]; exact file_cell hr hg hx
    have d1 : w.drew.cell? ⟨g, 1, none⟩ = some (.int .i64 (x.synced : Int)) := Joins.cell_of_block (hr.file n g x hg hx).1 1
    have i1 : (x.synced : Int) ≤ (cp : Int) := by omega
    have el : (x.bytes.take x.synced).length = x.synced := by rw [List.length_take]; omega
    have CB := clone_bytes w.drew.drew (.slice a x.synced cp) (x.bytes.take x.synced) (by rw [el]; exact hcut.drew) (by rw [el]; omega)
    have hnil : a = none → x.bytes.length = 0 ∧ x.synced = 0 ∧ cp = 0 := fun e => by have h1 := (hna e).1; have h2 := (hna e).2; rw [h1] at hsy ⊢; simp at hsy; exact ⟨rfl, hsy, h2⟩
    clear HL HB hx hg ed hr hn i hsl hcut el hna hsy hby hcp
    cases a with
    | none =>
      have ev : (Value.slice none x.synced cp) = .slice none 0 0 := by obtain ⟨_, e2, e3⟩ := hnil rfl; rw [e2, e3]
      have ed : (Value.slice none x.bytes.length cp) = .slice none 0 0 := by obtain ⟨e1, _, e3⟩ := hnil rfl; rw [e1, e3]
      have s0 : x.synced = 0 := (hnil rfl).2.1
      rw [ev] at CB
      rw [ed] at d0
      rw [s0] at CB d1 HL' i1
      clear ev ed hnil s0
      have P1 : w.drew.drew.cell? ⟨g, 0, none⟩ = some (.slice none 0 0) ∧ w.drew.drew.cell? ⟨g, 1, none⟩ = some (.int .i64 0) := ⟨d0, d1⟩
      go_enter Try.func23, Try.ntmps23
      go_wp2_with (go_at_call 38; refine still q ?_)
      go_region
      go_wp2_with (fail)
      go_region_held3 (fun w' => w'.cell? ⟨g, 0, none⟩ = some (.slice none 0 0) ∧ w'.cell? ⟨g, 1, none⟩ = some (.int .i64 0))
        (first | exact P1 | exact P2)
        (first | (go_at_call 44; refine CB.mono ?_; rintro e w3 ⟨v3, rfl, o3, b3⟩; have P2 := two_kept b3 P1))
      go_wp2_with (fail)
      go_ret2
      exact ⟨v3, by rw [HB'.out]; rfl, by rw [HL'.out]; exact o3, (Below.refl _ _).drew.drew.trans b3⟩
    | some ad =>
      clear hnil
      have P1 : w.drew.drew.cell? ⟨g, 0, none⟩ = some (.slice (some ad) x.bytes.length cp) ∧ w.drew.drew.cell? ⟨g, 1, none⟩ = some (.int .i64 (x.synced : Int)) := ⟨d0, d1⟩
      go_enter Try.func23, Try.ntmps23
      go_wp2_with (go_at_call 38; refine still q ?_)
      go_region
      go_wp2_with (fail)
      go_region_held3 (fun w' => w'.cell? ⟨g, 0, none⟩ = some (.slice (some ad) x.bytes.length cp) ∧ w'.cell? ⟨g, 1, none⟩ = some (.int .i64 (x.synced : Int)))
        (first | exact P1 | exact P2)
        (first | (go_at_call 44; refine CB.mono ?_; rintro e w3 ⟨v3, rfl, o3, b3⟩; have P2 := two_kept b3 P1))
      go_wp2_with (fail)
      go_ret2
      exact ⟨v3, by rw [HB'.out]; rfl, by rw [HL'.out]; exact o3, (Below.refl _ _).drew.drew.trans b3⟩
end Go.Proofs.Ytclokpkhkokfhaa
