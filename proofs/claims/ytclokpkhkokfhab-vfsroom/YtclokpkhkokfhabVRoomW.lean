/-
  Without a fuse every name held is a fine one, so it can be read; the bytes of all names are what is used; an append that is done leaves no less than none. What a round of calls leaves is read through by its names.
-/
import Derived.Test.YtclokpkhkokfhabVFs
import Derived.Test.YtclokpkhkokfhabVPure
import Derived.Test.YtclokpkhkokfhabVMovesQ
import Derived.Test.YtclokpkhkokfhabVOps
import Derived.Test.YtclokpkhkokfhabVTexts
namespace Go.Proofs.Ytclokpkhkokfhab
namespace Vf

/-- The name that a step gives is a fine one. -/
def NF (s : Step) : Prop := (s.kind = 1 → fine s.name = true) ∧ (s.kind = 2 → fine s.to = true)
def DF (D : Nm) : Prop := ∀ p ∈ D, fine p.1 = true
structure Nice (σ : St) : Prop where
  on : σ.on = true
  fuse : σ.fuse = -1
  dur : DF σ.durable
  pend : ∀ s ∈ σ.pending, NF s

theorem DF.del {D : Nm} (h : DF D) (k : Bs) : DF (del D k) := fun p hp => h p (mem_del.1 hp).1
theorem DF.put {D : Nm} (h : DF D) {k : Bs} (hk : fine k = true) (n : Nat) : DF (put D k n) := fun p hp => by
  unfold Vf.put at hp
  rcases List.mem_cons.1 hp with rfl | hp
  · exact hk
  · exact h.del k p hp
theorem DF.ren {D : Nm} (h : DF D) {s : Step} (hs : NF s) : DF (ren s D) := by
  unfold Vf.ren
  split
  · rename_i e; exact h.put (hs.1 e) _
  · split
    · rename_i e; exact (h.del _).put (hs.2 e) _
    · split
      · exact h.del _
      · exact h
theorem DF.play {l : List Step} : ∀ {D : Nm}, DF D → (∀ s ∈ l, NF s) → DF (play D l) := by
  induction l with
  | nil => intro D h _; exact h
  | cons s r ih => intro D h hs; exact ih (h.ren (hs s (List.mem_cons_self ..))) fun x hx => hs x (List.mem_cons_of_mem _ hx)
theorem DF.keep {σ : St} (h : DF σ.durable) {s : Step} (hs : NF s) : DF (keep σ s).durable := by
  unfold Vf.keep
  split
  · split
    · exact h
    · exact h
  · split
    · exact h.ren hs
    · exact h
theorem DF.keepAll {l : List Step} : ∀ {σ : St}, DF σ.durable → (∀ s ∈ l, NF s) → DF (keepAll σ l).durable := by
  induction l with
  | nil => intro σ h _; exact h
  | cons s r ih => intro σ h hs; exact ih (h.keep (hs s (List.mem_cons_self ..))) fun x hx => hs x (List.mem_cons_of_mem _ hx)

theorem snoc_nf {l : List Step} (h : ∀ s ∈ l, NF s) {s : Step} (hs : NF s) : ∀ x ∈ l ++ [s], NF x := fun x hx => by
  rcases List.mem_append.1 hx with hx | hx
  · exact h x hx
  · rw [List.mem_singleton.1 hx]; exact hs
theorem settle_nice {σ : St} (hd : DF σ.durable) (hp : ∀ s ∈ σ.pending, NF s) (q : Step → Bool) : DF (settle q σ).durable ∧ ∀ s ∈ (settle q σ).pending, NF s :=
  ⟨hd.keepAll fun s hs => hp s (List.mem_filter.1 hs).1, fun s hs => hp s (List.mem_filter.1 hs).1⟩
theorem write_same (σ : St) (n : Nat) (b : Bs) : (write σ n b).durable = σ.durable ∧ (write σ n b).pending = σ.pending := by
  unfold write; split <;> exact ⟨rfl, rfl⟩
theorem act_nice {σ : St} (hd : DF σ.durable) (hp : ∀ s ∈ σ.pending, NF s) {s : Step} (hs : NF s) (b : Bs) : DF (act σ s b).durable ∧ ∀ s' ∈ (act σ s b).pending, NF s' := by
  unfold act
  split
  · obtain ⟨h1, h2⟩ := write_same σ s.file b
    refine ⟨?_, ?_⟩
    · show DF (write σ s.file b).durable
      rw [h1]; exact hd
    · show ∀ s' ∈ (write σ s.file b).pending ++ [s], NF s'
      rw [h2]; exact snoc_nf hp hs
  · split
    · exact ⟨hd, snoc_nf hp hs⟩
    · split
      · exact ⟨hd, snoc_nf hp hs⟩
      · split
        · exact settle_nice hd hp _
        · exact settle_nice hd hp _
theorem Nice.doSt {σ : St} (h : Nice σ) {s : Step} (hs : NF s) (b : Bs) : Nice (doSt σ s b) := by
  unfold Vf.doSt
  rw [if_neg (by have := h.fuse; omega)]
  obtain ⟨_, a2, a3, _⟩ := act_steps (tick σ) s b
  obtain ⟨h1, h2⟩ := act_nice (σ := tick σ) h.dur h.pend hs b
  refine ⟨a3.trans h.on, a2.trans ?_, h1, h2⟩
  show (if σ.fuse = -1 then -1 else σ.fuse - 1) = -1
  rw [if_pos h.fuse]
theorem nf_none {k n z : Nat} {a b : Bs} (h1 : k ≠ 1) (h2 : k ≠ 2) : NF ⟨k, n, z, a, b⟩ := ⟨fun e => absurd e h1, fun e => absurd e h2⟩
theorem Nice.pour (n : Nat) : ∀ (l : List Bs) {σ : St}, Nice σ → Nice (pour σ n l)
  | [], _, h => h
  | p :: r, σ, h => by
    rw [pour_cons, if_neg (by have := h.fuse; omega)]
    exact Nice.pour n r (h.doSt (nf_none (by decide) (by decide)) _)
theorem Nice.create {σ : St} (h : Nice σ) (k : Bs) : Nice (create σ k) := by
  unfold Vf.create
  split
  · rename_i e
    exact h.doSt ⟨fun _ => (find_four e).2.1, fun e' => (by cases e')⟩ _
  · exact h
theorem Nice.remove {σ : St} (h : Nice σ) (k : Bs) : Nice (remove σ k) := by
  unfold Vf.remove; split; exact h.doSt (nf_none (by decide) (by decide)) _; exact h
theorem Nice.rename {σ : St} (h : Nice σ) (k t : Bs) : Nice (rename σ k t) := by
  unfold Vf.rename
  split
  · rename_i e
    exact h.doSt ⟨fun e' => (by cases e'), fun _ => (refuse_two (rename_if e).1).2.2⟩ _
  · exact h
theorem Nice.sync {σ : St} (h : Nice σ) (k : Bs) : Nice (sync σ k) := by
  unfold Vf.sync; split; exact h.doSt (nf_none (by decide) (by decide)) _; exact h
theorem Nice.syncNames {σ : St} (h : Nice σ) : Nice (syncNames σ) := by
  unfold Vf.syncNames; split; exact h.doSt (nf_none (by decide) (by decide)) _; exact h
theorem Nice.append {σ : St} (h : Nice σ) (k b : Bs) : Nice (append σ k b) := by
  unfold Vf.append
  split
  · split
    · exact h
    · exact h.pour _ _
  · exact h
theorem Nice.crash {σ : St} (h : Nice σ) (k t : Nat) : Nice (crash σ k t) := by
  refine ⟨rfl, rfl, ?_, fun s hs => by cases hs⟩
  show DF (Vf.keepAll σ (kept σ.pending k t)).durable
  refine h.dur.keepAll fun s hs => ?_
  unfold kept at hs
  rcases List.mem_append.1 hs with hs | hs
  · exact h.pend s (List.mem_of_mem_take hs)
  · split at hs
    · cases hs
    · split at hs
      · rename_i e
        rw [List.mem_singleton.1 hs]
        exact nf_none (by omega) (by omega)
      · cases hs
theorem Nice.new (room : Nat) : Nice (new room) := ⟨rfl, rfl, fun p hp => (by cases hp), fun s hs => (by cases hs)⟩

theorem look_of_mem : ∀ {D : Nm}, (D.map (·.1)).Nodup → ∀ {p : Bs × Nat}, p ∈ D → look D p.1 = some p.2
  | [], _, _, h => by cases h
  | (a, n) :: r, hn, p, h => by
    have h1 : a ∉ r.map (·.1) := (List.nodup_cons.1 hn).1
    unfold look
    rcases List.mem_cons.1 h with rfl | h
    · rw [if_pos rfl]
    · rw [if_neg (fun e => h1 (by rw [e]; exact List.mem_map_of_mem h))]
      exact look_of_mem (List.nodup_cons.1 hn).2 h

theorem held_read {σ : St} (i : Inv σ) (h : Nice σ) {p : Bs × Nat} (hp : p ∈ σ.held) : findE σ p.1 = 0 ∧ (read σ p.1).length = blen σ.files p.2 := by
  have hf : DF σ.held := by rw [i.replay]; exact h.dur.play h.pend
  have hl := look_of_mem i.heldOk.keys hp
  have h0 := find_ok h.on (hf p hp) (by rw [hl]; rfl)
  refine ⟨h0, ?_⟩
  unfold read bytesOf num blen
  rw [if_pos h0, hl]
  simp only [Option.getD_some]
  cases σ.files p.2 <;> rfl

theorem rising_sum {D : Nm} (f : Bs → Nat) (L : List Bs) (hp : L.Perm (D.map (·.1))) : (L.map f).sum = (D.map fun p => f p.1).sum := by
  rw [(hp.map f).sum_nat]
  rw [List.map_map]; rfl
end Vf

open Vf in
theorem names_perm {σ : Vf.St} (h : Nice σ) : (namesOf σ).Perm (σ.held.map (·.1)) := by
  unfold namesOf
  rw [if_pos h.on]
  exact List.mergeSort_perm _ _
open Vf in
/-- The bytes of all names. -/
theorem names_sum {σ : Vf.St} (i : Inv σ) (h : Nice σ) : (((namesOf σ).map fun k => (Vf.read σ k).length).sum : Int) = σ.used := by
  rw [i.used, rising_sum (fun k => (Vf.read σ k).length) _ (names_perm h)]
  unfold total
  congr 2
  exact List.map_congr_left fun p hp => (held_read i h hp).2
open Vf in
theorem names_find {σ : Vf.St} (i : Inv σ) (h : Nice σ) {k : Bs} (hk : k ∈ namesOf σ) : findE σ k = 0 ∧ k.length ≤ 32 := by
  obtain ⟨p, hp, rfl⟩ := List.mem_map.1 ((names_perm h).mem_iff.1 hk)
  exact ⟨(held_read i h hp).1, fine_short (find_zero' (held_read i h hp).1).2.1⟩
open Vf in
theorem names_rise {σ : Vf.St} (i : Inv σ) (h : Nice σ) : (namesOf σ).Pairwise (· < ·) := by
  have h1 : (namesOf σ).Nodup := (names_perm h).nodup_iff.2 i.heldOk.keys
  have h2 : (namesOf σ).Pairwise (fun x y => decide (x ≤ y) = true) := by
    unfold namesOf
    rw [if_pos h.on]
    unfold rising
    exact List.pairwise_mergeSort (le := fun x y : Vf.Bs => decide (x ≤ y)) (fun a b c h1 h2 => decide_eq_true (List.le_trans (of_decide_eq_true h1) (of_decide_eq_true h2))) (fun a b => by
      rcases Std.Total.total (r := fun x y : Vf.Bs => x ≤ y) a b with h | h
      · rw [decide_eq_true h]; rfl
      · rw [decide_eq_true h, Bool.or_true]) _
  have h3 := h1.and h2
  refine h3.imp fun {a b} hab => ?_
  have hne : a ≠ b := hab.1
  have hle : a ≤ b := of_decide_eq_true hab.2
  exact Std.lt_of_le_of_ne hle hne
open Vf in
/-- An append that is done leaves room. -/
theorem append_left {σ : Vf.St} (i : Inv σ) (h : Nice σ) (k b : Bs) (e : appendE σ k b = 0) : 0 ≤ ((append σ k b).room : Int) - (append σ k b).used := by
  rcases append_is (k := k) (b := b) i with ⟨_, h2⟩ | ⟨_, h2, x, d, _, _, _, _, _, _, h9, h10, h11⟩
  · exact absurd e h2
  · rw [h10, h11, (h9 e).1, pieces_join]
    unfold left at h2
    rw [if_pos h.on] at h2
    omega
end Go.Proofs.Ytclokpkhkokfhab

namespace Go.Proofs.Ytclokpkhkokfhab
open Go.RowKit Go.Maps Go.Sort

theorem names_texts {base lim : Nat} {w : World} {b : Nat} {σ : Vf.St} (h : FsIn base lim w b σ) (hs : σ.steps ≤ 10000) :
    Calls Try.prog 15 #[.pointer (some ⟨b, 0, none⟩)] w fun e w' => ∃ a c, e = .returned (.slice a (namesOf σ).length c) ∧ TextsAt w' (.slice a (namesOf σ).length c) (namesOf σ) ∧ FsIn base lim w' b σ ∧ Below w.heap.size w w' := by
  refine (names_fs h (by omega)).mono ?_
  rintro e w' ⟨v, rfl, h1, h2, h3⟩
  have ht := texts_of_own h1
  obtain ⟨a, c, rfl, hf⟩ := ht
  exact ⟨a, c, rfl, ⟨a, c, rfl, hf⟩, h2, h3⟩
theorem read_len {base lim : Nat} {w : World} {b : Nat} {σ : Vf.St} (h : FsIn base lim w b σ) (hs : σ.steps ≤ 10000) {k : Vf.Bs} (hf : Vf.findE σ k = 0 ∧ k.length ≤ 32) :
    Calls Try.prog 16 #[.pointer (some ⟨b, 0, none⟩), str k] w fun e w' => ∃ a c, e = .returned (.tuple #[.slice a (Vf.read σ k).length c, .int .i64 0]) ∧ FsIn base lim w' b σ ∧ Below w.heap.size w w' := by
  have RD := read_fs h (by omega) k (by omega)
  rw [hf.1] at RD
  refine RD.mono ?_
  rintro e w' ⟨v, rfl, h1, h2, h3⟩
  obtain ⟨a, c, rfl⟩ := row_shape h1
  exact ⟨a, c, rfl, h2, h3⟩

/-- The bytes of the first j names. -/
def sumTo (σ : Vf.St) (j : Nat) : Nat := (((namesOf σ).take j).map fun k => (Vf.read σ k).length).sum
theorem sum_zero (σ : Vf.St) : sumTo σ 0 = 0 := rfl
theorem sum_next (σ : Vf.St) {j : Nat} (h : j < (namesOf σ).length) : sumTo σ (j + 1) = sumTo σ j + (Vf.read σ (namesOf σ)[j]).length := by
  unfold sumTo
  rw [List.take_succ_eq_append_getElem h, List.map_append, List.sum_append]
  simp
theorem sum_all {σ : Vf.St} (i : Vf.Inv σ) (h : Vf.Nice σ) : (sumTo σ (namesOf σ).length : Int) = σ.used := by
  rw [← names_sum i h]
  unfold sumTo
  rw [List.take_length]
theorem sum_mono (σ : Vf.St) {j k : Nat} (h : j ≤ k) (hk : k ≤ (namesOf σ).length) : sumTo σ j ≤ sumTo σ k := by
  induction k with
  | zero => rw [Nat.le_zero.1 h]; exact Nat.le_refl _
  | succ n ih =>
    rcases Nat.lt_or_ge j (n + 1) with h1 | h1
    · have := ih (by omega) (by omega)
      rw [sum_next σ (by omega)]
      omega
    · rw [show j = n + 1 by omega]; exact Nat.le_refl _
theorem names_few {base lim : Nat} {w : World} {b : Nat} {σ : Vf.St} (h : FsIn base lim w b σ) (g : Vf.Nice σ) : (namesOf σ).length ≤ σ.steps := by
  rw [(names_perm g).length_eq, List.length_map]
  exact held_few h
theorem used_le {σ : Vf.St} (i : Vf.Inv σ) (hs : σ.steps ≤ 10000) : σ.used ≤ 1000000000000000000 := (ready i (by omega)).used.2
theorem rise_at {σ : Vf.St} (i : Vf.Inv σ) (h : Vf.Nice σ) {j : Nat} (hj : j + 1 < (namesOf σ).length) : (namesOf σ)[j] < (namesOf σ)[j + 1] :=
  List.pairwise_iff_getElem.1 (names_rise i h) j (j + 1) (by omega) hj (by omega)
namespace Vf
theorem create_room (σ : St) (k : Bs) : (create σ k).room = σ.room := by unfold create; split; exact doSt_room _ _ _; rfl
theorem remove_room (σ : St) (k : Bs) : (remove σ k).room = σ.room := by unfold remove; split; exact doSt_room _ _ _; rfl
theorem rename_room (σ : St) (k t : Bs) : (rename σ k t).room = σ.room := by unfold rename; split; exact doSt_room _ _ _; rfl
theorem sync_room (σ : St) (k : Bs) : (sync σ k).room = σ.room := by unfold sync; split; exact doSt_room _ _ _; rfl
theorem syncNames_room (σ : St) : (syncNames σ).room = σ.room := by unfold syncNames; split; exact doSt_room _ _ _; rfl
theorem pour_room (n : Nat) : ∀ (l : List Bs) (σ : St), (pour σ n l).room = σ.room
  | [], _ => rfl
  | p :: r, σ => by
    rw [pour_cons]
    split
    · rfl
    · rw [pour_room n r, doSt_room]
theorem append_room (σ : St) (k b : Bs) : (append σ k b).room = σ.room := by
  unfold append
  split
  · split
    · rfl
    · exact pour_room _ _ _
  · rfl
end Vf
/-- What a crash of a script does. -/
def crashBy (τ : Vf.St) (x : Ac) : Vf.St := if 0 ≤ x.n ∧ 0 ≤ x.t then Vf.crash τ x.n.toNat x.t.toNat else τ
theorem crashBy_nice {τ : Vf.St} (h : Vf.Nice τ) (x : Ac) : Vf.Nice (crashBy τ x) := by unfold crashBy; split; exact h.crash _ _; exact h
theorem crashBy_room {τ : Vf.St} {x : Ac} : (crashBy τ x).room = τ.room := by unfold crashBy; split; exact Vf.crash_room _ _ _; rfl
theorem crashBy_steps (τ : Vf.St) (x : Ac) : (crashBy τ x).steps = τ.steps := by unfold crashBy; split; exact Vf.crash_steps _ _ _; rfl
theorem op_crash {w wx : World} {lim b : Nat} {τ : Vf.St} (x : Ac) (h : FsIn w.heap.size lim wx b τ) (hs : τ.steps ≤ 10000) : Calls Try.prog 14 #[.pointer (some ⟨b, 0, none⟩), .int .i64 x.n, .int .i64 x.t] wx fun e w' => ∃ y, e = .returned (.int .i64 y) ∧ FsIn w.heap.size w'.heap.size w' b (crashBy τ x) ∧ Below w.heap.size wx w' := by
  unfold crashBy
  split
  · rename_i hp
    obtain ⟨n, hn⟩ := Int.eq_ofNat_of_zero_le hp.1
    obtain ⟨t, ht⟩ := Int.eq_ofNat_of_zero_le hp.2
    rw [hn, ht]
    refine (crash_fs h (by omega) n t).mono ?_
    rintro e w' ⟨rfl, h1, h2⟩
    exact ⟨0, rfl, h1, h2⟩
  · rename_i hp
    refine (crash_bad_fs h x.n x.t (by omega)).mono ?_
    rintro e w' ⟨rfl, rfl⟩
    obtain ⟨S, hr, hS⟩ := h.rep
    exact ⟨2, rfl, ⟨⟨S, hr, fun i hi => ⟨(hS i hi).1, Nat.lt_of_lt_of_le (hS i hi).2 h.lim⟩⟩, h.inv, h.low, Nat.le_refl _⟩, Below.refl _ _⟩
end Go.Proofs.Ytclokpkhkokfhab
