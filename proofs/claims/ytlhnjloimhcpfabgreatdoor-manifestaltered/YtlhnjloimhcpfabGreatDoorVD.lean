/-
  What the names, the files and the pending steps of a file system keep to: names that each name a file of their own, behind each of the pending steps; bytes that are durable or pending; the bytes of all held files. .. and what follows from it.
-/
import Derived.Test.YtlhnjloimhcpfabGreatDoorVA
import Derived.Test.YtlhnjloimhcpfabGreatDoorVC
namespace Go.Proofs.YtlhnjloimhcpfabGreatDoor
namespace Vf

theorem vals_inj {D : Nm} (h : (D.map (·.2)).Nodup) {p q : Bs × Nat} (hp : p ∈ D) (hq : q ∈ D) (e : p.2 = q.2) : p = q := by
  induction D with
  | nil => cases hp
  | cons a r ih =>
    rw [List.map_cons, List.nodup_cons] at h
    rcases List.mem_cons.1 hp with rfl | hp' <;> rcases List.mem_cons.1 hq with rfl | hq'
    · rfl
    · exact absurd (by rw [e]; exact List.mem_map_of_mem hq') h.1
    · exact absurd (by rw [← e]; exact List.mem_map_of_mem hp') h.1
    · exact ih h.2 hp' hq'

theorem mem_del {D : Nm} {k : Bs} {p : Bs × Nat} : p ∈ del D k ↔ p ∈ D ∧ p.1 ≠ k := by
  unfold del
  rw [List.mem_filter]
  simp
theorem del_vals {D : Nm} (h : (D.map (·.2)).Nodup) {k : Bs} {n : Nat} (hk : look D k = some n) : n ∉ (del D k).map (·.2) := fun hm => by
  obtain ⟨q, hq, e⟩ := List.mem_map.1 hm
  have hq' := mem_del.1 hq
  have := vals_inj h (look_mem hk) hq'.1 e.symm
  exact hq'.2 (by rw [← this])
theorem del_vals_sub {D : Nm} {k : Bs} {n : Nat} (h : n ∈ (del D k).map (·.2)) : n ∈ D.map (·.2) := by
  obtain ⟨q, hq, e⟩ := List.mem_map.1 h
  exact List.mem_map.2 ⟨q, (mem_del.1 hq).1, e⟩
theorem del_vals_nodup {D : Nm} (h : (D.map (·.2)).Nodup) (k : Bs) : ((del D k).map (·.2)).Nodup := h.sublist ((del_sub D k).map _)
theorem del_none {D : Nm} {k : Bs} (h : look D k = none) : del D k = D := by
  unfold del
  rw [List.filter_eq_self]
  intro p hp
  have : p.1 ≠ k := fun e => (look_none D k).1 h (List.mem_map.2 ⟨p, hp, e⟩)
  simp [this]

/-- Names that each name a file of their own, with a number up to m. -/
structure NmOk (F : Nat → Option File) (m : Nat) (D : Nm) : Prop where
  keys : (D.map (·.1)).Nodup
  vals : (D.map (·.2)).Nodup
  here : ∀ p ∈ D, F p.2 ≠ none
  le : ∀ p ∈ D, 0 < p.2 ∧ p.2 ≤ m
  short : ∀ p ∈ D, p.1.length ≤ 32

/-- What a pending step must keep to. -/
structure Plain (s : Step) : Prop where
  kind : s.kind ≤ 3
  size : s.size ≤ 64
  pos : s.kind = 0 → 0 < s.size
  name : s.name.length ≤ 32
  to : s.to.length ≤ 32
structure Fit (m : Nat) (D : Nm) (s : Step) : Prop where
  plain : Plain s
  new : s.kind = 1 → m < s.file
  from_ : s.kind = 2 → (look D s.name).isSome = true

def up (m : Nat) (s : Step) : Nat := if s.kind = 1 then s.file else m
def top (m : Nat) (l : List Step) : Nat := l.foldl up m
def play (D : Nm) (l : List Step) : Nm := l.foldl (fun D s => ren s D) D

def Chain (F : Nat → Option File) : Nat → Nm → List Step → Prop
  | m, D, [] => NmOk F m D
  | m, D, s :: r => NmOk F m D ∧ Fit m D s ∧ Chain F (up m s) (ren s D) r

section
variable {F F' : Nat → Option File} {m m' : Nat} {D : Nm} {s : Step}
theorem NmOk.mono (h : NmOk F m D) (hF : ∀ p ∈ D, F p.2 ≠ none → F' p.2 ≠ none) (hm : m ≤ m') : NmOk F' m' D := ⟨h.keys, h.vals, fun p hp => hF p hp (h.here p hp), fun p hp => ⟨(h.le p hp).1, Nat.le_trans (h.le p hp).2 hm⟩, h.short⟩
theorem NmOk.del (h : NmOk F m D) (k : Bs) : NmOk F m (del D k) := ⟨del_nodup h.keys k, del_vals_nodup h.vals k, fun p hp => h.here p (mem_del.1 hp).1, fun p hp => h.le p (mem_del.1 hp).1, fun p hp => h.short p (mem_del.1 hp).1⟩
theorem NmOk.put (h : NmOk F m D) {k : Bs} {n : Nat} (hn : n ∉ (Vf.del D k).map (·.2)) (hF : F n ≠ none) (h0 : 0 < n) (hm : n ≤ m') (hmm : m ≤ m') (hk : k.length ≤ 32) : NmOk F m' (put D k n) := by
  have hd := (h.del k).mono (F' := F) (m' := m') (fun _ _ h => h) hmm
  refine ⟨put_nodup h.keys k n, ?_, fun p hp => ?_, fun p hp => ?_, fun p hp => ?_⟩
  · show ((k, n) :: Vf.del D k).map (·.2) |>.Nodup
    rw [List.map_cons, List.nodup_cons]
    exact ⟨hn, hd.vals⟩
  all_goals rcases List.mem_cons.1 (show p ∈ (k, n) :: Vf.del D k from hp) with rfl | hp'
  · exact hF
  · exact hd.here p hp'
  · exact ⟨h0, hm⟩
  · exact hd.le p hp'
  · exact hk
  · exact hd.short p hp'
theorem NmOk.look (h : NmOk F m D) {k : Bs} {n : Nat} (hk : look D k = some n) : F n ≠ none ∧ 0 < n ∧ n ≤ m := ⟨h.here _ (look_mem hk), h.le _ (look_mem hk)⟩

theorem ren_write (hs : s.kind = 0) : ren s D = D := by unfold ren; simp [hs]
theorem up_write (hs : s.kind = 0) : up m s = m := by unfold up; simp [hs]
theorem num_some {k : Bs} (h : (look D k).isSome = true) : look D k = some (num D k) := by
  obtain ⟨n, hn⟩ := Option.isSome_iff_exists.1 h
  unfold num; rw [hn]; rfl

theorem NmOk.ren (h : NmOk F m D) (f : Fit m D s) (hF : s.kind = 1 → F s.file ≠ none) : NmOk F (up m s) (ren s D) := by
  have hk := f.plain.kind
  unfold Vf.ren up
  by_cases k1 : s.kind = 1
  · rw [if_pos k1, if_pos k1]
    have hlt := f.new k1
    exact h.put (fun hm => by obtain ⟨q, hq, e⟩ := List.mem_map.1 (del_vals_sub hm); have := (h.le q hq).2; omega) (hF k1) (by omega) (Nat.le_refl _) (by omega) f.plain.name
  · rw [if_neg k1, if_neg k1]
    by_cases k2 : s.kind = 2
    · rw [if_pos k2]
      have hl := num_some (f.from_ k2)
      have hn := h.look hl
      exact (h.del s.name).put (fun hm => del_vals h.vals hl (del_vals_sub hm)) hn.1 hn.2.1 hn.2.2 (Nat.le_refl _) f.plain.to
    · rw [if_neg k2]
      by_cases k3 : s.kind = 3
      · rw [if_pos k3]; exact h.del _
      · rw [if_neg k3]; exact h
end

theorem Chain.head {F : Nat → Option File} {m : Nat} {D : Nm} : ∀ {l : List Step}, Chain F m D l → NmOk F m D
  | [], h => h
  | _ :: _, h => h.1
theorem Chain.mono {F F' : Nat → Option File} (hF : ∀ n, F n ≠ none → F' n ≠ none) : ∀ {l : List Step} {m : Nat} {D : Nm}, Chain F m D l → Chain F' m D l
  | [], _, _, h => NmOk.mono (F := F) h (fun _ _ => hF _) (Nat.le_refl _)
  | _ :: _, _, _, h => ⟨h.1.mono (fun _ _ => hF _) (Nat.le_refl _), h.2.1, Chain.mono hF h.2.2⟩
theorem Chain.last {F : Nat → Option File} : ∀ {l : List Step} {m : Nat} {D : Nm}, Chain F m D l → NmOk F (top m l) (play D l)
  | [], _, _, h => h
  | s :: r, m, D, h => (Chain.last (l := r) h.2.2 : NmOk F (top (up m s) r) (play (ren s D) r))
theorem Chain.plain {F : Nat → Option File} : ∀ {l : List Step} {m : Nat} {D : Nm}, Chain F m D l → ∀ s ∈ l, Plain s
  | [], _, _, _, s, hs => by cases hs
  | a :: r, _, _, h, s, hs => by
    rcases List.mem_cons.1 hs with rfl | hs'
    · exact h.2.1.plain
    · exact Chain.plain h.2.2 s hs'
theorem Chain.snoc {F : Nat → Option File} {s : Step} (hF : s.kind = 1 → F s.file ≠ none) : ∀ {l : List Step} {m : Nat} {D : Nm}, Chain F m D l → Fit (top m l) (play D l) s → Chain F m D (l ++ [s])
  | [], _, _, h, f => ⟨h, f, NmOk.ren h f hF⟩
  | _ :: _, _, _, h, f => ⟨h.1, h.2.1, Chain.snoc hF h.2.2 f⟩
/-- Steps that are left out are writes. -/
theorem Chain.filter {F : Nat → Option File} {q : Step → Bool} (hq : ∀ s, q s = false → s.kind = 0) : ∀ {l : List Step} {m : Nat} {D : Nm}, Chain F m D l → Chain F m D (l.filter q)
  | [], _, _, h => h
  | s :: r, m, D, h => by
    cases e : q s with
    | true => rw [List.filter_cons, e]; exact ⟨h.1, h.2.1, Chain.filter hq h.2.2⟩
    | false =>
      rw [List.filter_cons, e]
      have := Chain.filter hq h.2.2
      rw [ren_write (hq s e), up_write (hq s e)] at this
      exact this
theorem play_filter {q : Step → Bool} (hq : ∀ s, q s = false → s.kind = 0) : ∀ (l : List Step) (D : Nm), play D (l.filter q) = play D l
  | [], _ => rfl
  | s :: r, D => by
    cases e : q s with
    | true => rw [List.filter_cons, e]; exact play_filter hq r (ren s D)
    | false =>
      rw [List.filter_cons, e]
      show play D (r.filter q) = play (ren s D) r
      rw [ren_write (hq s e)]; exact play_filter hq r D
theorem top_filter {q : Step → Bool} (hq : ∀ s, q s = false → s.kind = 0) : ∀ (l : List Step) (m : Nat), top m (l.filter q) = top m l
  | [], _ => rfl
  | s :: r, m => by
    cases e : q s with
    | true => rw [List.filter_cons, e]; exact top_filter hq r (up m s)
    | false =>
      rw [List.filter_cons, e]
      show top m (r.filter q) = top (up m s) r
      rw [up_write (hq s e)]; exact top_filter hq r m
theorem Chain.writes {F : Nat → Option File} {m : Nat} {D : Nm} (h : NmOk F m D) : ∀ {l : List Step}, (∀ s ∈ l, s.kind = 0 ∧ Plain s) → Chain F m D l
  | [], _ => h
  | s :: r, hl => by
    have hs := hl s (List.mem_cons_self ..)
    refine ⟨h, ⟨hs.2, fun e => by omega, fun e => by omega⟩, ?_⟩
    rw [ren_write hs.1, up_write hs.1]
    exact Chain.writes h fun t ht => hl t (List.mem_cons_of_mem _ ht)
theorem play_writes {D : Nm} : ∀ {l : List Step}, (∀ s ∈ l, s.kind = 0) → play D l = D
  | [], _ => rfl
  | s :: r, hl => by
    show play (ren s D) r = D
    rw [ren_write (hl s (List.mem_cons_self ..))]
    exact play_writes fun t ht => hl t (List.mem_cons_of_mem _ ht)
theorem top_writes {m : Nat} : ∀ {l : List Step}, (∀ s ∈ l, s.kind = 0) → top m l = m
  | [], _ => rfl
  | s :: r, hl => by
    show top (up m s) r = m
    rw [up_write (hl s (List.mem_cons_self ..))]
    exact top_writes fun t ht => hl t (List.mem_cons_of_mem _ ht)

theorem ren_vals {D : Nm} {s : Step} {n : Nat} (h : n ∈ (ren s D).map (·.2)) (hf : s.kind = 2 → (look D s.name).isSome = true) : n ∈ D.map (·.2) ∨ (s.kind = 1 ∧ n = s.file) := by
  unfold ren at h
  by_cases k1 : s.kind = 1
  · rw [if_pos k1] at h
    rcases List.mem_cons.1 (show n ∈ s.file :: (del D s.name).map (·.2) from h) with rfl | h'
    · exact .inr ⟨k1, rfl⟩
    · exact .inl (del_vals_sub h')
  · rw [if_neg k1] at h
    by_cases k2 : s.kind = 2
    · rw [if_pos k2] at h
      rcases List.mem_cons.1 (show n ∈ num D s.name :: (del (del D s.name) s.to).map (·.2) from h) with rfl | h'
      · exact .inl (List.mem_map.2 ⟨_, look_mem (num_some (hf k2)), rfl⟩)
      · exact .inl (del_vals_sub (del_vals_sub h'))
    · rw [if_neg k2] at h
      by_cases k3 : s.kind = 3
      · rw [if_pos k3] at h; exact .inl (del_vals_sub h)
      · rw [if_neg k3] at h; exact .inl h
theorem setF_ne {F : Nat → Option File} {n k : Nat} {x : Option File} (h : k ≠ n) : setF F n x k = F k := by unfold setF; rw [if_neg h]
theorem setF_eq {F : Nat → Option File} {n : Nat} {x : Option File} : setF F n x n = x := by unfold setF; rw [if_pos rfl]
/-- A file that no name names, and that is older than all that come, may go. -/
theorem Chain.drop {F : Nat → Option File} {n : Nat} : ∀ {l : List Step} {m : Nat} {D : Nm}, Chain F m D l → n ≤ m → n ∉ D.map (·.2) → Chain (setF F n none) m D l
  | [], m, D, h, hn, hD => NmOk.mono (F := F) h (fun p hp h' => by rw [setF_ne (fun e => hD (List.mem_map.2 ⟨p, hp, e⟩))]; exact h') (Nat.le_refl _)
  | s :: r, m, D, h, hn, hD => by
    refine ⟨h.1.mono (fun p hp h' => by rw [setF_ne (fun e => hD (List.mem_map.2 ⟨p, hp, e⟩))]; exact h') (Nat.le_refl _), h.2.1, Chain.drop h.2.2 ?_ ?_⟩
    · unfold up; split
      · rename_i k1; have := h.2.1.new k1; omega
      · exact hn
    · intro hm
      rcases ren_vals hm h.2.1.from_ with h' | ⟨k1, e⟩
      · exact hD h'
      · have := h.2.1.new k1; omega

theorem lost_out {F : Nat → Option File} {m : Nat} {D : Nm} {s : Step} (h : NmOk F m D) (f : Fit m D s) : lost s D ≤ up m s ∧ lost s D ∉ (ren s D).map (·.2) := by
  have hz : 0 ∉ D.map (·.2) := fun hm => by obtain ⟨q, hq, e⟩ := List.mem_map.1 hm; have := (h.le q hq).1; omega
  unfold lost
  by_cases k2 : s.kind = 2
  · rw [if_pos k2]
    have hl := num_some (f.from_ k2)
    have hr : ren s D = put (del D s.name) s.to (num D s.name) := by unfold ren; rw [if_neg (by omega), if_pos k2]
    have hu : up m s = m := by unfold up; rw [if_neg (by omega)]
    rw [hr, hu]
    cases e : look (del D s.name) s.to with
    | none =>
      have e0 : num (del D s.name) s.to = 0 := by unfold num; rw [e]; rfl
      rw [e0]
      refine ⟨Nat.zero_le _, fun hm => ?_⟩
      rcases List.mem_cons.1 (show 0 ∈ num D s.name :: (del (del D s.name) s.to).map (·.2) from hm) with h' | h'
      · have := (h.look hl).2.1; omega
      · exact hz (del_vals_sub (del_vals_sub h'))
    | some l =>
      have e0 : num (del D s.name) s.to = l := by unfold num; rw [e]; rfl
      rw [e0]
      have hd := (h.del s.name).look e
      refine ⟨hd.2.2, fun hm => ?_⟩
      rcases List.mem_cons.1 (show l ∈ num D s.name :: (del (del D s.name) s.to).map (·.2) from hm) with h' | h'
      · exact del_vals h.vals hl (by rw [← h']; exact List.mem_map.2 ⟨_, look_mem e, rfl⟩)
      · exact del_vals (h.del s.name).vals e h'
  · rw [if_neg k2]
    by_cases k3 : s.kind = 3
    · rw [if_pos k3]
      have hr : ren s D = del D s.name := by unfold ren; rw [if_neg (by omega), if_neg k2, if_pos k3]
      have hu : up m s = m := by unfold up; rw [if_neg (by omega)]
      rw [hr, hu]
      cases e : look D s.name with
      | none =>
        have e0 : num D s.name = 0 := by unfold num; rw [e]; rfl
        rw [e0]
        exact ⟨Nat.zero_le _, fun hm => hz (del_vals_sub hm)⟩
      | some l =>
        have e0 : num D s.name = l := by unfold num; rw [e]; rfl
        rw [e0]
        exact ⟨(h.look e).2.2, del_vals h.vals e⟩
    · rw [if_neg k3]
      refine ⟨Nat.zero_le _, fun hm => ?_⟩
      rcases ren_vals hm f.from_ with h' | ⟨k1, e⟩
      · exact hz h'
      · have := f.new k1; omega

theorem keep_dur {σ : St} {s : Step} (h : s.kind ≤ 3) : (keep σ s).durable = ren s σ.durable := by
  unfold keep
  by_cases k0 : s.kind = 0
  · rw [if_pos k0, ren_write k0]; split <;> rfl
  · rw [if_neg k0, if_pos h]
theorem Chain.keep {σ : St} {m : Nat} {s : Step} {r : List Step} (h : Chain σ.files m σ.durable (s :: r)) : Chain (keep σ s).files (up m s) (keep σ s).durable r := by
  have hk := h.2.1.plain.kind
  rw [keep_dur hk]
  have h2 : Chain σ.files (up m s) (ren s σ.durable) r := h.2.2
  unfold Vf.keep
  by_cases k0 : s.kind = 0
  · rw [if_pos k0]
    split
    · exact h2
    · rename_i x hx
      refine h2.mono fun n hn => ?_
      by_cases e : n = s.file
      · show setF _ _ _ n ≠ none
        rw [e, setF_eq]; simp
      · show setF _ _ _ n ≠ none
        rw [setF_ne e]; exact hn
  · rw [if_neg k0, if_pos hk]
    have ho := lost_out h.1 h.2.1
    exact h2.drop ho.1 ho.2
theorem Chain.keepAll {r : List Step} : ∀ {l : List Step} {σ : St} {m : Nat}, Chain σ.files m σ.durable (l ++ r) → Chain (keepAll σ l).files (top m l) (keepAll σ l).durable r ∧ (keepAll σ l).durable = play σ.durable l
  | [], _, _, h => ⟨h, rfl⟩
  | s :: l, σ, m, h => by
    have h' := Chain.keep (σ := σ) (s := s) (r := l ++ r) h
    have := Chain.keepAll (l := l) (σ := Vf.keep σ s) h'
    refine ⟨this.1, this.2.trans ?_⟩
    rw [keep_dur h.2.1.plain.kind]
    rfl

/-- How many bytes of the steps are written to a file. -/
def wsum (n : Nat) (l : List Step) : Nat := (l.map fun s => if s.kind = 0 ∧ s.file = n then s.size else 0).sum
theorem wsum_append (n : Nat) (l m : List Step) : wsum n (l ++ m) = wsum n l + wsum n m := by simp [wsum]
theorem wsum_cons (n : Nat) (s : Step) (l : List Step) : wsum n (s :: l) = (if s.kind = 0 ∧ s.file = n then s.size else 0) + wsum n l := by simp [wsum]
theorem wsum_parts (n : Nat) (q : Step → Bool) (l : List Step) : wsum n (l.filter q) + wsum n (l.filter fun s => !q s) = wsum n l := by
  induction l with
  | nil => rfl
  | cons s r ih =>
    rw [List.filter_cons, List.filter_cons, wsum_cons, ← ih]
    cases q s
    · simp [wsum_cons]; omega
    · simp [wsum_cons]; omega
theorem wsum_none {n : Nat} {l : List Step} (h : ∀ s ∈ l, ¬ (s.kind = 0 ∧ s.file = n)) : wsum n l = 0 := by
  induction l with
  | nil => rfl
  | cons s r ih => rw [wsum_cons, if_neg (h s (List.mem_cons_self ..)), ih fun t ht => h t (List.mem_cons_of_mem _ ht)]

theorem files_keep {σ : St} {s : Step} {n : Nat} {x : File} (h : (keep σ s).files n = some x) : ∃ y, σ.files n = some y ∧ x.bytes = y.bytes ∧ x.synced = y.synced + wsum n [s] := by
  have e1 : wsum n [s] = if s.kind = 0 ∧ s.file = n then s.size else 0 := by simp [wsum]
  rw [e1]
  unfold keep at h
  by_cases k0 : s.kind = 0
  · rw [if_pos k0] at h
    split at h
    · rename_i hx
      refine ⟨x, h, rfl, ?_⟩
      rw [if_neg]
      · rfl
      · intro hh; rw [hh.2, h] at hx; cases hx
    · rename_i y hx
      by_cases e : n = s.file
      · have h' : setF σ.files s.file (some { y with synced := y.synced + s.size }) n = some x := h
        rw [e, setF_eq] at h'
        rw [e, if_pos ⟨k0, rfl⟩]
        cases h'
        exact ⟨y, hx, rfl, rfl⟩
      · have h' : setF σ.files s.file (some { y with synced := y.synced + s.size }) n = some x := h
        rw [setF_ne e] at h'
        rw [if_neg (fun hh => e hh.2.symm)]
        exact ⟨x, h', rfl, rfl⟩
  · rw [if_neg k0] at h
    rw [if_neg (fun hh => k0 hh.1)]
    split at h
    · have h' : setF σ.files (lost s σ.durable) none n = some x := h
      unfold setF at h'
      split at h'
      · cases h'
      · exact ⟨x, h', rfl, rfl⟩
    · exact ⟨x, h, rfl, rfl⟩
theorem files_keepAll {n : Nat} {x : File} : ∀ {l : List Step} {σ : St}, (keepAll σ l).files n = some x → ∃ y, σ.files n = some y ∧ x.bytes = y.bytes ∧ x.synced = y.synced + wsum n l
  | [], _, h => ⟨x, h, rfl, rfl⟩
  | s :: r, σ, h => by
    obtain ⟨y, hy, e1, e2⟩ := files_keepAll (l := r) (σ := keep σ s) h
    obtain ⟨z, hz, e3, e4⟩ := files_keep hy
    refine ⟨z, hz, e1.trans e3, ?_⟩
    rw [e2, e4, wsum_cons]
    simp [wsum]
    omega

theorem ren_length (s : Step) (D : Nm) : (ren s D).length ≤ D.length + 1 := by
  have hd := fun k => (del_sub D k).length_le
  have hdd := fun k => (del_sub (del D s.name) k).length_le
  have h1 := hd s.name
  have h2 := hdd s.to
  unfold ren put
  split
  · rw [List.length_cons]; omega
  · split
    · rw [List.length_cons]; omega
    · split
      · omega
      · omega
theorem play_length : ∀ (l : List Step) (D : Nm), (play D l).length ≤ D.length + l.length
  | [], _ => Nat.le_refl _
  | s :: r, D => by
    have h1 := play_length r (ren s D)
    have h2 := ren_length s D
    have e : play D (s :: r) = play (ren s D) r := rfl
    rw [e, List.length_cons]
    omega

/-- The bytes of all files that names name. -/
def blen (F : Nat → Option File) (n : Nat) : Nat := match F n with | none => 0 | some x => x.bytes.length
def total (F : Nat → Option File) (H : Nm) : Nat := (H.map fun p => blen F p.2).sum
theorem total_cons (F : Nat → Option File) (p : Bs × Nat) (H : Nm) : total F (p :: H) = blen F p.2 + total F H := by simp [total]
theorem total_congr {F F' : Nat → Option File} {H : Nm} (h : ∀ p ∈ H, blen F p.2 = blen F' p.2) : total F H = total F' H := by
  unfold total
  rw [List.map_congr_left h]
theorem total_set {F : Nat → Option File} {n : Nat} {y : Option File} {H : Nm} (h : n ∉ H.map (·.2)) : total (setF F n y) H = total F H :=
  total_congr fun p hp => by unfold blen; rw [setF_ne (fun e => h (List.mem_map.2 ⟨p, hp, e⟩))]
theorem total_more {F : Nat → Option File} {n a : Nat} {y : Option File} : ∀ {H : Nm}, (H.map (·.2)).Nodup → n ∈ H.map (·.2) → blen (setF F n y) n = blen F n + a → total (setF F n y) H = total F H + a
  | [], _, hm, _ => by cases hm
  | p :: r, hd, hm, he => by
    rw [List.map_cons, List.nodup_cons] at hd
    rw [total_cons, total_cons]
    by_cases e : p.2 = n
    · rw [e, he, total_set (by rw [← e]; exact hd.1)]; omega
    · have hm' : n ∈ r.map (·.2) := by
        rcases List.mem_cons.1 (show n ∈ p.2 :: r.map (·.2) from hm) with h | h
        · exact absurd h.symm e
        · exact h
      have e1 : blen (setF F n y) p.2 = blen F p.2 := by unfold blen; rw [setF_ne e]
      rw [total_more hd.2 hm' he, e1]; omega
theorem total_del {F : Nat → Option File} {k : Bs} {n : Nat} : ∀ {H : Nm}, (H.map (·.1)).Nodup → look H k = some n → total F (del H k) + blen F n = total F H
  | [], _, h => by cases h
  | p :: r, hd, h => by
    obtain ⟨a, x⟩ := p
    rw [List.map_cons, List.nodup_cons] at hd
    by_cases e : a = k
    · subst e
      have h' : some x = some n := by
        have : look ((a, x) :: r) a = some x := by show (if a = a then some x else _) = _; rw [if_pos rfl]
        rw [← this]; exact h
      obtain rfl : n = x := (Option.some.inj h').symm
      have e1 : del ((a, n) :: r) a = r := by
        have : del ((a, n) :: r) a = del r a := by simp [del]
        rw [this]
        exact del_none ((look_none r a).2 hd.1)
      rw [e1, total_cons]
      show _ + blen F n = blen F n + _
      omega
    · have e1 : del ((a, x) :: r) k = (a, x) :: del r k := by simp [del, e]
      have h' : look r k = some n := by
        have : look ((a, x) :: r) k = look r k := by show (if a = k then some x else look r k) = _; rw [if_neg e]
        rw [← this]; exact h
      rw [e1, total_cons, total_cons, ← total_del hd.2 h']
      omega
theorem total_put (F : Nat → Option File) (H : Nm) (k : Bs) (n : Nat) : total F (put H k n) = blen F n + total F (del H k) := total_cons F (k, n) _

/-- What a file system keeps to, whatever is called. -/
structure Inv (σ : St) : Prop where
  room : σ.room ≤ 1073741824
  fuse : -1 ≤ σ.fuse ∧ σ.fuse ≤ 9223372036854775807
  chain : ∃ m, Chain σ.files m σ.durable σ.pending ∧ top m σ.pending ≤ σ.steps
  nums : ∀ n x, σ.files n = some x → 0 < n ∧ n ≤ σ.steps ∧ x.bytes.length ≤ 64 * σ.steps
  pend : ∀ n x, σ.files n = some x → x.synced + wsum n σ.pending = x.bytes.length
  wfile : ∀ s ∈ σ.pending, s.file ≤ σ.steps
  replay : σ.held = play σ.durable σ.pending
  used : σ.used = (total σ.files σ.held : Int)
  count : σ.durable.length + σ.pending.length ≤ σ.steps
end Vf
end Go.Proofs.YtlhnjloimhcpfabGreatDoor
namespace Go.Proofs.YtlhnjloimhcpfabGreatDoor
namespace Vf

theorem keepAll_rest : ∀ (l : List Step) (σ : St), (keepAll σ l).room = σ.room ∧ (keepAll σ l).used = σ.used ∧ (keepAll σ l).on = σ.on ∧ (keepAll σ l).fuse = σ.fuse ∧ (keepAll σ l).steps = σ.steps ∧ (keepAll σ l).held = σ.held ∧ (keepAll σ l).pending = σ.pending
  | [], _ => ⟨rfl, rfl, rfl, rfl, rfl, rfl, rfl⟩
  | s :: r, σ => by
    have h := keepAll_rest r (keep σ s)
    have e : (keep σ s).room = σ.room ∧ (keep σ s).used = σ.used ∧ (keep σ s).on = σ.on ∧ (keep σ s).fuse = σ.fuse ∧ (keep σ s).steps = σ.steps ∧ (keep σ s).held = σ.held ∧ (keep σ s).pending = σ.pending := by
      unfold keep
      split
      · split <;> exact ⟨rfl, rfl, rfl, rfl, rfl, rfl, rfl⟩
      · split <;> exact ⟨rfl, rfl, rfl, rfl, rfl, rfl, rfl⟩
    obtain ⟨h1, h2, h3, h4, h5, h6, h7⟩ := h
    obtain ⟨e1, e2, e3, e4, e5, e6, e7⟩ := e
    exact ⟨h1.trans e1, h2.trans e2, h3.trans e3, h4.trans e4, h5.trans e5, h6.trans e6, h7.trans e7⟩
theorem keep_write {σ : St} {s : Step} (k0 : s.kind = 0) : (keep σ s).durable = σ.durable ∧ ∀ n, σ.files n ≠ none → (keep σ s).files n ≠ none := by
  unfold keep
  rw [if_pos k0]
  split
  · exact ⟨rfl, fun _ h => h⟩
  · refine ⟨rfl, fun n h => ?_⟩
    show setF _ _ _ n ≠ none
    by_cases e : n = s.file
    · rw [e, setF_eq]; simp
    · rw [setF_ne e]; exact h
theorem keepAll_writes : ∀ {l : List Step} {σ : St}, (∀ s ∈ l, s.kind = 0) → (keepAll σ l).durable = σ.durable ∧ ∀ n, σ.files n ≠ none → (keepAll σ l).files n ≠ none
  | [], _, _ => ⟨rfl, fun _ h => h⟩
  | s :: r, σ, h => by
    have h1 := keep_write (σ := σ) (h s (List.mem_cons_self ..))
    have h2 := keepAll_writes (l := r) (σ := keep σ s) fun t ht => h t (List.mem_cons_of_mem _ ht)
    exact ⟨h2.1.trans h1.1, fun n hn => h2.2 n (h1.2 n hn)⟩
theorem blen_keepAll {σ : St} {l : List Step} {n : Nat} (h : (keepAll σ l).files n ≠ none) : blen (keepAll σ l).files n = blen σ.files n := by
  obtain ⟨x, hx⟩ := Option.ne_none_iff_exists'.1 h
  obtain ⟨y, hy, e, _⟩ := files_keepAll hx
  simp only [blen, hx, hy, e]

theorem ne_of_some {F : Nat → Option File} {n : Nat} {x : File} (h : F n = some x) : F n ≠ none := by rw [h]; simp
theorem play_snoc (D : Nm) (l : List Step) (s : Step) : play D (l ++ [s]) = ren s (play D l) := by unfold play; rw [List.foldl_append]; rfl
theorem top_snoc (m : Nat) (l : List Step) (s : Step) : top m (l ++ [s]) = up (top m l) s := by unfold top; rw [List.foldl_append]; rfl

theorem Inv.new {room : Nat} (h : room ≤ 1073741824) : Inv (new room) :=
  ⟨h, ⟨(by show (-1 : Int) ≤ -1; omega), (by show (-1 : Int) ≤ 9223372036854775807; omega)⟩, ⟨0, ⟨List.nodup_nil, List.nodup_nil, fun p hp => (by cases hp), fun p hp => (by cases hp), fun p hp => (by cases hp)⟩, Nat.le_refl _⟩, fun n x hx => (by cases hx), fun n x hx => (by cases hx), fun s hs => (by cases hs), rfl, rfl, Nat.le_refl _⟩
theorem Inv.turn {σ : St} (h : Inv σ) (on : Bool) (fuse : Int) (hf : -1 ≤ fuse ∧ fuse ≤ 9223372036854775807) : Inv { σ with on := on, fuse := fuse } := ⟨h.room, hf, h.chain, h.nums, h.pend, h.wfile, h.replay, h.used, h.count⟩
theorem Inv.tick {σ : St} (h : Inv σ) : Inv (tick σ) := by
  obtain ⟨m, hc, ht⟩ := h.chain
  have hf := h.fuse
  refine ⟨h.room, ?_, ⟨m, hc, Nat.le_succ_of_le ht⟩, fun n x hx => ?_, h.pend, fun s hs => Nat.le_succ_of_le (h.wfile s hs), h.replay, h.used, Nat.le_succ_of_le h.count⟩
  · show -1 ≤ (if σ.fuse = -1 then -1 else σ.fuse - 1) ∧ (if σ.fuse = -1 then -1 else σ.fuse - 1) ≤ 9223372036854775807
    split <;> omega
  · obtain ⟨h1, h2, h3⟩ := h.nums n x hx
    exact ⟨h1, Nat.le_succ_of_le h2, by show _ ≤ 64 * (σ.steps + 1); omega⟩
theorem Inv.heldOk {σ : St} (h : Inv σ) : NmOk σ.files σ.steps σ.held := by
  obtain ⟨m, hc, ht⟩ := h.chain
  rw [h.replay]
  exact hc.last.mono (fun _ _ h => h) ht
theorem Inv.durOk {σ : St} (h : Inv σ) : NmOk σ.files σ.steps σ.durable := by
  obtain ⟨m, hc, ht⟩ := h.chain
  refine hc.head.mono (fun _ _ h => h) (Nat.le_trans ?_ ht)
  have : ∀ (l : List Step) (m : Nat) (D : Nm), Chain σ.files m D l → m ≤ top m l := by
    intro l
    induction l with
    | nil => intro m D _; exact Nat.le_refl _
    | cons s r ih =>
      intro m D h
      have h1 := ih (up m s) (ren s D) h.2.2
      have h2 : m ≤ up m s := by
        unfold up; split
        · rename_i k1; have := h.2.1.new k1; omega
        · exact Nat.le_refl _
      exact Nat.le_trans h2 h1
  exact this _ _ _ hc
theorem Inv.plain {σ : St} (h : Inv σ) : ∀ s ∈ σ.pending, Plain s := by obtain ⟨m, hc, _⟩ := h.chain; exact hc.plain

/-- A sync of a file. -/
theorem Inv.settleF {σ : St} (h : Inv σ) (F : Nat) : Inv (settle (fun p => decide (p.kind = 0) && decide (p.file = F)) σ) := by
  obtain ⟨m, hc, ht⟩ := h.chain
  obtain ⟨q, hq⟩ : ∃ q : Step → Bool, q = fun p => decide (p.kind = 0) && decide (p.file = F) := ⟨_, rfl⟩
  rw [← hq]
  have q0 : ∀ s, q s = true → s.kind = 0 := fun s hs => by rw [hq] at hs; simp at hs; exact hs.1
  have q1 : ∀ s, (!q s) = false → s.kind = 0 := fun s hs => q0 s (by simpa using hs)
  have hl : ∀ s ∈ σ.pending.filter q, s.kind = 0 := fun s hs => q0 s (List.mem_filter.1 hs).2
  obtain ⟨r1, r2, r3, r4, r5, r6, _⟩ := keepAll_rest (σ.pending.filter q) σ
  obtain ⟨kd, kf⟩ := keepAll_writes (σ := σ) hl
  have hH := h.heldOk
  refine ⟨by show (keepAll σ _).room ≤ _; rw [r1]; exact h.room, by show -1 ≤ (keepAll σ (σ.pending.filter q)).fuse ∧ (keepAll σ (σ.pending.filter q)).fuse ≤ 9223372036854775807; rw [r4]; exact h.fuse, ⟨m, ?_, ?_⟩, fun n x hx => ?_, fun n x hx => ?_, fun s hs => ?_, ?_, ?_, ?_⟩
  · show Chain (keepAll σ _).files m (keepAll σ _).durable (σ.pending.filter fun s => !q s)
    rw [kd]
    exact (hc.filter q1).mono kf
  · show top m (σ.pending.filter fun s => !q s) ≤ (keepAll σ _).steps
    rw [r5, top_filter q1]; exact ht
  · obtain ⟨y, hy, e, _⟩ := files_keepAll (show (keepAll σ _).files n = some x from hx)
    show 0 < n ∧ n ≤ (keepAll σ _).steps ∧ _ ≤ 64 * (keepAll σ _).steps
    rw [r5, e]; exact h.nums n y hy
  · obtain ⟨y, hy, e, e2⟩ := files_keepAll (show (keepAll σ _).files n = some x from hx)
    show _ + wsum n (σ.pending.filter fun s => !q s) = _
    have := h.pend n y hy
    have := wsum_parts n q σ.pending
    rw [e, e2]; omega
  · show s.file ≤ (keepAll σ _).steps
    rw [r5]; exact h.wfile s (List.mem_filter.1 hs).1
  · show (keepAll σ _).held = play (keepAll σ _).durable (σ.pending.filter fun s => !q s)
    rw [r6, kd, play_filter q1]; exact h.replay
  · show (keepAll σ _).used = (total (keepAll σ _).files (keepAll σ _).held : Int)
    rw [r2, r6, h.used, total_congr (F := (keepAll σ _).files) fun p hp => blen_keepAll (kf _ (hH.here p hp))]
  · show (keepAll σ _).durable.length + (σ.pending.filter fun s => !q s).length ≤ (keepAll σ _).steps
    rw [kd, r5]
    have := h.count
    have := List.length_filter_le (fun s => !q s) σ.pending
    omega

theorem filter_parts (q : Step → Bool) (l : List Step) : (l.filter q).length + (l.filter fun s => !q s).length = l.length := by
  induction l with
  | nil => rfl
  | cons s r ih =>
    rw [List.filter_cons, List.filter_cons, List.length_cons, ← ih]
    cases q s
    · simp; omega
    · simp; omega

/-- A sync of the names. -/
theorem Inv.settleN {σ : St} (h : Inv σ) : Inv (settle (fun p => !decide (p.kind = 0)) σ) := by
  obtain ⟨m, hc, ht⟩ := h.chain
  obtain ⟨q, hq⟩ : ∃ q : Step → Bool, q = fun p => !decide (p.kind = 0) := ⟨_, rfl⟩
  rw [← hq]
  have q1 : ∀ s, q s = false → s.kind = 0 := fun s hs => by rw [hq] at hs; simpa using hs
  have q2 : ∀ s, q s = true → ¬ s.kind = 0 := fun s hs => by rw [hq] at hs; simpa using hs
  have hr : ∀ s ∈ σ.pending.filter fun s => !q s, s.kind = 0 := fun s hs => q1 s (by simpa using (List.mem_filter.1 hs).2)
  obtain ⟨r1, r2, r3, r4, r5, r6, _⟩ := keepAll_rest (σ.pending.filter q) σ
  obtain ⟨kc, kd⟩ := Chain.keepAll (l := σ.pending.filter q) (r := []) (σ := σ) (m := m) (by rw [List.append_nil]; exact hc.filter q1)
  have kd' : (keepAll σ (σ.pending.filter q)).durable = σ.held := by rw [kd, play_filter q1]; exact h.replay.symm
  have nm : NmOk (keepAll σ (σ.pending.filter q)).files (top m (σ.pending.filter q)) (keepAll σ (σ.pending.filter q)).durable := kc
  refine ⟨by show (keepAll σ _).room ≤ _; rw [r1]; exact h.room, by show -1 ≤ (keepAll σ (σ.pending.filter q)).fuse ∧ (keepAll σ (σ.pending.filter q)).fuse ≤ 9223372036854775807; rw [r4]; exact h.fuse, ⟨top m (σ.pending.filter q), ?_, ?_⟩, fun n x hx => ?_, fun n x hx => ?_, fun s hs => ?_, ?_, ?_, ?_⟩
  · exact Chain.writes nm fun s hs => ⟨hr s hs, h.plain s (List.mem_filter.1 hs).1⟩
  · show top _ (σ.pending.filter fun s => !q s) ≤ (keepAll σ _).steps
    rw [r5, top_writes hr, top_filter q1]; exact ht
  · obtain ⟨y, hy, e, _⟩ := files_keepAll (show (keepAll σ _).files n = some x from hx)
    show 0 < n ∧ n ≤ (keepAll σ _).steps ∧ _ ≤ 64 * (keepAll σ _).steps
    rw [r5, e]; exact h.nums n y hy
  · obtain ⟨y, hy, e, e2⟩ := files_keepAll (show (keepAll σ _).files n = some x from hx)
    show _ + wsum n (σ.pending.filter fun s => !q s) = _
    have := h.pend n y hy
    have := wsum_parts n q σ.pending
    rw [e, e2]; omega
  · show s.file ≤ (keepAll σ _).steps
    rw [r5]; exact h.wfile s (List.mem_filter.1 hs).1
  · show (keepAll σ _).held = play (keepAll σ _).durable (σ.pending.filter fun s => !q s)
    rw [play_writes hr, r6, kd']
  · show (keepAll σ _).used = (total (keepAll σ _).files (keepAll σ _).held : Int)
    rw [r2, r6, h.used, total_congr (F := (keepAll σ _).files) fun p hp => blen_keepAll (nm.here p (by rw [kd']; exact hp))]
  · show (keepAll σ _).durable.length + (σ.pending.filter fun s => !q s).length ≤ (keepAll σ _).steps
    have h1 := play_length (σ.pending.filter q) σ.durable
    have h2 := filter_parts q σ.pending
    have h3 := h.count
    rw [r5, kd]
    omega

theorem fit_write {m : Nat} {D : Nm} {n z : Nat} (h0 : 0 < z) (h1 : z ≤ 64) : Fit m D ⟨0, n, z, [], []⟩ := ⟨⟨Nat.zero_le _, h1, fun _ => h0, Nat.zero_le _, Nat.zero_le _⟩, fun e => (by cases e), fun e => (by cases e)⟩

/-- A write. -/
theorem Inv.write {σ : St} (h : Inv σ) (h0 : σ.fuse ≠ 0) {k : Bs} {n : Nat} (hk : look σ.held k = some n) {p : Bs} (hp : 0 < p.length) (hp2 : p.length ≤ 64) :
    Inv (doSt σ ⟨0, n, p.length, [], []⟩ p) ∧ (doSt σ ⟨0, n, p.length, [], []⟩ p).held = σ.held ∧ (doSt σ ⟨0, n, p.length, [], []⟩ p).steps = σ.steps + 1 := by
  have hH := h.heldOk
  obtain ⟨hn, n0, n1⟩ := hH.look hk
  obtain ⟨x, hx⟩ := Option.ne_none_iff_exists'.1 hn
  have e : doSt σ ⟨0, n, p.length, [], []⟩ p = { Vf.tick σ with files := setF σ.files n (some { x with bytes := x.bytes ++ p }), used := σ.used + p.length, pending := σ.pending ++ [⟨0, n, p.length, [], []⟩] } := by
    unfold doSt
    rw [if_neg h0]
    unfold act
    rw [if_pos rfl]
    unfold Vf.write
    have : (Vf.tick σ).files n = some x := hx
    simp only [this]
    rfl
  rw [e]
  have hT := h.tick
  obtain ⟨m, hc, ht⟩ := hT.chain
  have mono : ∀ k, (Vf.tick σ).files k ≠ none → setF σ.files n (some { x with bytes := x.bytes ++ p }) k ≠ none := fun k hk => by
    by_cases ek : k = n
    · rw [ek, setF_eq]; simp
    · rw [setF_ne ek]; exact hk
  have hmem : n ∈ σ.held.map (·.2) := List.mem_map.2 ⟨_, look_mem hk, rfl⟩
  refine ⟨⟨hT.room, hT.fuse, ⟨m, (hc.mono mono).snoc (fun e => (by cases e)) (fit_write hp hp2), ?_⟩, fun j y hy => ?_, fun j y hy => ?_, fun s hs => ?_, ?_, ?_, ?_⟩, rfl, rfl⟩
  · show top m (σ.pending ++ [_]) ≤ σ.steps + 1
    rw [top_snoc, up_write rfl]; exact ht
  · have hy' : setF σ.files n (some { x with bytes := x.bytes ++ p }) j = some y := hy
    by_cases ej : j = n
    · subst ej
      rw [setF_eq] at hy'
      cases hy'
      have := h.nums j x hx
      refine ⟨n0, Nat.le_succ_of_le n1, ?_⟩
      show (x.bytes ++ p).length ≤ 64 * (σ.steps + 1)
      rw [List.length_append]; omega
    · rw [setF_ne ej] at hy'
      exact hT.nums j y hy'
  · have hy' : setF σ.files n (some { x with bytes := x.bytes ++ p }) j = some y := hy
    show y.synced + wsum j (σ.pending ++ [_]) = y.bytes.length
    rw [wsum_append]
    have e1 : wsum j [⟨0, n, p.length, [], []⟩] = if n = j then p.length else 0 := by simp [wsum]
    rw [e1]
    by_cases ej : j = n
    · subst ej
      rw [setF_eq] at hy'
      cases hy'
      have := h.pend j x hx
      rw [if_pos rfl]
      show x.synced + _ = (x.bytes ++ p).length
      rw [List.length_append]; omega
    · rw [setF_ne ej] at hy'
      rw [if_neg (fun e => ej e.symm)]
      have := h.pend j y hy'
      omega
  · rcases List.mem_append.1 (show s ∈ σ.pending ++ [_] from hs) with h' | h'
    · exact hT.wfile s h'
    · rw [List.mem_singleton.1 h']; exact Nat.le_succ_of_le n1
  · show σ.held = play σ.durable (σ.pending ++ [_])
    rw [play_snoc, ren_write rfl]; exact h.replay
  · show σ.used + p.length = (total _ σ.held : Int)
    rw [total_more (a := p.length) hH.vals hmem (by unfold blen; rw [setF_eq, hx]; exact List.length_append), h.used]
    omega
  · show σ.durable.length + (σ.pending ++ [_]).length ≤ σ.steps + 1
    rw [List.length_append]
    have := h.count
    show _ + (_ + 1) ≤ _
    omega

/-- A naming. -/
theorem Inv.naming {σ : St} (h : Inv σ) (h0 : σ.fuse ≠ 0) {k : Bs} (hk : look σ.held k = none) (hl : k.length ≤ 32) : Inv (doSt σ ⟨1, 0, 0, k, []⟩ []) := by
  have e : doSt σ ⟨1, 0, 0, k, []⟩ [] = { Vf.tick σ with files := setF σ.files (σ.steps + 1) (some ⟨[], 0⟩), held := put σ.held k (σ.steps + 1), pending := σ.pending ++ [⟨1, σ.steps + 1, 0, k, []⟩] } := by
    unfold doSt
    rw [if_neg h0]
    rfl
  rw [e]
  have hT := h.tick
  have hH := h.heldOk
  obtain ⟨m, hc, ht⟩ := h.chain
  have hfree : σ.files (σ.steps + 1) = none := by
    cases hx : σ.files (σ.steps + 1) with
    | none => rfl
    | some x => have := h.nums _ x hx; omega
  have mono : ∀ j, σ.files j ≠ none → setF σ.files (σ.steps + 1) (some ⟨[], 0⟩) j ≠ none := fun j hj => by
    by_cases ej : j = σ.steps + 1
    · rw [ej, setF_eq]; simp
    · rw [setF_ne ej]; exact hj
  refine ⟨hT.room, hT.fuse, ⟨m, (hc.mono mono).snoc (fun _ => by show setF _ _ _ (σ.steps + 1) ≠ none; rw [setF_eq]; simp) ⟨⟨(by show 1 ≤ 3; omega), Nat.zero_le _, fun e => (by cases e), hl, Nat.zero_le _⟩, fun _ => (by show _ < σ.steps + 1; omega), fun e => (by cases e)⟩, ?_⟩, fun j y hy => ?_, fun j y hy => ?_, fun s hs => ?_, ?_, ?_, ?_⟩
  · show top m (σ.pending ++ [_]) ≤ σ.steps + 1
    rw [top_snoc]; exact Nat.le_refl _
  · have hy' : setF σ.files (σ.steps + 1) (some ⟨[], 0⟩) j = some y := hy
    by_cases ej : j = σ.steps + 1
    · rw [ej, setF_eq] at hy'
      cases hy'
      exact ⟨by omega, by rw [ej]; exact Nat.le_refl _, Nat.zero_le _⟩
    · rw [setF_ne ej] at hy'
      exact hT.nums j y hy'
  · have hy' : setF σ.files (σ.steps + 1) (some ⟨[], 0⟩) j = some y := hy
    show y.synced + wsum j (σ.pending ++ [_]) = y.bytes.length
    rw [wsum_append]
    have e1 : wsum j [⟨1, σ.steps + 1, 0, k, []⟩] = 0 := by simp [wsum]
    rw [e1]
    by_cases ej : j = σ.steps + 1
    · rw [ej, setF_eq] at hy'
      cases hy'
      rw [wsum_none (fun s hs hh => by have := h.wfile s hs; omega)]
      rfl
    · rw [setF_ne ej] at hy'
      exact h.pend j y hy'
  · rcases List.mem_append.1 (show s ∈ σ.pending ++ [_] from hs) with h' | h'
    · exact hT.wfile s h'
    · rw [List.mem_singleton.1 h']; exact Nat.le_refl _
  · show put σ.held k (σ.steps + 1) = play σ.durable (σ.pending ++ [_])
    rw [play_snoc, ← h.replay]
    rfl
  · show σ.used = (total _ (put σ.held k (σ.steps + 1)) : Int)
    rw [total_put, del_none hk, total_set (fun hm => by obtain ⟨q, hq, eq⟩ := List.mem_map.1 hm; have := (hH.le q hq).2; omega), h.used]
    have : blen (setF σ.files (σ.steps + 1) (some ⟨[], 0⟩)) (σ.steps + 1) = 0 := by unfold blen; rw [setF_eq]; rfl
    rw [this]; omega
  · show σ.durable.length + (σ.pending ++ [_]).length ≤ σ.steps + 1
    rw [List.length_append]
    have := h.count
    show _ + (_ + 1) ≤ _
    omega

/-- A move or an unnaming. -/
theorem Inv.moving {σ : St} (h : Inv σ) (h0 : σ.fuse ≠ 0) {s : Step} (hs : s.kind = 2 ∨ s.kind = 3) (hz : s.size = 0) (hf : s.file = 0) (hl : (look σ.held s.name).isSome = true) (h1 : s.name.length ≤ 32) (h2 : s.to.length ≤ 32) : Inv (doSt σ s []) := by
  have e : doSt σ s [] = { Vf.tick σ with held := ren s σ.held, used := (match σ.files (lost s σ.held) with | none => σ.used | some x => σ.used - x.bytes.length), pending := σ.pending ++ [s] } := by
    unfold doSt
    rw [if_neg h0]
    unfold act
    rw [if_neg (by omega), if_neg (by omega), if_pos (by omega)]
    rfl
  rw [e]
  have hT := h.tick
  have hH := h.heldOk
  obtain ⟨m, hc, ht⟩ := h.chain
  have hzero : σ.files 0 = none := by
    cases hx : σ.files 0 with
    | none => rfl
    | some x => have := h.nums _ x hx; omega
  have k1 : ¬ s.kind = 1 := by omega
  refine ⟨hT.room, hT.fuse, ⟨m, hc.snoc (fun e => absurd e k1) ⟨⟨(by omega), (by omega), fun e => (by omega), h1, h2⟩, fun e => absurd e k1, fun _ => (by rw [← h.replay]; exact hl)⟩, ?_⟩, hT.nums, fun j y hy => ?_, fun t ht' => ?_, ?_, ?_, ?_⟩
  · show top m (σ.pending ++ [s]) ≤ σ.steps + 1
    rw [top_snoc]; unfold up; rw [if_neg k1]; omega
  · show y.synced + wsum j (σ.pending ++ [s]) = y.bytes.length
    rw [wsum_append, wsum_none (l := [s]) (fun t ht' hh => by rw [List.mem_singleton.1 ht'] at hh; omega)]
    exact h.pend j y hy
  · rcases List.mem_append.1 (show t ∈ σ.pending ++ [s] from ht') with h' | h'
    · exact hT.wfile t h'
    · rw [List.mem_singleton.1 h', hf]; exact Nat.zero_le _
  · show ren s σ.held = play σ.durable (σ.pending ++ [s])
    rw [play_snoc, ← h.replay]
  · show (match σ.files (lost s σ.held) with | none => σ.used | some x => σ.used - x.bytes.length) = (total σ.files (ren s σ.held) : Int)
    have hn := num_some hl
    have hd := total_del (F := σ.files) hH.keys hn
    rcases hs with k2 | k3
    · have e1 : lost s σ.held = num (del σ.held s.name) s.to := by unfold lost; rw [if_pos k2]
      have e2 : ren s σ.held = put (del σ.held s.name) s.to (num σ.held s.name) := by unfold ren; rw [if_neg k1, if_pos k2]
      rw [e1, e2, total_put]
      cases el : look (del σ.held s.name) s.to with
      | none =>
        have e3 : num (del σ.held s.name) s.to = 0 := by unfold num; rw [el]; rfl
        rw [e3, hzero, del_none el]
        show σ.used = _
        rw [h.used]; omega
      | some l =>
        have e3 : num (del σ.held s.name) s.to = l := by unfold num; rw [el]; rfl
        obtain ⟨x, hx⟩ := Option.ne_none_iff_exists'.1 ((hH.del s.name).look el).1
        have hd2 := total_del (F := σ.files) (hH.del s.name).keys el
        have bl : blen σ.files l = x.bytes.length := by unfold blen; rw [hx]
        rw [e3, hx]
        show σ.used - _ = _
        rw [h.used]; omega
    · have e1 : lost s σ.held = num σ.held s.name := by unfold lost; rw [if_neg (by omega), if_pos k3]
      have e2 : ren s σ.held = del σ.held s.name := by unfold ren; rw [if_neg k1, if_neg (by omega), if_pos k3]
      obtain ⟨x, hx⟩ := Option.ne_none_iff_exists'.1 (hH.look hn).1
      have bl : blen σ.files (num σ.held s.name) = x.bytes.length := by unfold blen; rw [hx]
      rw [e1, e2, hx]
      show σ.used - _ = _
      rw [h.used]; omega
  · show σ.durable.length + (σ.pending ++ [s]).length ≤ σ.steps + 1
    rw [List.length_append]
    have := h.count
    show _ + (_ + 1) ≤ _
    omega
end Vf
end Go.Proofs.YtlhnjloimhcpfabGreatDoor
namespace Go.Proofs.YtlhnjloimhcpfabGreatDoor
namespace Vf

theorem find_four {σ : St} {k : Bs} (h : findE σ k = 4) : σ.on = true ∧ fine k = true ∧ look σ.held k = none := by
  unfold findE refuse at h
  cases ho : σ.on <;> cases hf : fine k <;> cases hl : look σ.held k <;> simp [ho, hf, hl] at h ⊢
theorem find_zero' {σ : St} {k : Bs} (h : findE σ k = 0) : σ.on = true ∧ fine k = true ∧ (look σ.held k).isSome = true := by
  unfold findE refuse at h
  cases ho : σ.on <;> cases hf : fine k <;> cases hl : look σ.held k <;> simp [ho, hf, hl] at h ⊢
theorem fine_short {k : Bs} (h : fine k = true) : k.length ≤ 32 := by unfold fine at h; simp at h; exact h.2

theorem doSt_off {σ : St} {s : Step} {b : Bs} (h : σ.fuse = 0) : doSt σ s b = { σ with on := false } := by unfold doSt; rw [if_pos h]
theorem Inv.off {σ : St} (h : Inv σ) : Inv { σ with on := false } := h.turn false σ.fuse h.fuse
theorem settle_steps (q : Step → Bool) (σ : St) : (settle q σ).steps = σ.steps := (keepAll_rest _ σ).2.2.2.2.1
theorem settle_held (q : Step → Bool) (σ : St) : (settle q σ).held = σ.held := (keepAll_rest _ σ).2.2.2.2.2.1
theorem settle_fuse (q : Step → Bool) (σ : St) : (settle q σ).fuse = σ.fuse := (keepAll_rest _ σ).2.2.2.1
theorem settle_on (q : Step → Bool) (σ : St) : (settle q σ).on = σ.on := (keepAll_rest _ σ).2.2.1
theorem settle_room (q : Step → Bool) (σ : St) : (settle q σ).room = σ.room := (keepAll_rest _ σ).1

theorem act_steps (σ : St) (s : Step) (b : Bs) : (act σ s b).steps = σ.steps ∧ (act σ s b).fuse = σ.fuse ∧ (act σ s b).on = σ.on ∧ (act σ s b).room = σ.room := by
  unfold act pend write
  split
  · split <;> exact ⟨rfl, rfl, rfl, rfl⟩
  · split
    · exact ⟨rfl, rfl, rfl, rfl⟩
    · split
      · exact ⟨rfl, rfl, rfl, rfl⟩
      · split
        · exact ⟨settle_steps _ _, settle_fuse _ _, settle_on _ _, settle_room _ _⟩
        · exact ⟨settle_steps _ _, settle_fuse _ _, settle_on _ _, settle_room _ _⟩
theorem doSt_steps (σ : St) (s : Step) (b : Bs) : (doSt σ s b).steps ≤ σ.steps + 1 ∧ σ.steps ≤ (doSt σ s b).steps := by
  unfold doSt
  split
  · exact ⟨Nat.le_succ _, Nat.le_refl _⟩
  · rw [(act_steps (tick σ) s b).1]; exact ⟨Nat.le_refl _, Nat.le_succ _⟩
theorem doSt_room (σ : St) (s : Step) (b : Bs) : (doSt σ s b).room = σ.room := by
  unfold doSt
  split
  · rfl
  · rw [(act_steps (tick σ) s b).2.2.2]; rfl

theorem Inv.create {σ : St} (h : Inv σ) (k : Bs) : Inv (create σ k) := by
  unfold Vf.create
  split
  · rename_i hf
    obtain ⟨_, hfi, hl⟩ := find_four hf
    by_cases h0 : σ.fuse = 0
    · rw [doSt_off h0]; exact h.off
    · exact h.naming h0 hl (fine_short hfi)
  · exact h
theorem Inv.remove {σ : St} (h : Inv σ) (k : Bs) : Inv (remove σ k) := by
  unfold Vf.remove
  split
  · rename_i hf
    obtain ⟨_, hfi, hl⟩ := find_zero' hf
    by_cases h0 : σ.fuse = 0
    · rw [doSt_off h0]; exact h.off
    · exact h.moving h0 (.inr rfl) rfl rfl hl (fine_short hfi) (Nat.zero_le _)
  · exact h
theorem rename_if {σ : St} {k t : Bs} (h : renameE σ k t = 0 ∨ (refuse σ [k, t] = 0 ∧ findE σ k = 0)) : refuse σ [k, t] = 0 ∧ findE σ k = 0 := by
  rcases h with h | h
  · unfold renameE at h
    split at h
    · rename_i h1
      split at h
      · rename_i h2; exact ⟨h1, h2⟩
      · rename_i h2; exact absurd h h2
    · rename_i h1; exact absurd h h1
  · exact h
theorem refuse_two {σ : St} {k t : Bs} (h : refuse σ [k, t] = 0) : σ.on = true ∧ fine k = true ∧ fine t = true := by
  unfold refuse at h
  cases ho : σ.on <;> cases hf : fine k <;> cases ht : fine t <;> simp [ho, hf, ht] at h ⊢
theorem Inv.rename {σ : St} (h : Inv σ) (k t : Bs) : Inv (rename σ k t) := by
  unfold Vf.rename
  split
  · rename_i hf
    obtain ⟨h1, h2⟩ := rename_if hf
    obtain ⟨_, hfk, hft⟩ := refuse_two h1
    obtain ⟨_, _, hl⟩ := find_zero' h2
    by_cases h0 : σ.fuse = 0
    · rw [doSt_off h0]; exact h.off
    · exact h.moving h0 (.inl rfl) rfl rfl hl (fine_short hfk) (fine_short hft)
  · exact h
theorem Inv.sync {σ : St} (h : Inv σ) (k : Bs) : Inv (sync σ k) := by
  unfold Vf.sync
  split
  · by_cases h0 : σ.fuse = 0
    · rw [doSt_off h0]; exact h.off
    · unfold doSt
      rw [if_neg h0]
      exact h.tick.settleF _
  · exact h
theorem Inv.syncNames {σ : St} (h : Inv σ) : Inv (syncNames σ) := by
  unfold Vf.syncNames
  split
  · by_cases h0 : σ.fuse = 0
    · rw [doSt_off h0]; exact h.off
    · unfold doSt
      rw [if_neg h0]
      exact h.tick.settleN
  · exact h
theorem Inv.setFuse {σ : St} (h : Inv σ) (n : Int) (hn : n ≤ 9223372036854775807) : Inv (setFuse σ n) := by
  unfold Vf.setFuse
  split
  · rename_i hf
    refine h.turn σ.on n ⟨?_, hn⟩
    unfold fuseE at hf
    split at hf
    · split at hf
      · cases hf
      · omega
    · rename_i h1; exact absurd hf h1
  · exact h
theorem Inv.safe {σ : St} (h : Inv σ) : Inv (safe σ) := by
  unfold Vf.safe
  split
  · exact h.turn σ.on (-1) ⟨by omega, by omega⟩
  · exact h

theorem cut_sizes : ∀ (n : Nat) (b : Bs), n ≤ (b.length + 63) / 64 → ∀ p ∈ cut b n, 0 < p.length ∧ p.length ≤ 64
  | 0, _, _, p, hp => by cases hp
  | n + 1, b, h, p, hp => by
    rcases List.mem_cons.1 (show p ∈ b.take 64 :: cut (b.drop 64) n from hp) with rfl | hp'
    · rw [List.length_take]; omega
    · exact cut_sizes n (b.drop 64) (by rw [List.length_drop]; omega) p hp'
theorem cut_join : ∀ (n : Nat) (b : Bs), b.length ≤ 64 * n → (cut b n).flatten = b
  | 0, b, h => by
    have : b = [] := List.eq_nil_of_length_eq_zero (by omega)
    rw [this]; rfl
  | n + 1, b, h => by
    show (b.take 64 :: cut (b.drop 64) n).flatten = b
    rw [List.flatten_cons, cut_join n (b.drop 64) (by rw [List.length_drop]; omega), List.take_append_drop]
theorem pieces_sizes (b : Bs) : ∀ p ∈ pieces b, 0 < p.length ∧ p.length ≤ 64 := cut_sizes _ b (Nat.le_refl _)
theorem pieces_join (b : Bs) : (pieces b).flatten = b := cut_join _ b (by omega)
theorem cut_length : ∀ (n : Nat) (b : Bs), (cut b n).length = n
  | 0, _ => rfl
  | n + 1, b => by show (cut (b.drop 64) n).length + 1 = _; rw [cut_length n]
theorem pieces_length (b : Bs) : (pieces b).length = (b.length + 63) / 64 := cut_length _ b

theorem pour_cons {σ : St} {n : Nat} {p : Bs} {r : List Bs} : pour σ n (p :: r) = if σ.fuse = 0 then { σ with on := false } else pour (doSt σ ⟨0, n, p.length, [], []⟩ p) n r := rfl
theorem Inv.pour {k : Bs} {n : Nat} : ∀ {l : List Bs} {σ : St}, Inv σ → look σ.held k = some n → (∀ p ∈ l, 0 < p.length ∧ p.length ≤ 64) → Inv (pour σ n l) ∧ (pour σ n l).held = σ.held ∧ (pour σ n l).steps ≤ σ.steps + l.length ∧ σ.steps ≤ (pour σ n l).steps
  | [], σ, h, _, _ => ⟨h, rfl, Nat.le_refl _, Nat.le_refl _⟩
  | p :: r, σ, h, hk, hl => by
    rw [pour_cons]
    by_cases h0 : σ.fuse = 0
    · rw [if_pos h0]; exact ⟨h.off, rfl, Nat.le_add_right _ _, Nat.le_refl _⟩
    · rw [if_neg h0]
      obtain ⟨hp, hp2⟩ := hl p (List.mem_cons_self ..)
      obtain ⟨h1, h2, h3⟩ := h.write h0 hk hp hp2
      obtain ⟨g1, g2, g3, g4⟩ := Inv.pour (l := r) h1 (by rw [h2]; exact hk) fun q hq => hl q (List.mem_cons_of_mem _ hq)
      refine ⟨g1, g2.trans h2, ?_, ?_⟩
      · rw [List.length_cons]; omega
      · omega
theorem Inv.append {σ : St} (h : Inv σ) (k b : Bs) : Inv (append σ k b) ∧ (append σ k b).steps ≤ σ.steps + (b.length + 63) / 64 := by
  unfold Vf.append
  split
  · rename_i hf
    obtain ⟨_, _, hl⟩ := find_zero' hf
    split
    · exact ⟨h, Nat.le_add_right _ _⟩
    · have := h.pour (num_some hl) (pieces_sizes b)
      rw [pieces_length] at this
      exact ⟨this.1, this.2.2.1⟩
  · exact ⟨h, Nat.le_add_right _ _⟩

theorem kept_length (l : List Step) (k t : Nat) : (kept l k t).length ≤ l.length := by
  unfold kept
  rw [List.length_append, List.length_take]
  split
  · simp
    omega
  · rename_i s r e
    have : (l.drop k).length = (s :: r).length := by rw [e]
    rw [List.length_drop, List.length_cons] at this
    split
    · simp; omega
    · simp; omega
theorem wsum_kept (n : Nat) (l : List Step) (k t : Nat) : wsum n (kept l k t) ≤ wsum n l := by
  have h : wsum n l = wsum n (l.take k) + wsum n (l.drop k) := by rw [← wsum_append, List.take_append_drop]
  unfold kept
  rw [h, wsum_append]
  split
  · simp [wsum]
  · rename_i s r e
    rw [e, wsum_cons]
    split
    · have : wsum n [({ s with size := min t (s.size - 1) } : Step)] ≤ if s.kind = 0 ∧ s.file = n then s.size else 0 := by
        have e1 : wsum n [({ s with size := min t (s.size - 1) } : Step)] = if s.kind = 0 ∧ s.file = n then min t (s.size - 1) else 0 := by simp [wsum]
        rw [e1]
        split
        · omega
        · exact Nat.le_refl _
      omega
    · simp [wsum]

/-- What is durable when the power is back. -/
theorem Inv.keptOk {σ : St} (h : Inv σ) (k t : Nat) : NmOk (keepAll σ (kept σ.pending k t)).files σ.steps (keepAll σ (kept σ.pending k t)).durable ∧ (keepAll σ (kept σ.pending k t)).durable = play σ.durable (σ.pending.take k) := by
  obtain ⟨m, hc, ht⟩ := h.chain
  have hc' : Chain σ.files m σ.durable (σ.pending.take k ++ σ.pending.drop k) := by rw [List.take_append_drop]; exact hc
  obtain ⟨kc, kd⟩ := Chain.keepAll hc'
  have hm : top m (σ.pending.take k) ≤ σ.steps := by
    have e : top m σ.pending = top (top m (σ.pending.take k)) (σ.pending.drop k) := by
      have : top m (σ.pending.take k ++ σ.pending.drop k) = top (top m (σ.pending.take k)) (σ.pending.drop k) := by unfold top; rw [List.foldl_append]
      rw [List.take_append_drop] at this; exact this
    have mono : ∀ (l : List Step) (F : Nat → Option File) (m : Nat) (D : Nm), Chain F m D l → m ≤ top m l := by
      intro l
      induction l with
      | nil => intro F m D _; exact Nat.le_refl _
      | cons s r ih =>
        intro F m D h
        have h1 := ih F (up m s) (ren s D) h.2.2
        have h2 : m ≤ up m s := by
          unfold up; split
          · rename_i k1; have := h.2.1.new k1; omega
          · exact Nat.le_refl _
        exact Nat.le_trans h2 h1
    have := mono _ _ _ _ kc
    omega
  have nm := kc.head.mono (F' := (keepAll σ (σ.pending.take k)).files) (m' := σ.steps) (fun _ _ h => h) hm
  have e : keepAll σ (kept σ.pending k t) = keepAll (keepAll σ (σ.pending.take k)) (match σ.pending.drop k with | [] => [] | s :: _ => if s.kind = 0 then [{ s with size := min t (s.size - 1) }] else []) := by
    unfold kept keepAll; rw [List.foldl_append]; rfl
  rw [e]
  split
  · exact ⟨nm, kd⟩
  · split
    · rename_i s r hd h0
      have kw := keep_write (σ := keepAll σ (σ.pending.take k)) (s := { s with size := min t (s.size - 1) }) h0
      refine ⟨?_, kw.1.trans kd⟩
      show NmOk (Vf.keep _ _).files _ (Vf.keep _ _).durable
      rw [kw.1]
      exact nm.mono (fun p _ h => kw.2 p.2 h) (Nat.le_refl _)
    · exact ⟨nm, kd⟩
theorem Inv.keptBytes {σ : St} (h : Inv σ) (k t : Nat) {n : Nat} {x : File} (hx : (keepAll σ (kept σ.pending k t)).files n = some x) : ∃ y, σ.files n = some y ∧ x.bytes = y.bytes ∧ x.synced = y.synced + wsum n (kept σ.pending k t) ∧ x.synced ≤ x.bytes.length := by
  obtain ⟨y, hy, e1, e2⟩ := files_keepAll hx
  refine ⟨y, hy, e1, e2, ?_⟩
  have h1 := h.pend n y hy
  have h2 := wsum_kept n σ.pending k t
  rw [e1, e2]; omega
theorem crash_files {σ : St} {k t n : Nat} {x : File} (h : (crash σ k t).files n = some x) : ∃ y, (keepAll σ (kept σ.pending k t)).files n = some y ∧ x = { y with bytes := y.bytes.take y.synced } ∧ n ∈ (keepAll σ (kept σ.pending k t)).durable.map (·.2) := by
  have h' : (if n ∈ (keepAll σ (kept σ.pending k t)).durable.map (·.2) then ((keepAll σ (kept σ.pending k t)).files n).map (fun x => { x with bytes := x.bytes.take x.synced }) else none) = some x := h
  split at h'
  · rename_i hm
    cases hy : (keepAll σ (kept σ.pending k t)).files n with
    | none => rw [hy] at h'; cases h'
    | some y => rw [hy] at h'; cases h'; exact ⟨y, rfl, rfl, hm⟩
  · cases h'
theorem crash_has {σ : St} {k t n : Nat} {y : File} (hy : (keepAll σ (kept σ.pending k t)).files n = some y) (hm : n ∈ (keepAll σ (kept σ.pending k t)).durable.map (·.2)) : (crash σ k t).files n = some { y with bytes := y.bytes.take y.synced } := by
  show (if n ∈ (keepAll σ (kept σ.pending k t)).durable.map (·.2) then ((keepAll σ (kept σ.pending k t)).files n).map (fun x => { x with bytes := x.bytes.take x.synced }) else none) = _
  rw [if_pos hm, hy]; rfl
theorem Inv.crash {σ : St} (h : Inv σ) (k t : Nat) : Inv (crash σ k t) := by
  obtain ⟨nm, hd⟩ := h.keptOk k t
  obtain ⟨r1, r2, r3, r4, r5, r6, _⟩ := keepAll_rest (kept σ.pending k t) σ
  have here : ∀ p ∈ (keepAll σ (kept σ.pending k t)).durable, ∃ y, (keepAll σ (kept σ.pending k t)).files p.2 = some y ∧ (Vf.crash σ k t).files p.2 = some { y with bytes := y.bytes.take y.synced } := fun p hp => by
    obtain ⟨y, hy⟩ := Option.ne_none_iff_exists'.1 (nm.here p hp)
    exact ⟨y, hy, crash_has hy (List.mem_map.2 ⟨p, hp, rfl⟩)⟩
  refine ⟨(by show (keepAll σ _).room ≤ _; rw [r1]; exact h.room), ⟨(by show (-1 : Int) ≤ -1; omega), (by show (-1 : Int) ≤ 9223372036854775807; omega)⟩, ⟨σ.steps, ?_, ?_⟩, fun n x hx => ?_, fun n x hx => ?_, fun s hs => (by cases hs), rfl, ?_, ?_⟩
  · exact nm.mono (fun p hp _ => by obtain ⟨y, _, hy⟩ := here p hp; rw [hy]; simp) (Nat.le_refl _)
  · show σ.steps ≤ (keepAll σ _).steps
    rw [r5]; exact Nat.le_refl _
  · obtain ⟨y, hy, rfl, _⟩ := crash_files hx
    obtain ⟨z, hz, e1, _, _⟩ := h.keptBytes k t hy
    have := h.nums n z hz
    show 0 < n ∧ n ≤ (keepAll σ _).steps ∧ (y.bytes.take y.synced).length ≤ 64 * (keepAll σ _).steps
    rw [r5, List.length_take, e1]
    omega
  · obtain ⟨y, hy, rfl, _⟩ := crash_files hx
    obtain ⟨z, hz, e1, _, hle⟩ := h.keptBytes k t hy
    show y.synced + 0 = (y.bytes.take y.synced).length
    rw [List.length_take]; omega
  · show ((sum (keepAll σ _).files (keepAll σ _).durable : Nat) : Int) = (total (Vf.crash σ k t).files (keepAll σ _).durable : Nat)
    congr 1
    unfold sum total
    congr 1
    refine List.map_congr_left fun p hp => ?_
    obtain ⟨y, hy, hy'⟩ := here p hp
    obtain ⟨z, hz, e1, _, hle⟩ := h.keptBytes k t hy
    unfold blen
    rw [hy, hy']
    show y.synced = (y.bytes.take y.synced).length
    rw [List.length_take]; omega
  · show (keepAll σ _).durable.length + 0 ≤ (keepAll σ _).steps
    rw [r5, hd]
    have h1 := play_length (σ.pending.take k) σ.durable
    have h2 := h.count
    rw [List.length_take] at h1
    omega
theorem crash_steps (σ : St) (k t : Nat) : (crash σ k t).steps = σ.steps := (keepAll_rest (kept σ.pending k t) σ).2.2.2.2.1
theorem crash_room (σ : St) (k t : Nat) : (crash σ k t).room = σ.room := (keepAll_rest (kept σ.pending k t) σ).1

theorem Inv.alter {σ : St} (h : Inv σ) (k : Bs) (at_ : Int) (bits : UInt8) : Inv (alter σ k at_ bits) := by
  unfold Vf.alter
  split
  · split
    · exact h
    · rename_i x hx
      obtain ⟨m, hc, ht⟩ := h.chain
      have hb : ∀ j y, setF σ.files (num σ.durable k) (some { x with bytes := x.bytes.set at_.toNat ((x.bytes[at_.toNat]?.getD 0) ^^^ bits) }) j = some y → ∃ z, σ.files j = some z ∧ y.synced = z.synced ∧ y.bytes.length = z.bytes.length := fun j y hy => by
        by_cases ej : j = num σ.durable k
        · rw [ej, setF_eq] at hy
          cases hy
          exact ⟨x, by rw [ej]; exact hx, rfl, List.length_set⟩
        · rw [setF_ne ej] at hy
          exact ⟨y, hy, rfl, rfl⟩
      refine ⟨h.room, h.fuse, ⟨m, hc.mono fun j hj => ?_, ht⟩, fun j y hy => ?_, fun j y hy => ?_, h.wfile, h.replay, ?_, h.count⟩
      · show setF _ _ _ j ≠ none
        by_cases ej : j = num σ.durable k
        · rw [ej, setF_eq]; simp
        · rw [setF_ne ej]; exact hj
      · obtain ⟨z, hz, _, e⟩ := hb j y hy
        show _ ∧ _ ∧ _ ≤ 64 * σ.steps
        rw [e]; exact h.nums j z hz
      · obtain ⟨z, hz, e1, e⟩ := hb j y hy
        show y.synced + wsum j σ.pending = _
        rw [e, e1]; exact h.pend j z hz
      · show σ.used = (total _ σ.held : Nat)
        rw [h.used]
        congr 1
        refine total_congr fun p _ => ?_
        show blen σ.files p.2 = blen (setF σ.files (num σ.durable k) (some { x with bytes := x.bytes.set at_.toNat ((x.bytes[at_.toNat]?.getD 0) ^^^ bits) })) p.2
        unfold blen
        by_cases ej : p.2 = num σ.durable k
        · rw [ej, setF_eq, hx]
          exact List.length_set.symm
        · rw [setF_ne ej]
  · exact h
end Vf
end Go.Proofs.YtlhnjloimhcpfabGreatDoor
namespace Go.Proofs.YtlhnjloimhcpfabGreatDoor
namespace Vf

/-- All but the power and the fuse is as it was. -/
structure Alike (σ τ : St) : Prop where
  files : τ.files = σ.files
  durable : τ.durable = σ.durable
  pending : τ.pending = σ.pending
  held : τ.held = σ.held
theorem Alike.refl (σ : St) : Alike σ σ := ⟨rfl, rfl, rfl, rfl⟩
theorem Alike.off (σ : St) : Alike σ { σ with on := false } := ⟨rfl, rfl, rfl, rfl⟩

theorem doE_zero {σ : St} (h : doE σ = 0) : σ.fuse ≠ 0 := fun h0 => by unfold doE at h; rw [if_pos h0] at h; cases h
theorem doE_fail {σ : St} {s : Step} {b : Bs} (h : doE σ ≠ 0) : Alike σ (doSt σ s b) := by
  have h0 : σ.fuse = 0 := by
    unfold doE at h
    split at h
    · assumption
    · exact absurd rfl h
  rw [doSt_off h0]; exact Alike.off σ

theorem create_fail {σ : St} {k : Bs} (h : createE σ k ≠ 0) : Alike σ (create σ k) := by
  unfold create
  split
  · rename_i h4
    refine doE_fail ?_
    unfold createE at h
    rw [if_neg (by rw [h4]; decide), if_pos h4] at h
    exact h
  · exact Alike.refl σ
theorem create_done {σ : St} {k : Bs} (h : createE σ k = 0) : findE σ k = 4 ∧ σ.fuse ≠ 0 := by
  unfold createE at h
  split at h
  · cases h
  · split at h
    · rename_i h4; exact ⟨h4, doE_zero h⟩
    · rename_i h0 _; exact absurd h h0
theorem sync_fail {σ : St} {k : Bs} (h : syncE σ k ≠ 0) : Alike σ (sync σ k) := by
  unfold sync
  split
  · rename_i h0
    refine doE_fail ?_
    unfold syncE at h
    rw [if_pos h0] at h
    exact h
  · exact Alike.refl σ
theorem sync_done {σ : St} {k : Bs} (h : syncE σ k = 0) : findE σ k = 0 ∧ σ.fuse ≠ 0 := by
  unfold syncE at h
  split at h
  · rename_i h0; exact ⟨h0, doE_zero h⟩
  · rename_i h0; exact absurd h h0
theorem syncNames_fail {σ : St} (h : syncNamesE σ ≠ 0) : Alike σ (syncNames σ) := by
  unfold syncNames
  split
  · rename_i h0
    refine doE_fail ?_
    unfold syncNamesE at h
    rw [if_pos h0] at h
    exact h
  · exact Alike.refl σ
theorem syncNames_done {σ : St} (h : syncNamesE σ = 0) : σ.on = true ∧ σ.fuse ≠ 0 := by
  unfold syncNamesE at h
  split at h
  · rename_i h0
    refine ⟨?_, doE_zero h⟩
    cases ho : σ.on with
    | true => rfl
    | false => unfold refuse at h0; rw [ho] at h0; cases h0
  · rename_i h0; exact absurd h h0
theorem rename_fail {σ : St} {k t : Bs} (h : renameE σ k t ≠ 0) : Alike σ (rename σ k t) := by
  unfold rename
  split
  · rename_i hf
    obtain ⟨h1, h2⟩ := rename_if hf
    refine doE_fail ?_
    unfold renameE at h
    rw [if_pos h1, if_pos h2] at h
    exact h
  · exact Alike.refl σ
theorem rename_done {σ : St} {k t : Bs} (h : renameE σ k t = 0) : refuse σ [k, t] = 0 ∧ findE σ k = 0 ∧ σ.fuse ≠ 0 := by
  have h' := rename_if (σ := σ) (k := k) (t := t) (.inl h)
  unfold renameE at h
  rw [if_pos h'.1, if_pos h'.2] at h
  exact ⟨h'.1, h'.2, doE_zero h⟩

/-- The writes of some pieces. -/
def writes (n : Nat) (l : List Bs) : List Step := l.map fun p => ⟨0, n, p.length, [], []⟩
theorem writes_kind {n : Nat} {l : List Bs} : ∀ s ∈ writes n l, s.kind = 0 := fun s hs => by
  obtain ⟨p, _, rfl⟩ := List.mem_map.1 hs
  rfl
theorem wsum_writes (n : Nat) : ∀ (l : List Bs), wsum n (writes n l) = l.flatten.length
  | [] => rfl
  | p :: r => by
    show wsum n (⟨0, n, p.length, [], []⟩ :: writes n r) = _
    rw [wsum_cons, wsum_writes n r, List.flatten_cons, List.length_append]
    simp

theorem write_is {σ : St} {n : Nat} {x : File} (hx : σ.files n = some x) (h0 : σ.fuse ≠ 0) (p : Bs) : doSt σ ⟨0, n, p.length, [], []⟩ p = { tick σ with files := setF σ.files n (some { x with bytes := x.bytes ++ p }), used := σ.used + p.length, pending := σ.pending ++ [⟨0, n, p.length, [], []⟩] } := by
  unfold doSt
  rw [if_neg h0]
  unfold act
  rw [if_pos rfl]
  unfold write
  have : (tick σ).files n = some x := hx
  simp only [this]
  rfl

/-- Pieces are written until the power goes. -/
theorem pour_is (n : Nat) : ∀ (l : List Bs) (σ : St) (x : File), σ.files n = some x → ∃ d, d <+: l ∧ (pour σ n l).files = setF σ.files n (some { x with bytes := x.bytes ++ d.flatten }) ∧ (pour σ n l).held = σ.held ∧ (pour σ n l).durable = σ.durable ∧ (pour σ n l).pending = σ.pending ++ writes n d ∧ (pourE σ n l = 0 → d = l ∧ (pour σ n l).on = σ.on) ∧ (pour σ n l).room = σ.room ∧ ((pour σ n l).used = σ.used + d.flatten.length)
  | [], σ, x, hx => by
    refine ⟨[], List.prefix_refl _, ?_, rfl, rfl, by simp [pour, writes], fun _ => ⟨rfl, rfl⟩, rfl, by simp [pour]⟩
    funext k
    unfold setF
    split
    · rename_i e; rw [e]; simp [pour, hx]
    · rfl
  | p :: r, σ, x, hx => by
    rw [pour_cons]
    by_cases h0 : σ.fuse = 0
    · rw [if_pos h0]
      refine ⟨[], List.nil_prefix, ?_, rfl, rfl, by simp [writes], fun h => ?_, rfl, by simp⟩
      · funext k
        unfold setF
        split
        · rename_i e; rw [e]; simp [hx]
        · rfl
      · have : pourE σ n (p :: r) = if σ.fuse = 0 then 7 else pourE (doSt σ ⟨0, n, p.length, [], []⟩ p) n r := rfl
        rw [this, if_pos h0] at h
        cases h
    · rw [if_neg h0]
      have e := write_is hx h0 p
      obtain ⟨d, h1, h2, h3, h4, h5, h6, h7, h8⟩ := pour_is n r (doSt σ ⟨0, n, p.length, [], []⟩ p) { x with bytes := x.bytes ++ p } (by rw [e]; exact setF_eq)
      refine ⟨p :: d, List.prefix_cons_inj p |>.2 h1, ?_, ?_, ?_, ?_, fun h => ?_, ?_, ?_⟩
      · rw [h2, e]
        funext k
        show setF (setF σ.files n _) n _ k = setF σ.files n _ k
        unfold setF
        split
        · simp
        · rfl
      · rw [h3, e]; rfl
      · rw [h4, e]; rfl
      · rw [h5, e]; simp [writes]
      · have : pourE σ n (p :: r) = if σ.fuse = 0 then 7 else pourE (doSt σ ⟨0, n, p.length, [], []⟩ p) n r := rfl
        rw [this, if_neg h0] at h
        obtain ⟨g1, g2⟩ := h6 h
        rw [g1, g2, e]; exact ⟨rfl, rfl⟩
      · rw [h7, e]; rfl
      · rw [h8, e]
        show σ.used + (p.length : Int) + _ = _
        rw [List.flatten_cons, List.length_append]
        omega

theorem append_is {σ : St} {k b : Bs} (i : Inv σ) : (Alike σ (append σ k b) ∧ appendE σ k b ≠ 0) ∨ (findE σ k = 0 ∧ (b.length : Int) ≤ left σ ∧ ∃ x d, σ.files (num σ.held k) = some x ∧ d <+: pieces b ∧ (append σ k b).files = setF σ.files (num σ.held k) (some { x with bytes := x.bytes ++ d.flatten }) ∧ (append σ k b).held = σ.held ∧ (append σ k b).durable = σ.durable ∧ (append σ k b).pending = σ.pending ++ writes (num σ.held k) d ∧ (appendE σ k b = 0 → d = pieces b ∧ (append σ k b).on = σ.on) ∧ (append σ k b).room = σ.room ∧ (append σ k b).used = σ.used + d.flatten.length) := by
  unfold append appendE
  by_cases h0 : findE σ k = 0
  · rw [if_pos h0, if_pos h0]
    by_cases h1 : (b.length : Int) > left σ
    · rw [if_pos h1, if_pos h1]; exact .inl ⟨Alike.refl σ, by decide⟩
    · rw [if_neg h1, if_neg h1]
      obtain ⟨x, hx⟩ := Option.ne_none_iff_exists'.1 (i.heldOk.look (num_some (find_zero' h0).2.2)).1
      obtain ⟨d, h⟩ := pour_is (num σ.held k) (pieces b) σ x hx
      exact .inr ⟨h0, by omega, x, d, hx, h⟩
  · rw [if_neg h0, if_neg h0]
    exact .inl ⟨Alike.refl σ, h0⟩

theorem pour_nofuse (n : Nat) : ∀ (l : List Bs) (σ : St), σ.fuse = -1 → pourE σ n l = 0 ∧ (pour σ n l).fuse = -1
  | [], _, h => ⟨rfl, h⟩
  | p :: r, σ, h => by
    have h0 : σ.fuse ≠ 0 := by omega
    have hf : (doSt σ ⟨0, n, p.length, [], []⟩ p).fuse = -1 := by
      unfold doSt
      rw [if_neg h0, (act_steps (tick σ) _ _).2.1]
      show (if σ.fuse = -1 then -1 else σ.fuse - 1) = -1
      rw [if_pos h]
    have := pour_nofuse n r _ hf
    rw [pour_cons, if_neg h0]
    refine ⟨?_, this.2⟩
    show (if σ.fuse = 0 then 7 else _) = _
    rw [if_neg h0]; exact this.1

/-- What a sync of a file does. -/
theorem sync_is {σ : St} {k : Bs} (i : Inv σ) (h : syncE σ k = 0) : (sync σ k).held = σ.held ∧ (sync σ k).durable = σ.durable ∧ (sync σ k).pending = σ.pending.filter (fun p => !(decide (p.kind = 0) && decide (p.file = num σ.held k))) ∧ (sync σ k).on = σ.on ∧ (∀ n x, (sync σ k).files n = some x → ∃ y, σ.files n = some y ∧ x.bytes = y.bytes) ∧ (∀ n y, σ.files n = some y → ∃ x, (sync σ k).files n = some x ∧ x.bytes = y.bytes ∧ y.synced ≤ x.synced) ∧ ∀ x, (sync σ k).files (num σ.held k) = some x → x.synced = x.bytes.length := by
  obtain ⟨hf, h0⟩ := sync_done h
  have hi := i.sync k
  have e : sync σ k = settle (fun p => decide (p.kind = 0) && decide (p.file = num σ.held k)) (tick σ) := by
    unfold sync
    rw [if_pos hf]
    unfold doSt
    rw [if_neg h0]
    rfl
  obtain ⟨r1, r2, r3, r4, r5, r6, r7⟩ := keepAll_rest ((tick σ).pending.filter fun p => decide (p.kind = 0) && decide (p.file = num σ.held k)) (tick σ)
  have hw : ∀ s ∈ (tick σ).pending.filter (fun p => decide (p.kind = 0) && decide (p.file = num σ.held k)), s.kind = 0 := fun s hs => by
    have := (List.mem_filter.1 hs).2
    simp at this
    exact this.1
  obtain ⟨kd, kf⟩ := keepAll_writes (σ := tick σ) hw
  rw [e] at hi ⊢
  refine ⟨r6, kd, rfl, r3, fun n x hx => ?_, fun n y hy => ?_, fun x hx => ?_⟩
  · obtain ⟨y, hy, e1, _⟩ := files_keepAll hx
    exact ⟨y, hy, e1⟩
  · obtain ⟨x, hx⟩ := Option.ne_none_iff_exists'.1 (kf n (by show σ.files n ≠ none; rw [hy]; simp))
    obtain ⟨y', hy', e1, e2⟩ := files_keepAll hx
    have : y' = y := by have h' : σ.files n = some y' := hy'; rw [hy] at h'; exact (Option.some.inj h').symm
    subst this
    exact ⟨x, hx, e1, by omega⟩
  · have := hi.pend _ x hx
    rw [← this]
    have e2 : wsum (num σ.held k) (settle (fun p => decide (p.kind = 0) && decide (p.file = num σ.held k)) (tick σ)).pending = 0 := wsum_none fun s hs hh => by
      have := (List.mem_filter.1 hs).2
      simp at this
      exact this.elim (fun h => h hh.1) (fun h => h hh.2)
    rw [e2]; rfl

/-- What a sync of the names does. -/
theorem syncNames_is {σ : St} (i : Inv σ) (h : syncNamesE σ = 0) : (syncNames σ).held = σ.held ∧ (syncNames σ).durable = σ.held ∧ (syncNames σ).pending = σ.pending.filter (fun p => decide (p.kind = 0)) ∧ (syncNames σ).on = σ.on ∧ (∀ n x, (syncNames σ).files n = some x → σ.files n = some x) ∧ ∀ n y, n ∈ σ.held.map (·.2) → σ.files n = some y → (syncNames σ).files n = some y := by
  obtain ⟨ho, h0⟩ := syncNames_done h
  have hi := i.syncNames
  have e : syncNames σ = settle (fun p => !decide (p.kind = 0)) (tick σ) := by
    unfold syncNames
    rw [if_pos (by unfold refuse; rw [ho]; rfl)]
    unfold doSt
    rw [if_neg h0]
    rfl
  obtain ⟨r1, r2, r3, r4, r5, r6, r7⟩ := keepAll_rest ((tick σ).pending.filter fun p => !decide (p.kind = 0)) (tick σ)
  have hp : (settle (fun p => !decide (p.kind = 0)) (tick σ)).pending = σ.pending.filter fun p => decide (p.kind = 0) := by
    show σ.pending.filter (fun s => !(!decide (s.kind = 0))) = _
    simp
  have hw : ∀ s ∈ (settle (fun p => !decide (p.kind = 0)) (tick σ)).pending, s.kind = 0 := fun s hs => by
    rw [hp] at hs
    simpa using (List.mem_filter.1 hs).2
  rw [e] at hi ⊢
  have hd : (settle (fun p => !decide (p.kind = 0)) (tick σ)).durable = σ.held := by
    have := hi.replay
    rw [play_writes hw] at this
    exact this.symm.trans r6
  have back : ∀ n x, (settle (fun p => !decide (p.kind = 0)) (tick σ)).files n = some x → σ.files n = some x := fun n x hx => by
    obtain ⟨y, hy, e1, e2⟩ := files_keepAll (show (keepAll (tick σ) _).files n = some x from hx)
    have e3 : wsum n ((tick σ).pending.filter fun p => !decide (p.kind = 0)) = 0 := wsum_none fun s hs hh => by
      have := (List.mem_filter.1 hs).2
      simp at this
      exact this hh.1
    rw [e3] at e2
    have : x = y := by cases x; cases y; simp_all
    rw [this]; exact hy
  refine ⟨r6, hd, hp, r3, back, fun n y hn hy => ?_⟩
  have nm := hi.durOk
  rw [hd] at nm
  obtain ⟨p, hpm, rfl⟩ := List.mem_map.1 hn
  obtain ⟨x, hx⟩ := Option.ne_none_iff_exists'.1 (nm.here p hpm)
  have := back _ x hx
  rw [hy] at this
  rw [hx, ← this]

/-- What is read behind a crash. -/
theorem crash_read {σ : St} (i : Inv σ) {c : Bs} (hc : fine c = true) {k t n : Nat} (hl : look (play σ.durable (σ.pending.take k)) c = some n) {y : File} (hy : σ.files n = some y) : findE (crash σ k t) c = 0 ∧ read (crash σ k t) c = y.bytes.take (y.synced + wsum n (kept σ.pending k t)) := by
  obtain ⟨nm, hd⟩ := i.keptOk k t
  have hheld : (crash σ k t).held = play σ.durable (σ.pending.take k) := hd
  have hlook : look (crash σ k t).held c = some n := by rw [hheld]; exact hl
  rw [hd] at nm
  obtain ⟨x, hx⟩ := Option.ne_none_iff_exists'.1 (nm.look hl).1
  obtain ⟨y', hy', e1, e2, _⟩ := i.keptBytes k t hx
  have : y' = y := by rw [hy] at hy'; exact (Option.some.inj hy').symm
  subst this
  have hf : findE (crash σ k t) c = 0 := by
    unfold findE refuse
    rw [hlook]
    show (if (if true = true then if [c].all fine = true then 0 else 2 else 7) = 0 then _ else _) = _
    simp [hc]
  refine ⟨hf, ?_⟩
  have hfl := crash_has hx (by rw [hd]; exact List.mem_map.2 ⟨_, look_mem hl, rfl⟩)
  unfold read
  rw [if_pos hf]
  have hn : num (crash σ k t).held c = n := by unfold num; rw [hlook]; rfl
  rw [hn]
  unfold bytesOf
  rw [hfl]
  show x.bytes.take x.synced = _
  rw [e1, e2]
end Vf
end Go.Proofs.YtlhnjloimhcpfabGreatDoor
namespace Go.Proofs.YtlhnjloimhcpfabGreatDoor
open Go.RowKit Go.Maps Go.Sort

namespace Vf
theorem ren_le {D : Nm} {s : Step} {M : Nat} (h : ∀ p ∈ D, p.2 ≤ M) (hs : s.file ≤ M) : ∀ p ∈ ren s D, p.2 ≤ M := by
  have hd : ∀ k, ∀ p ∈ del D k, p.2 ≤ M := fun k p hp => h p (mem_del.1 hp).1
  have hn : ∀ k, num D k ≤ M := fun k => by
    unfold num
    cases e : look D k with
    | none => exact Nat.zero_le _
    | some n => exact h _ (look_mem e)
  intro p hp
  unfold ren at hp
  split at hp
  · rcases List.mem_cons.1 (show p ∈ (s.name, s.file) :: del D s.name from hp) with rfl | hp'
    · exact hs
    · exact hd _ p hp'
  · split at hp
    · rcases List.mem_cons.1 (show p ∈ (s.to, num D s.name) :: del (del D s.name) s.to from hp) with rfl | hp'
      · exact hn _
      · exact hd _ p (mem_del.1 hp').1
    · split at hp
      · exact hd _ p hp
      · exact h p hp
theorem keepAll_le {M : Nat} : ∀ {l : List Step} {σ : St}, (∀ p ∈ σ.durable, p.2 ≤ M) → (∀ s ∈ l, s.kind ≤ 3 ∧ s.file ≤ M) → ∀ p ∈ (keepAll σ l).durable, p.2 ≤ M
  | [], _, h, _ => h
  | s :: r, σ, h, hl => keepAll_le (l := r) (σ := keep σ s) (by rw [keep_dur (hl s (List.mem_cons_self ..)).1]; exact ren_le h (hl s (List.mem_cons_self ..)).2) fun t ht => hl t (List.mem_cons_of_mem _ ht)
theorem keepAll_len : ∀ {l : List Step} {σ : St}, (∀ s ∈ l, s.kind ≤ 3) → (keepAll σ l).durable.length ≤ σ.durable.length + l.length
  | [], _, _ => Nat.le_refl _
  | s :: r, σ, hl => by
    have h1 := keepAll_len (l := r) (σ := keep σ s) fun t ht => hl t (List.mem_cons_of_mem _ ht)
    rw [keep_dur (hl s (List.mem_cons_self ..))] at h1
    have h2 := ren_length s σ.durable
    show (keepAll (keep σ s) r).durable.length ≤ _
    rw [List.length_cons]; omega
theorem wsum_le (n : Nat) : ∀ {l : List Step}, (∀ s ∈ l, s.size ≤ 64) → wsum n l ≤ 64 * l.length
  | [], _ => Nat.le_refl _
  | s :: r, h => by
    have h1 := wsum_le n (l := r) fun t ht => h t (List.mem_cons_of_mem _ ht)
    have h2 := h s (List.mem_cons_self ..)
    rw [wsum_cons, List.length_cons]
    split <;> omega
theorem num_le {D : Nm} {M : Nat} (h : ∀ p ∈ D, p.2 ≤ M) (k : Bs) : num D k ≤ M := by
  unfold num
  cases e : look D k with
  | none => exact Nat.zero_le _
  | some n => exact h _ (look_mem e)
end Vf

theorem keep_ok {σ : Vf.St} (h : Vf.Inv σ) (hs : σ.steps ≤ 100000001) {l : List Vf.Step} (hl : ∀ s ∈ l, s ∈ σ.pending) (hn : l.length ≤ σ.pending.length) {s : Vf.Step} (hm : s ∈ σ.pending) {z : Nat} (hz : z ≤ s.size) (τ : Vf.St) (e1 : τ.durable = (Vf.keepAll σ l).durable) (e2 : τ.files = (Vf.keepAll σ l).files) : KeepOk τ { s with size := z } := by
  have pl := h.plain s hm
  have hf := h.wfile s hm
  have hc := h.count
  have le := Vf.keepAll_le (M := σ.steps) (l := l) (σ := σ) (fun p hp => (h.durOk.le p hp).2) (fun t ht => ⟨(h.plain t (hl t ht)).kind, h.wfile t (hl t ht)⟩)
  refine ⟨⟨?_, ?_, ?_, ?_, ?_⟩, pl.kind, ?_, ?_, ?_⟩
  · show s.name.length ≤ _; have := pl.name; omega
  · show s.to.length ≤ _; have := pl.to; omega
  · show s.file ≤ _; omega
  · show z ≤ _; have := pl.size; omega
  · show s.kind ≤ _; have := pl.kind; omega
  · have := Vf.keepAll_len (l := l) (σ := σ) (fun t ht => (h.plain t (hl t ht)).kind)
    rw [e1]; omega
  · intro k
    rw [e1]
    have := Vf.num_le le k
    omega
  · intro x hx
    rw [e2] at hx
    obtain ⟨y, hy, _, e⟩ := Vf.files_keepAll (show (Vf.keepAll σ l).files s.file = some x from hx)
    have h1 := h.pend _ y hy
    have h2 := (h.nums _ y hy).2.2
    have h3 := Vf.wsum_le s.file (l := l) (fun t ht => (h.plain t (hl t ht)).size)
    have h4 := pl.size
    show x.synced + z ≤ _
    rw [e]
    omega

theorem settle_ok {σ : Vf.St} (h : Vf.Inv σ) (hs : σ.steps ≤ 100000001) (due : Vf.Step → Bool) : SettleOk due σ := fun i hi _ =>
  keep_ok h hs (l := dueTo due σ.pending i) (fun _ hs => List.mem_of_mem_take (List.mem_filter.1 hs).1) (Nat.le_trans (List.length_filter_le _ _) (List.length_take_le' i _)) (List.getElem_mem hi) (Nat.le_refl _) _ rfl rfl

theorem ready {σ : Vf.St} (h : Vf.Inv σ) (hs : σ.steps ≤ 100000000) : Ready σ := by
  have hH := h.heldOk
  have hc := h.count
  have hlen : σ.held.length ≤ σ.steps := by
    have := Vf.play_length σ.pending σ.durable
    rw [← h.replay] at this; omega
  refine ⟨⟨h.fuse, hs⟩, by omega, by omega, fun k => ?_, ?_, ?_, fun n x hx => ?_, fun F => settle_ok h.tick (by show σ.steps + 1 ≤ _; omega) _, settle_ok h.tick (by show σ.steps + 1 ≤ _; omega) _, fun k n hk => ?_⟩
  · have := Vf.num_le (fun p hp => (hH.le p hp).2) k
    omega
  · cases hx : σ.files (σ.steps + 1) with
    | none => rfl
    | some x => have := h.nums _ x hx; omega
  · have hu : Vf.total σ.files σ.held ≤ σ.held.length * (64 * σ.steps) := by
      have : ∀ H : Vf.Nm, Vf.total σ.files H ≤ H.length * (64 * σ.steps) := by
        intro H
        induction H with
        | nil => simp [Vf.total]
        | cons p r ih =>
          rw [Vf.total_cons, List.length_cons, Nat.add_mul]
          have : Vf.blen σ.files p.2 ≤ 64 * σ.steps := by
            unfold Vf.blen
            cases hx : σ.files p.2 with
            | none => exact Nat.zero_le _
            | some x => exact (h.nums _ x hx).2.2
          omega
      exact this _
    have h1 : σ.held.length * (64 * σ.steps) ≤ 100000000 * (64 * 100000000) := Nat.mul_le_mul (by omega) (by omega)
    rw [h.used]
    omega
  · have := (h.nums n x hx).2.2
    omega
  · obtain ⟨x, hx⟩ := Option.ne_none_iff_exists'.1 (hH.look hk).1
    exact ⟨x, hx⟩

theorem crash_ok {σ : Vf.St} (h : Vf.Inv σ) (hs : σ.steps ≤ 100000000) (k t : Nat) : CrashOk σ k t := by
  have hc := h.count
  obtain ⟨nm, hd⟩ := h.keptOk k t
  have hl : (Vf.keepAll σ (Vf.kept σ.pending k t)).durable.length ≤ σ.steps := by
    have h1 := Vf.play_length (σ.pending.take k) σ.durable
    rw [hd]
    rw [List.length_take] at h1
    omega
  refine ⟨fun i hi z hz => keep_ok h (by omega) (fun _ hs => List.mem_of_mem_take hs) (List.length_take_le' i _) (List.getElem_mem hi) hz _ rfl rfl, fun i hi h0 => (h.plain _ (List.getElem_mem hi)).pos h0, ⟨by omega, fun k' => ?_, fun k' n hk => ?_, fun a a' n ha ha' => ?_, ?_⟩⟩
  · have := Vf.num_le (fun p hp => (nm.le p hp).2) k'
    omega
  · obtain ⟨x, hx⟩ := Option.ne_none_iff_exists'.1 (nm.look hk).1
    obtain ⟨y, hy, e1, _, hle⟩ := h.keptBytes k t hx
    refine ⟨x, hx, hle, Nat.le_trans hle ?_⟩
    have := (h.nums n y hy).2.2
    rw [e1]; omega
  · have := Vf.vals_inj nm.vals (Vf.look_mem ha) (Vf.look_mem ha') rfl
    exact (Prod.mk.inj this).1
  · rw [(Vf.keepAll_rest _ σ).2.2.2.2.1]; exact hl

end Go.Proofs.YtlhnjloimhcpfabGreatDoor
