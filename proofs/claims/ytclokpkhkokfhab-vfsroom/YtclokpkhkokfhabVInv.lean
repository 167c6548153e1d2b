/-
  What the names, the files and the pending steps of a file system keep to: names that each name a file of their own, behind each of the pending steps; bytes that are durable or pending; the bytes of all held files.
-/
import Derived.Test.YtclokpkhkokfhabVMap
namespace Go.Proofs.Ytclokpkhkokfhab
namespace Vf

theorem vals_inj {D : Nm} (h : (D.map (·.2)).Nodup) {p q : Bs × Nat} (hp : p ∈ D) (hq : q ∈ D) (e : p.2 = q.2) : p = q := by
  induction D with
  | nil => cases hp
  | cons a r ih =>
    rw [List.map_cons, List.nodup_cons] at h
    rcases List.mem_cons.1 hp with rfl | hp' <;> rcases List.mem_cons.1 hq with rfl | hq'
    · rfl
    · exact absurd (by rw [e]; exact List.mem_map_of_mem hq') h.1
    · exact absurd (by rw [← e]; exact List.mem_map_of_mem hp') h.1
    · exact ih h.2 hp' hq'

theorem mem_del {D : Nm} {k : Bs} {p : Bs × Nat} : p ∈ del D k ↔ p ∈ D ∧ p.1 ≠ k := by
  unfold del
  rw [List.mem_filter]
  simp
theorem del_vals {D : Nm} (h : (D.map (·.2)).Nodup) {k : Bs} {n : Nat} (hk : look D k = some n) : n ∉ (del D k).map (·.2) := fun hm => by
  obtain ⟨q, hq, e⟩ := List.mem_map.1 hm
  have hq' := mem_del.1 hq
  have := vals_inj h (look_mem hk) hq'.1 e.symm
  exact hq'.2 (by rw [← this])
theorem del_vals_sub {D : Nm} {k : Bs} {n : Nat} (h : n ∈ (del D k).map (·.2)) : n ∈ D.map (·.2) := by
  obtain ⟨q, hq, e⟩ := List.mem_map.1 h
  exact List.mem_map.2 ⟨q, (mem_del.1 hq).1, e⟩
theorem del_vals_nodup {D : Nm} (h : (D.map (·.2)).Nodup) (k : Bs) : ((del D k).map (·.2)).Nodup := h.sublist ((del_sub D k).map _)
theorem del_none {D : Nm} {k : Bs} (h : look D k = none) : del D k = D := by
  unfold del
  rw [List.filter_eq_self]
  intro p hp
  have : p.1 ≠ k := fun e => (look_none D k).1 h (List.mem_map.2 ⟨p, hp, e⟩)
  simp [this]

/-- Names that each name a file of their own, with a number up to m. -/
structure NmOk (F : Nat → Option File) (m : Nat) (D : Nm) : Prop where
  keys : (D.map (·.1)).Nodup
  vals : (D.map (·.2)).Nodup
  here : ∀ p ∈ D, F p.2 ≠ none
  le : ∀ p ∈ D, 0 < p.2 ∧ p.2 ≤ m
  short : ∀ p ∈ D, p.1.length ≤ 32

/-- What a pending step must keep to. -/
structure Plain (s : Step) : Prop where
  kind : s.kind ≤ 3
  size : s.size ≤ 64
  pos : s.kind = 0 → 0 < s.size
  name : s.name.length ≤ 32
  to : s.to.length ≤ 32
structure Fit (m : Nat) (D : Nm) (s : Step) : Prop where
  plain : Plain s
  new : s.kind = 1 → m < s.file
  from_ : s.kind = 2 → (look D s.name).isSome = true

def up (m : Nat) (s : Step) : Nat := if s.kind = 1 then s.file else m
def top (m : Nat) (l : List Step) : Nat := l.foldl up m
def play (D : Nm) (l : List Step) : Nm := l.foldl (fun D s => ren s D) D

def Chain (F : Nat → Option File) : Nat → Nm → List Step → Prop
  | m, D, [] => NmOk F m D
  | m, D, s :: r => NmOk F m D ∧ Fit m D s ∧ Chain F (up m s) (ren s D) r

section
variable {F F' : Nat → Option File} {m m' : Nat} {D : Nm} {s : Step}
theorem NmOk.mono (h : NmOk F m D) (hF : ∀ p ∈ D, F p.2 ≠ none → F' p.2 ≠ none) (hm : m ≤ m') : NmOk F' m' D := ⟨h.keys, h.vals, fun p hp => hF p hp (h.here p hp), fun p hp => ⟨(h.le p hp).1, Nat.le_trans (h.le p hp).2 hm⟩, h.short⟩
theorem NmOk.del (h : NmOk F m D) (k : Bs) : NmOk F m (del D k) := ⟨del_nodup h.keys k, del_vals_nodup h.vals k, fun p hp => h.here p (mem_del.1 hp).1, fun p hp => h.le p (mem_del.1 hp).1, fun p hp => h.short p (mem_del.1 hp).1⟩
theorem NmOk.put (h : NmOk F m D) {k : Bs} {n : Nat} (hn : n ∉ (Vf.del D k).map (·.2)) (hF : F n ≠ none) (h0 : 0 < n) (hm : n ≤ m') (hmm : m ≤ m') (hk : k.length ≤ 32) : NmOk F m' (put D k n) := by
  have hd := (h.del k).mono (F' := F) (m' := m') (fun _ _ h => h) hmm
  refine ⟨put_nodup h.keys k n, ?_, fun p hp => ?_, fun p hp => ?_, fun p hp => ?_⟩
  · show ((k, n) :: Vf.del D k).map (·.2) |>.Nodup
    rw [List.map_cons, List.nodup_cons]
    exact ⟨hn, hd.vals⟩
  all_goals rcases List.mem_cons.1 (show p ∈ (k, n) :: Vf.del D k from hp) with rfl | hp'
  · exact hF
  · exact hd.here p hp'
  · exact ⟨h0, hm⟩
  · exact hd.le p hp'
  · exact hk
  · exact hd.short p hp'
theorem NmOk.look (h : NmOk F m D) {k : Bs} {n : Nat} (hk : look D k = some n) : F n ≠ none ∧ 0 < n ∧ n ≤ m := ⟨h.here _ (look_mem hk), h.le _ (look_mem hk)⟩

theorem ren_write (hs : s.kind = 0) : ren s D = D := by unfold ren; simp [hs]
theorem up_write (hs : s.kind = 0) : up m s = m := by unfold up; simp [hs]
theorem num_some {k : Bs} (h : (look D k).isSome = true) : look D k = some (num D k) := by
  obtain ⟨n, hn⟩ := Option.isSome_iff_exists.1 h
  unfold num; rw [hn]; rfl

theorem NmOk.ren (h : NmOk F m D) (f : Fit m D s) (hF : s.kind = 1 → F s.file ≠ none) : NmOk F (up m s) (ren s D) := by
  have hk := f.plain.kind
  unfold Vf.ren up
  by_cases k1 : s.kind = 1
  · rw [if_pos k1, if_pos k1]
    have hlt := f.new k1
    exact h.put (fun hm => by obtain ⟨q, hq, e⟩ := List.mem_map.1 (del_vals_sub hm); have := (h.le q hq).2; omega) (hF k1) (by omega) (Nat.le_refl _) (by omega) f.plain.name
  · rw [if_neg k1, if_neg k1]
    by_cases k2 : s.kind = 2
    · rw [if_pos k2]
      have hl := num_some (f.from_ k2)
      have hn := h.look hl
      exact (h.del s.name).put (fun hm => del_vals h.vals hl (del_vals_sub hm)) hn.1 hn.2.1 hn.2.2 (Nat.le_refl _) f.plain.to
    · rw [if_neg k2]
      by_cases k3 : s.kind = 3
      · rw [if_pos k3]; exact h.del _
      · rw [if_neg k3]; exact h
end

theorem Chain.head {F : Nat → Option File} {m : Nat} {D : Nm} : ∀ {l : List Step}, Chain F m D l → NmOk F m D
  | [], h => h
  | _ :: _, h => h.1
theorem Chain.mono {F F' : Nat → Option File} (hF : ∀ n, F n ≠ none → F' n ≠ none) : ∀ {l : List Step} {m : Nat} {D : Nm}, Chain F m D l → Chain F' m D l
  | [], _, _, h => NmOk.mono (F := F) h (fun _ _ => hF _) (Nat.le_refl _)
  | _ :: _, _, _, h => ⟨h.1.mono (fun _ _ => hF _) (Nat.le_refl _), h.2.1, Chain.mono hF h.2.2⟩
theorem Chain.last {F : Nat → Option File} : ∀ {l : List Step} {m : Nat} {D : Nm}, Chain F m D l → NmOk F (top m l) (play D l)
  | [], _, _, h => h
  | s :: r, m, D, h => (Chain.last (l := r) h.2.2 : NmOk F (top (up m s) r) (play (ren s D) r))
theorem Chain.plain {F : Nat → Option File} : ∀ {l : List Step} {m : Nat} {D : Nm}, Chain F m D l → ∀ s ∈ l, Plain s
  | [], _, _, _, s, hs => by cases hs
  | a :: r, _, _, h, s, hs => by
    rcases List.mem_cons.1 hs with rfl | hs'
    · exact h.2.1.plain
    · exact Chain.plain h.2.2 s hs'
theorem Chain.snoc {F : Nat → Option File} {s : Step} (hF : s.kind = 1 → F s.file ≠ none) : ∀ {l : List Step} {m : Nat} {D : Nm}, Chain F m D l → Fit (top m l) (play D l) s → Chain F m D (l ++ [s])
  | [], _, _, h, f => ⟨h, f, NmOk.ren h f hF⟩
  | _ :: _, _, _, h, f => ⟨h.1, h.2.1, Chain.snoc hF h.2.2 f⟩
/-- Steps that are left out are writes. -/
theorem Chain.filter {F : Nat → Option File} {q : Step → Bool} (hq : ∀ s, q s = false → s.kind = 0) : ∀ {l : List Step} {m : Nat} {D : Nm}, Chain F m D l → Chain F m D (l.filter q)
  | [], _, _, h => h
  | s :: r, m, D, h => by
    cases e : q s with
    | true => rw [List.filter_cons, e]; exact ⟨h.1, h.2.1, Chain.filter hq h.2.2⟩
    | false =>
      rw [List.filter_cons, e]
      have := Chain.filter hq h.2.2
      rw [ren_write (hq s e), up_write (hq s e)] at this
      exact this
theorem play_filter {q : Step → Bool} (hq : ∀ s, q s = false → s.kind = 0) : ∀ (l : List Step) (D : Nm), play D (l.filter q) = play D l
  | [], _ => rfl
  | s :: r, D => by
    cases e : q s with
    | true => rw [List.filter_cons, e]; exact play_filter hq r (ren s D)
    | false =>
      rw [List.filter_cons, e]
      show play D (r.filter q) = play (ren s D) r
      rw [ren_write (hq s e)]; exact play_filter hq r D
theorem top_filter {q : Step → Bool} (hq : ∀ s, q s = false → s.kind = 0) : ∀ (l : List Step) (m : Nat), top m (l.filter q) = top m l
  | [], _ => rfl
  | s :: r, m => by
    cases e : q s with
    | true => rw [List.filter_cons, e]; exact top_filter hq r (up m s)
    | false =>
      rw [List.filter_cons, e]
      show top m (r.filter q) = top (up m s) r
      rw [up_write (hq s e)]; exact top_filter hq r m
theorem Chain.writes {F : Nat → Option File} {m : Nat} {D : Nm} (h : NmOk F m D) : ∀ {l : List Step}, (∀ s ∈ l, s.kind = 0 ∧ Plain s) → Chain F m D l
  | [], _ => h
  | s :: r, hl => by
    have hs := hl s (List.mem_cons_self ..)
    refine ⟨h, ⟨hs.2, fun e => by omega, fun e => by omega⟩, ?_⟩
    rw [ren_write hs.1, up_write hs.1]
    exact Chain.writes h fun t ht => hl t (List.mem_cons_of_mem _ ht)
theorem play_writes {D : Nm} : ∀ {l : List Step}, (∀ s ∈ l, s.kind = 0) → play D l = D
  | [], _ => rfl
  | s :: r, hl => by
    show play (ren s D) r = D
    rw [ren_write (hl s (List.mem_cons_self ..))]
    exact play_writes fun t ht => hl t (List.mem_cons_of_mem _ ht)
theorem top_writes {m : Nat} : ∀ {l : List Step}, (∀ s ∈ l, s.kind = 0) → top m l = m
  | [], _ => rfl
  | s :: r, hl => by
    show top (up m s) r = m
    rw [up_write (hl s (List.mem_cons_self ..))]
    exact top_writes fun t ht => hl t (List.mem_cons_of_mem _ ht)

theorem ren_vals {D : Nm} {s : Step} {n : Nat} (h : n ∈ (ren s D).map (·.2)) (hf : s.kind = 2 → (look D s.name).isSome = true) : n ∈ D.map (·.2) ∨ (s.kind = 1 ∧ n = s.file) := by
  unfold ren at h
  by_cases k1 : s.kind = 1
  · rw [if_pos k1] at h
    rcases List.mem_cons.1 (show n ∈ s.file :: (del D s.name).map (·.2) from h) with rfl | h'
    · exact .inr ⟨k1, rfl⟩
    · exact .inl (del_vals_sub h')
  · rw [if_neg k1] at h
    by_cases k2 : s.kind = 2
    · rw [if_pos k2] at h
      rcases List.mem_cons.1 (show n ∈ num D s.name :: (del (del D s.name) s.to).map (·.2) from h) with rfl | h'
      · exact .inl (List.mem_map.2 ⟨_, look_mem (num_some (hf k2)), rfl⟩)
      · exact .inl (del_vals_sub (del_vals_sub h'))
    · rw [if_neg k2] at h
      by_cases k3 : s.kind = 3
      · rw [if_pos k3] at h; exact .inl (del_vals_sub h)
      · rw [if_neg k3] at h; exact .inl h
theorem setF_ne {F : Nat → Option File} {n k : Nat} {x : Option File} (h : k ≠ n) : setF F n x k = F k := by unfold setF; rw [if_neg h]
theorem setF_eq {F : Nat → Option File} {n : Nat} {x : Option File} : setF F n x n = x := by unfold setF; rw [if_pos rfl]
/-- A file that no name names, and that is older than all that come, may go. -/
theorem Chain.drop {F : Nat → Option File} {n : Nat} : ∀ {l : List Step} {m : Nat} {D : Nm}, Chain F m D l → n ≤ m → n ∉ D.map (·.2) → Chain (setF F n none) m D l
  | [], m, D, h, hn, hD => NmOk.mono (F := F) h (fun p hp h' => by rw [setF_ne (fun e => hD (List.mem_map.2 ⟨p, hp, e⟩))]; exact h') (Nat.le_refl _)
  | s :: r, m, D, h, hn, hD => by
    refine ⟨h.1.mono (fun p hp h' => by rw [setF_ne (fun e => hD (List.mem_map.2 ⟨p, hp, e⟩))]; exact h') (Nat.le_refl _), h.2.1, Chain.drop h.2.2 ?_ ?_⟩
    · unfold up; split
      · rename_i k1; have := h.2.1.new k1; omega
      · exact hn
    · intro hm
      rcases ren_vals hm h.2.1.from_ with h' | ⟨k1, e⟩
      · exact hD h'
      · have := h.2.1.new k1; omega

theorem lost_out {F : Nat → Option File} {m : Nat} {D : Nm} {s : Step} (h : NmOk F m D) (f : Fit m D s) : lost s D ≤ up m s ∧ lost s D ∉ (ren s D).map (·.2) := by
  have hz : 0 ∉ D.map (·.2) := fun hm => by obtain ⟨q, hq, e⟩ := List.mem_map.1 hm; have := (h.le q hq).1; omega
  unfold lost
  by_cases k2 : s.kind = 2
  · rw [if_pos k2]
    have hl := num_some (f.from_ k2)
    have hr : ren s D = put (del D s.name) s.to (num D s.name) := by unfold ren; rw [if_neg (by omega), if_pos k2]
    have hu : up m s = m := by unfold up; rw [if_neg (by omega)]
    rw [hr, hu]
    cases e : look (del D s.name) s.to with
    | none =>
      have e0 : num (del D s.name) s.to = 0 := by unfold num; rw [e]; rfl
      rw [e0]
      refine ⟨Nat.zero_le _, fun hm => ?_⟩
      rcases List.mem_cons.1 (show 0 ∈ num D s.name :: (del (del D s.name) s.to).map (·.2) from hm) with h' | h'
      · have := (h.look hl).2.1; omega
      · exact hz (del_vals_sub (del_vals_sub h'))
    | some l =>
      have e0 : num (del D s.name) s.to = l := by unfold num; rw [e]; rfl
      rw [e0]
      have hd := (h.del s.name).look e
      refine ⟨hd.2.2, fun hm => ?_⟩
      rcases List.mem_cons.1 (show l ∈ num D s.name :: (del (del D s.name) s.to).map (·.2) from hm) with h' | h'
      · exact del_vals h.vals hl (by rw [← h']; exact List.mem_map.2 ⟨_, look_mem e, rfl⟩)
      · exact del_vals (h.del s.name).vals e h'
  · rw [if_neg k2]
    by_cases k3 : s.kind = 3
    · rw [if_pos k3]
      have hr : ren s D = del D s.name := by unfold ren; rw [if_neg (by omega), if_neg k2, if_pos k3]
      have hu : up m s = m := by unfold up; rw [if_neg (by omega)]
      rw [hr, hu]
      cases e : look D s.name with
      | none =>
        have e0 : num D s.name = 0 := by unfold num; rw [e]; rfl
        rw [e0]
        exact ⟨Nat.zero_le _, fun hm => hz (del_vals_sub hm)⟩
      | some l =>
        have e0 : num D s.name = l := by unfold num; rw [e]; rfl
        rw [e0]
        exact ⟨(h.look e).2.2, del_vals h.vals e⟩
    · rw [if_neg k3]
      refine ⟨Nat.zero_le _, fun hm => ?_⟩
      rcases ren_vals hm f.from_ with h' | ⟨k1, e⟩
      · exact hz h'
      · have := f.new k1; omega

theorem keep_dur {σ : St} {s : Step} (h : s.kind ≤ 3) : (keep σ s).durable = ren s σ.durable := by
  unfold keep
  by_cases k0 : s.kind = 0
  · rw [if_pos k0, ren_write k0]; split <;> rfl
  · rw [if_neg k0, if_pos h]
theorem Chain.keep {σ : St} {m : Nat} {s : Step} {r : List Step} (h : Chain σ.files m σ.durable (s :: r)) : Chain (keep σ s).files (up m s) (keep σ s).durable r := by
  have hk := h.2.1.plain.kind
  rw [keep_dur hk]
  have h2 : Chain σ.files (up m s) (ren s σ.durable) r := h.2.2
  unfold Vf.keep
  by_cases k0 : s.kind = 0
  · rw [if_pos k0]
    split
    · exact h2
    · rename_i x hx
      refine h2.mono fun n hn => ?_
      by_cases e : n = s.file
      · show setF _ _ _ n ≠ none
        rw [e, setF_eq]; simp
      · show setF _ _ _ n ≠ none
        rw [setF_ne e]; exact hn
  · rw [if_neg k0, if_pos hk]
    have ho := lost_out h.1 h.2.1
    exact h2.drop ho.1 ho.2
theorem Chain.keepAll {r : List Step} : ∀ {l : List Step} {σ : St} {m : Nat}, Chain σ.files m σ.durable (l ++ r) → Chain (keepAll σ l).files (top m l) (keepAll σ l).durable r ∧ (keepAll σ l).durable = play σ.durable l
  | [], _, _, h => ⟨h, rfl⟩
  | s :: l, σ, m, h => by
    have h' := Chain.keep (σ := σ) (s := s) (r := l ++ r) h
    have := Chain.keepAll (l := l) (σ := Vf.keep σ s) h'
    refine ⟨this.1, this.2.trans ?_⟩
    rw [keep_dur h.2.1.plain.kind]
    rfl

/-- How many bytes of the steps are written to a file. -/
def wsum (n : Nat) (l : List Step) : Nat := (l.map fun s => if s.kind = 0 ∧ s.file = n then s.size else 0).sum
theorem wsum_append (n : Nat) (l m : List Step) : wsum n (l ++ m) = wsum n l + wsum n m := by simp [wsum]
theorem wsum_cons (n : Nat) (s : Step) (l : List Step) : wsum n (s :: l) = (if s.kind = 0 ∧ s.file = n then s.size else 0) + wsum n l := by simp [wsum]
theorem wsum_parts (n : Nat) (q : Step → Bool) (l : List Step) : wsum n (l.filter q) + wsum n (l.filter fun s => !q s) = wsum n l := by
  induction l with
  | nil => rfl
  | cons s r ih =>
    rw [List.filter_cons, List.filter_cons, wsum_cons, ← ih]
    cases q s
    · simp [wsum_cons]; omega
    · simp [wsum_cons]; omega
theorem wsum_none {n : Nat} {l : List Step} (h : ∀ s ∈ l, ¬ (s.kind = 0 ∧ s.file = n)) : wsum n l = 0 := by
  induction l with
  | nil => rfl
  | cons s r ih => rw [wsum_cons, if_neg (h s (List.mem_cons_self ..)), ih fun t ht => h t (List.mem_cons_of_mem _ ht)]

theorem files_keep {σ : St} {s : Step} {n : Nat} {x : File} (h : (keep σ s).files n = some x) : ∃ y, σ.files n = some y ∧ x.bytes = y.bytes ∧ x.synced = y.synced + wsum n [s] := by
  have e1 : wsum n [s] = if s.kind = 0 ∧ s.file = n then s.size else 0 := by simp [wsum]
  rw [e1]
  unfold keep at h
  by_cases k0 : s.kind = 0
  · rw [if_pos k0] at h
    split at h
    · rename_i hx
      refine ⟨x, h, rfl, ?_⟩
      rw [if_neg]
      · rfl
      · intro hh; rw [hh.2, h] at hx; cases hx
    · rename_i y hx
      by_cases e : n = s.file
      · have h' : setF σ.files s.file (some { y with synced := y.synced + s.size }) n = some x := h
        rw [e, setF_eq] at h'
        rw [e, if_pos ⟨k0, rfl⟩]
        cases h'
        exact ⟨y, hx, rfl, rfl⟩
      · have h' : setF σ.files s.file (some { y with synced := y.synced + s.size }) n = some x := h
        rw [setF_ne e] at h'
        rw [if_neg (fun hh => e hh.2.symm)]
        exact ⟨x, h', rfl, rfl⟩
  · rw [if_neg k0] at h
    rw [if_neg (fun hh => k0 hh.1)]
    split at h
    · have h' : setF σ.files (lost s σ.durable) none n = some x := h
      unfold setF at h'
      split at h'
      · cases h'
      · exact ⟨x, h', rfl, rfl⟩
    · exact ⟨x, h, rfl, rfl⟩
theorem files_keepAll {n : Nat} {x : File} : ∀ {l : List Step} {σ : St}, (keepAll σ l).files n = some x → ∃ y, σ.files n = some y ∧ x.bytes = y.bytes ∧ x.synced = y.synced + wsum n l
  | [], _, h => ⟨x, h, rfl, rfl⟩
  | s :: r, σ, h => by
    obtain ⟨y, hy, e1, e2⟩ := files_keepAll (l := r) (σ := keep σ s) h
    obtain ⟨z, hz, e3, e4⟩ := files_keep hy
    refine ⟨z, hz, e1.trans e3, ?_⟩
    rw [e2, e4, wsum_cons]
    simp [wsum]
    omega

theorem ren_length (s : Step) (D : Nm) : (ren s D).length ≤ D.length + 1 := by
  have hd := fun k => (del_sub D k).length_le
  have hdd := fun k => (del_sub (del D s.name) k).length_le
  have h1 := hd s.name
  have h2 := hdd s.to
  unfold ren put
  split
  · rw [List.length_cons]; omega
  · split
    · rw [List.length_cons]; omega
    · split
      · omega
      · omega
theorem play_length : ∀ (l : List Step) (D : Nm), (play D l).length ≤ D.length + l.length
  | [], _ => Nat.le_refl _
  | s :: r, D => by
    have h1 := play_length r (ren s D)
    have h2 := ren_length s D
    have e : play D (s :: r) = play (ren s D) r := rfl
    rw [e, List.length_cons]
    omega

/-- The bytes of all files that names name. -/
def blen (F : Nat → Option File) (n : Nat) : Nat := match F n with | none => 0 | some x => x.bytes.length
def total (F : Nat → Option File) (H : Nm) : Nat := (H.map fun p => blen F p.2).sum
theorem total_cons (F : Nat → Option File) (p : Bs × Nat) (H : Nm) : total F (p :: H) = blen F p.2 + total F H := by simp [total]
theorem total_congr {F F' : Nat → Option File} {H : Nm} (h : ∀ p ∈ H, blen F p.2 = blen F' p.2) : total F H = total F' H := by
  unfold total
  rw [List.map_congr_left h]
theorem total_set {F : Nat → Option File} {n : Nat} {y : Option File} {H : Nm} (h : n ∉ H.map (·.2)) : total (setF F n y) H = total F H :=
  total_congr fun p hp => by unfold blen; rw [setF_ne (fun e => h (List.mem_map.2 ⟨p, hp, e⟩))]
theorem total_more {F : Nat → Option File} {n a : Nat} {y : Option File} : ∀ {H : Nm}, (H.map (·.2)).Nodup → n ∈ H.map (·.2) → blen (setF F n y) n = blen F n + a → total (setF F n y) H = total F H + a
  | [], _, hm, _ => by cases hm
  | p :: r, hd, hm, he => by
    rw [List.map_cons, List.nodup_cons] at hd
    rw [total_cons, total_cons]
    by_cases e : p.2 = n
    · rw [e, he, total_set (by rw [← e]; exact hd.1)]; omega
    · have hm' : n ∈ r.map (·.2) := by
        rcases List.mem_cons.1 (show n ∈ p.2 :: r.map (·.2) from hm) with h | h
        · exact absurd h.symm e
        · exact h
      have e1 : blen (setF F n y) p.2 = blen F p.2 := by unfold blen; rw [setF_ne e]
      rw [total_more hd.2 hm' he, e1]; omega
theorem total_del {F : Nat → Option File} {k : Bs} {n : Nat} : ∀ {H : Nm}, (H.map (·.1)).Nodup → look H k = some n → total F (del H k) + blen F n = total F H
  | [], _, h => by cases h
  | p :: r, hd, h => by
    obtain ⟨a, x⟩ := p
    rw [List.map_cons, List.nodup_cons] at hd
    by_cases e : a = k
    · subst e
      have h' : some x = some n := by
        have : look ((a, x) :: r) a = some x := by show (if a = a then some x else _) = _; rw [if_pos rfl]
        rw [← this]; exact h
      obtain rfl : n = x := (Option.some.inj h').symm
      have e1 : del ((a, n) :: r) a = r := by
        have : del ((a, n) :: r) a = del r a := by simp [del]
        rw [this]
        exact del_none ((look_none r a).2 hd.1)
      rw [e1, total_cons]
      show _ + blen F n = blen F n + _
      omega
    · have e1 : del ((a, x) :: r) k = (a, x) :: del r k := by simp [del, e]
      have h' : look r k = some n := by
        have : look ((a, x) :: r) k = look r k := by show (if a = k then some x else look r k) = _; rw [if_neg e]
        rw [← this]; exact h
      rw [e1, total_cons, total_cons, ← total_del hd.2 h']
      omega
theorem total_put (F : Nat → Option File) (H : Nm) (k : Bs) (n : Nat) : total F (put H k n) = blen F n + total F (del H k) := total_cons F (k, n) _

/-- What a file system keeps to, whatever is called. -/
structure Inv (σ : St) : Prop where
  room : σ.room ≤ 1073741824
  fuse : -1 ≤ σ.fuse ∧ σ.fuse ≤ 9223372036854775807
  chain : ∃ m, Chain σ.files m σ.durable σ.pending ∧ top m σ.pending ≤ σ.steps
  nums : ∀ n x, σ.files n = some x → 0 < n ∧ n ≤ σ.steps ∧ x.bytes.length ≤ 64 * σ.steps
  pend : ∀ n x, σ.files n = some x → x.synced + wsum n σ.pending = x.bytes.length
  wfile : ∀ s ∈ σ.pending, s.file ≤ σ.steps
  replay : σ.held = play σ.durable σ.pending
  used : σ.used = (total σ.files σ.held : Int)
  count : σ.durable.length + σ.pending.length ≤ σ.steps
end Vf
end Go.Proofs.Ytclokpkhkokfhab
