/-
  The calls of a file system keep what it keeps to; how many raw steps they do.
-/
import Derived.Test.YtclokpkhkokfhabVInv2
namespace Go.Proofs.Ytclokpkhkokfhab
namespace Vf

theorem find_four {σ : St} {k : Bs} (h : findE σ k = 4) : σ.on = true ∧ fine k = true ∧ look σ.held k = none := by
  unfold findE refuse at h
  cases ho : σ.on <;> cases hf : fine k <;> cases hl : look σ.held k <;> simp [ho, hf, hl] at h ⊢
theorem find_zero' {σ : St} {k : Bs} (h : findE σ k = 0) : σ.on = true ∧ fine k = true ∧ (look σ.held k).isSome = true := by
  unfold findE refuse at h
  cases ho : σ.on <;> cases hf : fine k <;> cases hl : look σ.held k <;> simp [ho, hf, hl] at h ⊢
theorem fine_short {k : Bs} (h : fine k = true) : k.length ≤ 32 := by unfold fine at h; simp at h; exact h.2

theorem doSt_off {σ : St} {s : Step} {b : Bs} (h : σ.fuse = 0) : doSt σ s b = { σ with on := false } := by unfold doSt; rw [if_pos h]
theorem Inv.off {σ : St} (h : Inv σ) : Inv { σ with on := false } := h.turn false σ.fuse h.fuse
theorem settle_steps (q : Step → Bool) (σ : St) : (settle q σ).steps = σ.steps := (keepAll_rest _ σ).2.2.2.2.1
theorem settle_held (q : Step → Bool) (σ : St) : (settle q σ).held = σ.held := (keepAll_rest _ σ).2.2.2.2.2.1
theorem settle_fuse (q : Step → Bool) (σ : St) : (settle q σ).fuse = σ.fuse := (keepAll_rest _ σ).2.2.2.1
theorem settle_on (q : Step → Bool) (σ : St) : (settle q σ).on = σ.on := (keepAll_rest _ σ).2.2.1
theorem settle_room (q : Step → Bool) (σ : St) : (settle q σ).room = σ.room := (keepAll_rest _ σ).1

theorem act_steps (σ : St) (s : Step) (b : Bs) : (act σ s b).steps = σ.steps ∧ (act σ s b).fuse = σ.fuse ∧ (act σ s b).on = σ.on ∧ (act σ s b).room = σ.room := by
  unfold act pend write
  split
  · split <;> exact ⟨rfl, rfl, rfl, rfl⟩
  · split
    · exact ⟨rfl, rfl, rfl, rfl⟩
    · split
      · exact ⟨rfl, rfl, rfl, rfl⟩
      · split
        · exact ⟨settle_steps _ _, settle_fuse _ _, settle_on _ _, settle_room _ _⟩
        · exact ⟨settle_steps _ _, settle_fuse _ _, settle_on _ _, settle_room _ _⟩
theorem doSt_steps (σ : St) (s : Step) (b : Bs) : (doSt σ s b).steps ≤ σ.steps + 1 ∧ σ.steps ≤ (doSt σ s b).steps := by
  unfold doSt
  split
  · exact ⟨Nat.le_succ _, Nat.le_refl _⟩
  · rw [(act_steps (tick σ) s b).1]; exact ⟨Nat.le_refl _, Nat.le_succ _⟩
theorem doSt_room (σ : St) (s : Step) (b : Bs) : (doSt σ s b).room = σ.room := by
  unfold doSt
  split
  · rfl
  · rw [(act_steps (tick σ) s b).2.2.2]; rfl

theorem Inv.create {σ : St} (h : Inv σ) (k : Bs) : Inv (create σ k) := by
  unfold Vf.create
  split
  · rename_i hf
    obtain ⟨_, hfi, hl⟩ := find_four hf
    by_cases h0 : σ.fuse = 0
    · rw [doSt_off h0]; exact h.off
    · exact h.naming h0 hl (fine_short hfi)
  · exact h
theorem Inv.remove {σ : St} (h : Inv σ) (k : Bs) : Inv (remove σ k) := by
  unfold Vf.remove
  split
  · rename_i hf
    obtain ⟨_, hfi, hl⟩ := find_zero' hf
    by_cases h0 : σ.fuse = 0
    · rw [doSt_off h0]; exact h.off
    · exact h.moving h0 (.inr rfl) rfl rfl hl (fine_short hfi) (Nat.zero_le _)
  · exact h
theorem rename_if {σ : St} {k t : Bs} (h : renameE σ k t = 0 ∨ (refuse σ [k, t] = 0 ∧ findE σ k = 0)) : refuse σ [k, t] = 0 ∧ findE σ k = 0 := by
  rcases h with h | h
  · unfold renameE at h
    split at h
    · rename_i h1
      split at h
      · rename_i h2; exact ⟨h1, h2⟩
      · rename_i h2; exact absurd h h2
    · rename_i h1; exact absurd h h1
  · exact h
theorem refuse_two {σ : St} {k t : Bs} (h : refuse σ [k, t] = 0) : σ.on = true ∧ fine k = true ∧ fine t = true := by
  unfold refuse at h
  cases ho : σ.on <;> cases hf : fine k <;> cases ht : fine t <;> simp [ho, hf, ht] at h ⊢
theorem Inv.rename {σ : St} (h : Inv σ) (k t : Bs) : Inv (rename σ k t) := by
  unfold Vf.rename
  split
  · rename_i hf
    obtain ⟨h1, h2⟩ := rename_if hf
    obtain ⟨_, hfk, hft⟩ := refuse_two h1
    obtain ⟨_, _, hl⟩ := find_zero' h2
    by_cases h0 : σ.fuse = 0
    · rw [doSt_off h0]; exact h.off
    · exact h.moving h0 (.inl rfl) rfl rfl hl (fine_short hfk) (fine_short hft)
  · exact h
theorem Inv.sync {σ : St} (h : Inv σ) (k : Bs) : Inv (sync σ k) := by
  unfold Vf.sync
  split
  · by_cases h0 : σ.fuse = 0
    · rw [doSt_off h0]; exact h.off
    · unfold doSt
      rw [if_neg h0]
      exact h.tick.settleF _
  · exact h
theorem Inv.syncNames {σ : St} (h : Inv σ) : Inv (syncNames σ) := by
  unfold Vf.syncNames
  split
  · by_cases h0 : σ.fuse = 0
    · rw [doSt_off h0]; exact h.off
    · unfold doSt
      rw [if_neg h0]
      exact h.tick.settleN
  · exact h
theorem Inv.setFuse {σ : St} (h : Inv σ) (n : Int) (hn : n ≤ 9223372036854775807) : Inv (setFuse σ n) := by
  unfold Vf.setFuse
  split
  · rename_i hf
    refine h.turn σ.on n ⟨?_, hn⟩
    unfold fuseE at hf
    split at hf
    · split at hf
      · cases hf
      · omega
    · rename_i h1; exact absurd hf h1
  · exact h
theorem Inv.safe {σ : St} (h : Inv σ) : Inv (safe σ) := by
  unfold Vf.safe
  split
  · exact h.turn σ.on (-1) ⟨by omega, by omega⟩
  · exact h

theorem cut_sizes : ∀ (n : Nat) (b : Bs), n ≤ (b.length + 63) / 64 → ∀ p ∈ cut b n, 0 < p.length ∧ p.length ≤ 64
  | 0, _, _, p, hp => by cases hp
  | n + 1, b, h, p, hp => by
    rcases List.mem_cons.1 (show p ∈ b.take 64 :: cut (b.drop 64) n from hp) with rfl | hp'
    · rw [List.length_take]; omega
    · exact cut_sizes n (b.drop 64) (by rw [List.length_drop]; omega) p hp'
theorem cut_join : ∀ (n : Nat) (b : Bs), b.length ≤ 64 * n → (cut b n).flatten = b
  | 0, b, h => by
    have : b = [] := List.eq_nil_of_length_eq_zero (by omega)
    rw [this]; rfl
  | n + 1, b, h => by
    show (b.take 64 :: cut (b.drop 64) n).flatten = b
    rw [List.flatten_cons, cut_join n (b.drop 64) (by rw [List.length_drop]; omega), List.take_append_drop]
theorem pieces_sizes (b : Bs) : ∀ p ∈ pieces b, 0 < p.length ∧ p.length ≤ 64 := cut_sizes _ b (Nat.le_refl _)
theorem pieces_join (b : Bs) : (pieces b).flatten = b := cut_join _ b (by omega)
theorem cut_length : ∀ (n : Nat) (b : Bs), (cut b n).length = n
  | 0, _ => rfl
  | n + 1, b => by show (cut (b.drop 64) n).length + 1 = _; rw [cut_length n]
theorem pieces_length (b : Bs) : (pieces b).length = (b.length + 63) / 64 := cut_length _ b

theorem pour_cons {σ : St} {n : Nat} {p : Bs} {r : List Bs} : pour σ n (p :: r) = if σ.fuse = 0 then { σ with on := false } else pour (doSt σ ⟨0, n, p.length, [], []⟩ p) n r := rfl
theorem Inv.pour {k : Bs} {n : Nat} : ∀ {l : List Bs} {σ : St}, Inv σ → look σ.held k = some n → (∀ p ∈ l, 0 < p.length ∧ p.length ≤ 64) → Inv (pour σ n l) ∧ (pour σ n l).held = σ.held ∧ (pour σ n l).steps ≤ σ.steps + l.length ∧ σ.steps ≤ (pour σ n l).steps
  | [], σ, h, _, _ => ⟨h, rfl, Nat.le_refl _, Nat.le_refl _⟩
  | p :: r, σ, h, hk, hl => by
    rw [pour_cons]
    by_cases h0 : σ.fuse = 0
    · rw [if_pos h0]; exact ⟨h.off, rfl, Nat.le_add_right _ _, Nat.le_refl _⟩
    · rw [if_neg h0]
      obtain ⟨hp, hp2⟩ := hl p (List.mem_cons_self ..)
      obtain ⟨h1, h2, h3⟩ := h.write h0 hk hp hp2
      obtain ⟨g1, g2, g3, g4⟩ := Inv.pour (l := r) h1 (by rw [h2]; exact hk) fun q hq => hl q (List.mem_cons_of_mem _ hq)
      refine ⟨g1, g2.trans h2, ?_, ?_⟩
      · rw [List.length_cons]; omega
      · omega
theorem Inv.append {σ : St} (h : Inv σ) (k b : Bs) : Inv (append σ k b) ∧ (append σ k b).steps ≤ σ.steps + (b.length + 63) / 64 := by
  unfold Vf.append
  split
  · rename_i hf
    obtain ⟨_, _, hl⟩ := find_zero' hf
    split
    · exact ⟨h, Nat.le_add_right _ _⟩
    · have := h.pour (num_some hl) (pieces_sizes b)
      rw [pieces_length] at this
      exact ⟨this.1, this.2.2.1⟩
  · exact ⟨h, Nat.le_add_right _ _⟩

theorem kept_length (l : List Step) (k t : Nat) : (kept l k t).length ≤ l.length := by
  unfold kept
  rw [List.length_append, List.length_take]
  split
  · simp
    omega
  · rename_i s r e
    have : (l.drop k).length = (s :: r).length := by rw [e]
    rw [List.length_drop, List.length_cons] at this
    split
    · simp; omega
    · simp; omega
theorem wsum_kept (n : Nat) (l : List Step) (k t : Nat) : wsum n (kept l k t) ≤ wsum n l := by
  have h : wsum n l = wsum n (l.take k) + wsum n (l.drop k) := by rw [← wsum_append, List.take_append_drop]
  unfold kept
  rw [h, wsum_append]
  split
  · simp [wsum]
  · rename_i s r e
    rw [e, wsum_cons]
    split
    · have : wsum n [({ s with size := min t (s.size - 1) } : Step)] ≤ if s.kind = 0 ∧ s.file = n then s.size else 0 := by
        have e1 : wsum n [({ s with size := min t (s.size - 1) } : Step)] = if s.kind = 0 ∧ s.file = n then min t (s.size - 1) else 0 := by simp [wsum]
        rw [e1]
        split
        · omega
        · exact Nat.le_refl _
      omega
    · simp [wsum]

/-- What is durable when the power is back. -/
theorem Inv.keptOk {σ : St} (h : Inv σ) (k t : Nat) : NmOk (keepAll σ (kept σ.pending k t)).files σ.steps (keepAll σ (kept σ.pending k t)).durable ∧ (keepAll σ (kept σ.pending k t)).durable = play σ.durable (σ.pending.take k) := by
  obtain ⟨m, hc, ht⟩ := h.chain
  have hc' : Chain σ.files m σ.durable (σ.pending.take k ++ σ.pending.drop k) := by rw [List.take_append_drop]; exact hc
  obtain ⟨kc, kd⟩ := Chain.keepAll hc'
  have hm : top m (σ.pending.take k) ≤ σ.steps := by
    have e : top m σ.pending = top (top m (σ.pending.take k)) (σ.pending.drop k) := by
      have : top m (σ.pending.take k ++ σ.pending.drop k) = top (top m (σ.pending.take k)) (σ.pending.drop k) := by unfold top; rw [List.foldl_append]
      rw [List.take_append_drop] at this; exact this
    have mono : ∀ (l : List Step) (F : Nat → Option File) (m : Nat) (D : Nm), Chain F m D l → m ≤ top m l := by
      intro l
      induction l with
      | nil => intro F m D _; exact Nat.le_refl _
      | cons s r ih =>
        intro F m D h
        have h1 := ih F (up m s) (ren s D) h.2.2
        have h2 : m ≤ up m s := by
          unfold up; split
          · rename_i k1; have := h.2.1.new k1; omega
          · exact Nat.le_refl _
        exact Nat.le_trans h2 h1
    have := mono _ _ _ _ kc
    omega
  have nm := kc.head.mono (F' := (keepAll σ (σ.pending.take k)).files) (m' := σ.steps) (fun _ _ h => h) hm
  have e : keepAll σ (kept σ.pending k t) = keepAll (keepAll σ (σ.pending.take k)) (match σ.pending.drop k with | [] => [] | s :: _ => if s.kind = 0 then [{ s with size := min t (s.size - 1) }] else []) := by
    unfold kept keepAll; rw [List.foldl_append]; rfl
  rw [e]
  split
  · exact ⟨nm, kd⟩
  · split
    · rename_i s r hd h0
      have kw := keep_write (σ := keepAll σ (σ.pending.take k)) (s := { s with size := min t (s.size - 1) }) h0
      refine ⟨?_, kw.1.trans kd⟩
      show NmOk (Vf.keep _ _).files _ (Vf.keep _ _).durable
      rw [kw.1]
      exact nm.mono (fun p _ h => kw.2 p.2 h) (Nat.le_refl _)
    · exact ⟨nm, kd⟩
theorem Inv.keptBytes {σ : St} (h : Inv σ) (k t : Nat) {n : Nat} {x : File} (hx : (keepAll σ (kept σ.pending k t)).files n = some x) : ∃ y, σ.files n = some y ∧ x.bytes = y.bytes ∧ x.synced = y.synced + wsum n (kept σ.pending k t) ∧ x.synced ≤ x.bytes.length := by
  obtain ⟨y, hy, e1, e2⟩ := files_keepAll hx
  refine ⟨y, hy, e1, e2, ?_⟩
  have h1 := h.pend n y hy
  have h2 := wsum_kept n σ.pending k t
  rw [e1, e2]; omega
theorem crash_files {σ : St} {k t n : Nat} {x : File} (h : (crash σ k t).files n = some x) : ∃ y, (keepAll σ (kept σ.pending k t)).files n = some y ∧ x = { y with bytes := y.bytes.take y.synced } ∧ n ∈ (keepAll σ (kept σ.pending k t)).durable.map (·.2) := by
  have h' : (if n ∈ (keepAll σ (kept σ.pending k t)).durable.map (·.2) then ((keepAll σ (kept σ.pending k t)).files n).map (fun x => { x with bytes := x.bytes.take x.synced }) else none) = some x := h
  split at h'
  · rename_i hm
    cases hy : (keepAll σ (kept σ.pending k t)).files n with
    | none => rw [hy] at h'; cases h'
    | some y => rw [hy] at h'; cases h'; exact ⟨y, rfl, rfl, hm⟩
  · cases h'
theorem crash_has {σ : St} {k t n : Nat} {y : File} (hy : (keepAll σ (kept σ.pending k t)).files n = some y) (hm : n ∈ (keepAll σ (kept σ.pending k t)).durable.map (·.2)) : (crash σ k t).files n = some { y with bytes := y.bytes.take y.synced } := by
  show (if n ∈ (keepAll σ (kept σ.pending k t)).durable.map (·.2) then ((keepAll σ (kept σ.pending k t)).files n).map (fun x => { x with bytes := x.bytes.take x.synced }) else none) = _
  rw [if_pos hm, hy]; rfl
theorem Inv.crash {σ : St} (h : Inv σ) (k t : Nat) : Inv (crash σ k t) := by
  obtain ⟨nm, hd⟩ := h.keptOk k t
  obtain ⟨r1, r2, r3, r4, r5, r6, _⟩ := keepAll_rest (kept σ.pending k t) σ
  have here : ∀ p ∈ (keepAll σ (kept σ.pending k t)).durable, ∃ y, (keepAll σ (kept σ.pending k t)).files p.2 = some y ∧ (Vf.crash σ k t).files p.2 = some { y with bytes := y.bytes.take y.synced } := fun p hp => by
    obtain ⟨y, hy⟩ := Option.ne_none_iff_exists'.1 (nm.here p hp)
    exact ⟨y, hy, crash_has hy (List.mem_map.2 ⟨p, hp, rfl⟩)⟩
  refine ⟨(by show (keepAll σ _).room ≤ _; rw [r1]; exact h.room), ⟨(by show (-1 : Int) ≤ -1; omega), (by show (-1 : Int) ≤ 9223372036854775807; omega)⟩, ⟨σ.steps, ?_, ?_⟩, fun n x hx => ?_, fun n x hx => ?_, fun s hs => (by cases hs), rfl, ?_, ?_⟩
  · exact nm.mono (fun p hp _ => by obtain ⟨y, _, hy⟩ := here p hp; rw [hy]; simp) (Nat.le_refl _)
  · show σ.steps ≤ (keepAll σ _).steps
    rw [r5]; exact Nat.le_refl _
  · obtain ⟨y, hy, rfl, _⟩ := crash_files hx
    obtain ⟨z, hz, e1, _, _⟩ := h.keptBytes k t hy
    have := h.nums n z hz
    show 0 < n ∧ n ≤ (keepAll σ _).steps ∧ (y.bytes.take y.synced).length ≤ 64 * (keepAll σ _).steps
    rw [r5, List.length_take, e1]
    omega
  · obtain ⟨y, hy, rfl, _⟩ := crash_files hx
    obtain ⟨z, hz, e1, _, hle⟩ := h.keptBytes k t hy
    show y.synced + 0 = (y.bytes.take y.synced).length
    rw [List.length_take]; omega
  · show ((sum (keepAll σ _).files (keepAll σ _).durable : Nat) : Int) = (total (Vf.crash σ k t).files (keepAll σ _).durable : Nat)
    congr 1
    unfold sum total
    congr 1
    refine List.map_congr_left fun p hp => ?_
    obtain ⟨y, hy, hy'⟩ := here p hp
    obtain ⟨z, hz, e1, _, hle⟩ := h.keptBytes k t hy
    unfold blen
    rw [hy, hy']
    show y.synced = (y.bytes.take y.synced).length
    rw [List.length_take]; omega
  · show (keepAll σ _).durable.length + 0 ≤ (keepAll σ _).steps
    rw [r5, hd]
    have h1 := play_length (σ.pending.take k) σ.durable
    have h2 := h.count
    rw [List.length_take] at h1
    omega
theorem crash_steps (σ : St) (k t : Nat) : (crash σ k t).steps = σ.steps := (keepAll_rest (kept σ.pending k t) σ).2.2.2.2.1
theorem crash_room (σ : St) (k t : Nat) : (crash σ k t).room = σ.room := (keepAll_rest (kept σ.pending k t) σ).1

theorem Inv.alter {σ : St} (h : Inv σ) (k : Bs) (at_ : Int) (bits : UInt8) : Inv (alter σ k at_ bits) := by
  unfold Vf.alter
  split
  · split
    · exact h
    · rename_i x hx
      obtain ⟨m, hc, ht⟩ := h.chain
      have hb : ∀ j y, setF σ.files (num σ.durable k) (some { x with bytes := x.bytes.set at_.toNat ((x.bytes[at_.toNat]?.getD 0) ^^^ bits) }) j = some y → ∃ z, σ.files j = some z ∧ y.synced = z.synced ∧ y.bytes.length = z.bytes.length := fun j y hy => by
        by_cases ej : j = num σ.durable k
        · rw [ej, setF_eq] at hy
          cases hy
          exact ⟨x, by rw [ej]; exact hx, rfl, List.length_set⟩
        · rw [setF_ne ej] at hy
          exact ⟨y, hy, rfl, rfl⟩
      refine ⟨h.room, h.fuse, ⟨m, hc.mono fun j hj => ?_, ht⟩, fun j y hy => ?_, fun j y hy => ?_, h.wfile, h.replay, ?_, h.count⟩
      · show setF _ _ _ j ≠ none
        by_cases ej : j = num σ.durable k
        · rw [ej, setF_eq]; simp
        · rw [setF_ne ej]; exact hj
      · obtain ⟨z, hz, _, e⟩ := hb j y hy
        show _ ∧ _ ∧ _ ≤ 64 * σ.steps
        rw [e]; exact h.nums j z hz
      · obtain ⟨z, hz, e1, e⟩ := hb j y hy
        show y.synced + wsum j σ.pending = _
        rw [e, e1]; exact h.pend j z hz
      · show σ.used = (total _ σ.held : Nat)
        rw [h.used]
        congr 1
        refine total_congr fun p _ => ?_
        show blen σ.files p.2 = blen (setF σ.files (num σ.durable k) (some { x with bytes := x.bytes.set at_.toNat ((x.bytes[at_.toNat]?.getD 0) ^^^ bits) })) p.2
        unfold blen
        by_cases ej : p.2 = num σ.durable k
        · rw [ej, setF_eq, hx]
          exact List.length_set.symm
        · rw [setF_ne ej]
  · exact h
end Vf
end Go.Proofs.Ytclokpkhkokfhab
