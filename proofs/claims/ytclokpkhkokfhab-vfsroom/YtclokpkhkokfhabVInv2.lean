/-
  What a file system keeps to stays so, whatever is called.
-/
import Derived.Test.YtclokpkhkokfhabVInv
namespace Go.Proofs.Ytclokpkhkokfhab
namespace Vf

theorem keepAll_rest : ∀ (l : List Step) (σ : St), (keepAll σ l).room = σ.room ∧ (keepAll σ l).used = σ.used ∧ (keepAll σ l).on = σ.on ∧ (keepAll σ l).fuse = σ.fuse ∧ (keepAll σ l).steps = σ.steps ∧ (keepAll σ l).held = σ.held ∧ (keepAll σ l).pending = σ.pending
  | [], _ => ⟨rfl, rfl, rfl, rfl, rfl, rfl, rfl⟩
  | s :: r, σ => by
    have h := keepAll_rest r (keep σ s)
    have e : (keep σ s).room = σ.room ∧ (keep σ s).used = σ.used ∧ (keep σ s).on = σ.on ∧ (keep σ s).fuse = σ.fuse ∧ (keep σ s).steps = σ.steps ∧ (keep σ s).held = σ.held ∧ (keep σ s).pending = σ.pending := by
      unfold keep
      split
      · split <;> exact ⟨rfl, rfl, rfl, rfl, rfl, rfl, rfl⟩
      · split <;> exact ⟨rfl, rfl, rfl, rfl, rfl, rfl, rfl⟩
    obtain ⟨h1, h2, h3, h4, h5, h6, h7⟩ := h
    obtain ⟨e1, e2, e3, e4, e5, e6, e7⟩ := e
    exact ⟨h1.trans e1, h2.trans e2, h3.trans e3, h4.trans e4, h5.trans e5, h6.trans e6, h7.trans e7⟩
theorem keep_write {σ : St} {s : Step} (k0 : s.kind = 0) : (keep σ s).durable = σ.durable ∧ ∀ n, σ.files n ≠ none → (keep σ s).files n ≠ none := by
  unfold keep
  rw [if_pos k0]
  split
  · exact ⟨rfl, fun _ h => h⟩
  · refine ⟨rfl, fun n h => ?_⟩
    show setF _ _ _ n ≠ none
    by_cases e : n = s.file
    · rw [e, setF_eq]; simp
    · rw [setF_ne e]; exact h
theorem keepAll_writes : ∀ {l : List Step} {σ : St}, (∀ s ∈ l, s.kind = 0) → (keepAll σ l).durable = σ.durable ∧ ∀ n, σ.files n ≠ none → (keepAll σ l).files n ≠ none
  | [], _, _ => ⟨rfl, fun _ h => h⟩
  | s :: r, σ, h => by
    have h1 := keep_write (σ := σ) (h s (List.mem_cons_self ..))
    have h2 := keepAll_writes (l := r) (σ := keep σ s) fun t ht => h t (List.mem_cons_of_mem _ ht)
    exact ⟨h2.1.trans h1.1, fun n hn => h2.2 n (h1.2 n hn)⟩
theorem blen_keepAll {σ : St} {l : List Step} {n : Nat} (h : (keepAll σ l).files n ≠ none) : blen (keepAll σ l).files n = blen σ.files n := by
  obtain ⟨x, hx⟩ := Option.ne_none_iff_exists'.1 h
  obtain ⟨y, hy, e, _⟩ := files_keepAll hx
  simp only [blen, hx, hy, e]

theorem ne_of_some {F : Nat → Option File} {n : Nat} {x : File} (h : F n = some x) : F n ≠ none := by rw [h]; simp
theorem play_snoc (D : Nm) (l : List Step) (s : Step) : play D (l ++ [s]) = ren s (play D l) := by unfold play; rw [List.foldl_append]; rfl
theorem top_snoc (m : Nat) (l : List Step) (s : Step) : top m (l ++ [s]) = up (top m l) s := by unfold top; rw [List.foldl_append]; rfl

theorem Inv.new {room : Nat} (h : room ≤ 1073741824) : Inv (new room) :=
  ⟨h, ⟨(by show (-1 : Int) ≤ -1; omega), (by show (-1 : Int) ≤ 9223372036854775807; omega)⟩, ⟨0, ⟨List.nodup_nil, List.nodup_nil, fun p hp => (by cases hp), fun p hp => (by cases hp), fun p hp => (by cases hp)⟩, Nat.le_refl _⟩, fun n x hx => (by cases hx), fun n x hx => (by cases hx), fun s hs => (by cases hs), rfl, rfl, Nat.le_refl _⟩
theorem Inv.turn {σ : St} (h : Inv σ) (on : Bool) (fuse : Int) (hf : -1 ≤ fuse ∧ fuse ≤ 9223372036854775807) : Inv { σ with on := on, fuse := fuse } := ⟨h.room, hf, h.chain, h.nums, h.pend, h.wfile, h.replay, h.used, h.count⟩
theorem Inv.tick {σ : St} (h : Inv σ) : Inv (tick σ) := by
  obtain ⟨m, hc, ht⟩ := h.chain
  have hf := h.fuse
  refine ⟨h.room, ?_, ⟨m, hc, Nat.le_succ_of_le ht⟩, fun n x hx => ?_, h.pend, fun s hs => Nat.le_succ_of_le (h.wfile s hs), h.replay, h.used, Nat.le_succ_of_le h.count⟩
  · show -1 ≤ (if σ.fuse = -1 then -1 else σ.fuse - 1) ∧ (if σ.fuse = -1 then -1 else σ.fuse - 1) ≤ 9223372036854775807
    split <;> omega
  · obtain ⟨h1, h2, h3⟩ := h.nums n x hx
    exact ⟨h1, Nat.le_succ_of_le h2, by show _ ≤ 64 * (σ.steps + 1); omega⟩
theorem Inv.heldOk {σ : St} (h : Inv σ) : NmOk σ.files σ.steps σ.held := by
  obtain ⟨m, hc, ht⟩ := h.chain
  rw [h.replay]
  exact hc.last.mono (fun _ _ h => h) ht
theorem Inv.durOk {σ : St} (h : Inv σ) : NmOk σ.files σ.steps σ.durable := by
  obtain ⟨m, hc, ht⟩ := h.chain
  refine hc.head.mono (fun _ _ h => h) (Nat.le_trans ?_ ht)
  have : ∀ (l : List Step) (m : Nat) (D : Nm), Chain σ.files m D l → m ≤ top m l := by
    intro l
    induction l with
    | nil => intro m D _; exact Nat.le_refl _
    | cons s r ih =>
      intro m D h
      have h1 := ih (up m s) (ren s D) h.2.2
      have h2 : m ≤ up m s := by
        unfold up; split
        · rename_i k1; have := h.2.1.new k1; omega
        · exact Nat.le_refl _
      exact Nat.le_trans h2 h1
  exact this _ _ _ hc
theorem Inv.plain {σ : St} (h : Inv σ) : ∀ s ∈ σ.pending, Plain s := by obtain ⟨m, hc, _⟩ := h.chain; exact hc.plain

/-- A sync of a file. -/
theorem Inv.settleF {σ : St} (h : Inv σ) (F : Nat) : Inv (settle (fun p => decide (p.kind = 0) && decide (p.file = F)) σ) := by
  obtain ⟨m, hc, ht⟩ := h.chain
  obtain ⟨q, hq⟩ : ∃ q : Step → Bool, q = fun p => decide (p.kind = 0) && decide (p.file = F) := ⟨_, rfl⟩
  rw [← hq]
  have q0 : ∀ s, q s = true → s.kind = 0 := fun s hs => by rw [hq] at hs; simp at hs; exact hs.1
  have q1 : ∀ s, (!q s) = false → s.kind = 0 := fun s hs => q0 s (by simpa using hs)
  have hl : ∀ s ∈ σ.pending.filter q, s.kind = 0 := fun s hs => q0 s (List.mem_filter.1 hs).2
  obtain ⟨r1, r2, r3, r4, r5, r6, _⟩ := keepAll_rest (σ.pending.filter q) σ
  obtain ⟨kd, kf⟩ := keepAll_writes (σ := σ) hl
  have hH := h.heldOk
  refine ⟨by show (keepAll σ _).room ≤ _; rw [r1]; exact h.room, by show -1 ≤ (keepAll σ (σ.pending.filter q)).fuse ∧ (keepAll σ (σ.pending.filter q)).fuse ≤ 9223372036854775807; rw [r4]; exact h.fuse, ⟨m, ?_, ?_⟩, fun n x hx => ?_, fun n x hx => ?_, fun s hs => ?_, ?_, ?_, ?_⟩
  · show Chain (keepAll σ _).files m (keepAll σ _).durable (σ.pending.filter fun s => !q s)
    rw [kd]
    exact (hc.filter q1).mono kf
  · show top m (σ.pending.filter fun s => !q s) ≤ (keepAll σ _).steps
    rw [r5, top_filter q1]; exact ht
  · obtain ⟨y, hy, e, _⟩ := files_keepAll (show (keepAll σ _).files n = some x from hx)
    show 0 < n ∧ n ≤ (keepAll σ _).steps ∧ _ ≤ 64 * (keepAll σ _).steps
    rw [r5, e]; exact h.nums n y hy
  · obtain ⟨y, hy, e, e2⟩ := files_keepAll (show (keepAll σ _).files n = some x from hx)
    show _ + wsum n (σ.pending.filter fun s => !q s) = _
    have := h.pend n y hy
    have := wsum_parts n q σ.pending
    rw [e, e2]; omega
  · show s.file ≤ (keepAll σ _).steps
    rw [r5]; exact h.wfile s (List.mem_filter.1 hs).1
  · show (keepAll σ _).held = play (keepAll σ _).durable (σ.pending.filter fun s => !q s)
    rw [r6, kd, play_filter q1]; exact h.replay
  · show (keepAll σ _).used = (total (keepAll σ _).files (keepAll σ _).held : Int)
    rw [r2, r6, h.used, total_congr (F := (keepAll σ _).files) fun p hp => blen_keepAll (kf _ (hH.here p hp))]
  · show (keepAll σ _).durable.length + (σ.pending.filter fun s => !q s).length ≤ (keepAll σ _).steps
    rw [kd, r5]
    have := h.count
    have := List.length_filter_le (fun s => !q s) σ.pending
    omega

theorem filter_parts (q : Step → Bool) (l : List Step) : (l.filter q).length + (l.filter fun s => !q s).length = l.length := by
  induction l with
  | nil => rfl
  | cons s r ih =>
    rw [List.filter_cons, List.filter_cons, List.length_cons, ← ih]
    cases q s
    · simp; omega
    · simp; omega

/-- A sync of the names. -/
theorem Inv.settleN {σ : St} (h : Inv σ) : Inv (settle (fun p => !decide (p.kind = 0)) σ) := by
  obtain ⟨m, hc, ht⟩ := h.chain
  obtain ⟨q, hq⟩ : ∃ q : Step → Bool, q = fun p => !decide (p.kind = 0) := ⟨_, rfl⟩
  rw [← hq]
  have q1 : ∀ s, q s = false → s.kind = 0 := fun s hs => by rw [hq] at hs; simpa using hs
  have q2 : ∀ s, q s = true → ¬ s.kind = 0 := fun s hs => by rw [hq] at hs; simpa using hs
  have hr : ∀ s ∈ σ.pending.filter fun s => !q s, s.kind = 0 := fun s hs => q1 s (by simpa using (List.mem_filter.1 hs).2)
  obtain ⟨r1, r2, r3, r4, r5, r6, _⟩ := keepAll_rest (σ.pending.filter q) σ
  obtain ⟨kc, kd⟩ := Chain.keepAll (l := σ.pending.filter q) (r := []) (σ := σ) (m := m) (by rw [List.append_nil]; exact hc.filter q1)
  have kd' : (keepAll σ (σ.pending.filter q)).durable = σ.held := by rw [kd, play_filter q1]; exact h.replay.symm
  have nm : NmOk (keepAll σ (σ.pending.filter q)).files (top m (σ.pending.filter q)) (keepAll σ (σ.pending.filter q)).durable := kc
  refine ⟨by show (keepAll σ _).room ≤ _; rw [r1]; exact h.room, by show -1 ≤ (keepAll σ (σ.pending.filter q)).fuse ∧ (keepAll σ (σ.pending.filter q)).fuse ≤ 9223372036854775807; rw [r4]; exact h.fuse, ⟨top m (σ.pending.filter q), ?_, ?_⟩, fun n x hx => ?_, fun n x hx => ?_, fun s hs => ?_, ?_, ?_, ?_⟩
  · exact Chain.writes nm fun s hs => ⟨hr s hs, h.plain s (List.mem_filter.1 hs).1⟩
  · show top _ (σ.pending.filter fun s => !q s) ≤ (keepAll σ _).steps
    rw [r5, top_writes hr, top_filter q1]; exact ht
  · obtain ⟨y, hy, e, _⟩ := files_keepAll (show (keepAll σ _).files n = some x from hx)
    show 0 < n ∧ n ≤ (keepAll σ _).steps ∧ _ ≤ 64 * (keepAll σ _).steps
    rw [r5, e]; exact h.nums n y hy
  · obtain ⟨y, hy, e, e2⟩ := files_keepAll (show (keepAll σ _).files n = some x from hx)
    show _ + wsum n (σ.pending.filter fun s => !q s) = _
    have := h.pend n y hy
    have := wsum_parts n q σ.pending
    rw [e, e2]; omega
  · show s.file ≤ (keepAll σ _).steps
    rw [r5]; exact h.wfile s (List.mem_filter.1 hs).1
  · show (keepAll σ _).held = play (keepAll σ _).durable (σ.pending.filter fun s => !q s)
    rw [play_writes hr, r6, kd']
  · show (keepAll σ _).used = (total (keepAll σ _).files (keepAll σ _).held : Int)
    rw [r2, r6, h.used, total_congr (F := (keepAll σ _).files) fun p hp => blen_keepAll (nm.here p (by rw [kd']; exact hp))]
  · show (keepAll σ _).durable.length + (σ.pending.filter fun s => !q s).length ≤ (keepAll σ _).steps
    have h1 := play_length (σ.pending.filter q) σ.durable
    have h2 := filter_parts q σ.pending
    have h3 := h.count
    rw [r5, kd]
    omega

theorem fit_write {m : Nat} {D : Nm} {n z : Nat} (h0 : 0 < z) (h1 : z ≤ 64) : Fit m D ⟨0, n, z, [], []⟩ := ⟨⟨Nat.zero_le _, h1, fun _ => h0, Nat.zero_le _, Nat.zero_le _⟩, fun e => (by cases e), fun e => (by cases e)⟩

/-- A write. -/
theorem Inv.write {σ : St} (h : Inv σ) (h0 : σ.fuse ≠ 0) {k : Bs} {n : Nat} (hk : look σ.held k = some n) {p : Bs} (hp : 0 < p.length) (hp2 : p.length ≤ 64) :
    Inv (doSt σ ⟨0, n, p.length, [], []⟩ p) ∧ (doSt σ ⟨0, n, p.length, [], []⟩ p).held = σ.held ∧ (doSt σ ⟨0, n, p.length, [], []⟩ p).steps = σ.steps + 1 := by
  have hH := h.heldOk
  obtain ⟨hn, n0, n1⟩ := hH.look hk
  obtain ⟨x, hx⟩ := Option.ne_none_iff_exists'.1 hn
  have e : doSt σ ⟨0, n, p.length, [], []⟩ p = { Vf.tick σ with files := setF σ.files n (some { x with bytes := x.bytes ++ p }), used := σ.used + p.length, pending := σ.pending ++ [⟨0, n, p.length, [], []⟩] } := by
    unfold doSt
    rw [if_neg h0]
    unfold act
    rw [if_pos rfl]
    unfold Vf.write
    have : (Vf.tick σ).files n = some x := hx
    simp only [this]
    rfl
  rw [e]
  have hT := h.tick
  obtain ⟨m, hc, ht⟩ := hT.chain
  have mono : ∀ k, (Vf.tick σ).files k ≠ none → setF σ.files n (some { x with bytes := x.bytes ++ p }) k ≠ none := fun k hk => by
    by_cases ek : k = n
    · rw [ek, setF_eq]; simp
    · rw [setF_ne ek]; exact hk
  have hmem : n ∈ σ.held.map (·.2) := List.mem_map.2 ⟨_, look_mem hk, rfl⟩
  refine ⟨⟨hT.room, hT.fuse, ⟨m, (hc.mono mono).snoc (fun e => (by cases e)) (fit_write hp hp2), ?_⟩, fun j y hy => ?_, fun j y hy => ?_, fun s hs => ?_, ?_, ?_, ?_⟩, rfl, rfl⟩
  · show top m (σ.pending ++ [_]) ≤ σ.steps + 1
    rw [top_snoc, up_write rfl]; exact ht
  · have hy' : setF σ.files n (some { x with bytes := x.bytes ++ p }) j = some y := hy
    by_cases ej : j = n
    · subst ej
      rw [setF_eq] at hy'
      cases hy'
      have := h.nums j x hx
      refine ⟨n0, Nat.le_succ_of_le n1, ?_⟩
      show (x.bytes ++ p).length ≤ 64 * (σ.steps + 1)
      rw [List.length_append]; omega
    · rw [setF_ne ej] at hy'
      exact hT.nums j y hy'
  · have hy' : setF σ.files n (some { x with bytes := x.bytes ++ p }) j = some y := hy
    show y.synced + wsum j (σ.pending ++ [_]) = y.bytes.length
    rw [wsum_append]
    have e1 : wsum j [⟨0, n, p.length, [], []⟩] = if n = j then p.length else 0 := by simp [wsum]
    rw [e1]
    by_cases ej : j = n
    · subst ej
      rw [setF_eq] at hy'
      cases hy'
      have := h.pend j x hx
      rw [if_pos rfl]
      show x.synced + _ = (x.bytes ++ p).length
      rw [List.length_append]; omega
    · rw [setF_ne ej] at hy'
      rw [if_neg (fun e => ej e.symm)]
      have := h.pend j y hy'
      omega
  · rcases List.mem_append.1 (show s ∈ σ.pending ++ [_] from hs) with h' | h'
    · exact hT.wfile s h'
    · rw [List.mem_singleton.1 h']; exact Nat.le_succ_of_le n1
  · show σ.held = play σ.durable (σ.pending ++ [_])
    rw [play_snoc, ren_write rfl]; exact h.replay
  · show σ.used + p.length = (total _ σ.held : Int)
    rw [total_more (a := p.length) hH.vals hmem (by unfold blen; rw [setF_eq, hx]; exact List.length_append), h.used]
    omega
  · show σ.durable.length + (σ.pending ++ [_]).length ≤ σ.steps + 1
    rw [List.length_append]
    have := h.count
    show _ + (_ + 1) ≤ _
    omega

/-- A naming. -/
theorem Inv.naming {σ : St} (h : Inv σ) (h0 : σ.fuse ≠ 0) {k : Bs} (hk : look σ.held k = none) (hl : k.length ≤ 32) : Inv (doSt σ ⟨1, 0, 0, k, []⟩ []) := by
  have e : doSt σ ⟨1, 0, 0, k, []⟩ [] = { Vf.tick σ with files := setF σ.files (σ.steps + 1) (some ⟨[], 0⟩), held := put σ.held k (σ.steps + 1), pending := σ.pending ++ [⟨1, σ.steps + 1, 0, k, []⟩] } := by
    unfold doSt
    rw [if_neg h0]
    rfl
  rw [e]
  have hT := h.tick
  have hH := h.heldOk
  obtain ⟨m, hc, ht⟩ := h.chain
  have hfree : σ.files (σ.steps + 1) = none := by
    cases hx : σ.files (σ.steps + 1) with
    | none => rfl
    | some x => have := h.nums _ x hx; omega
  have mono : ∀ j, σ.files j ≠ none → setF σ.files (σ.steps + 1) (some ⟨[], 0⟩) j ≠ none := fun j hj => by
    by_cases ej : j = σ.steps + 1
    · rw [ej, setF_eq]; simp
    · rw [setF_ne ej]; exact hj
  refine ⟨hT.room, hT.fuse, ⟨m, (hc.mono mono).snoc (fun _ => by show setF _ _ _ (σ.steps + 1) ≠ none; rw [setF_eq]; simp) ⟨⟨(by show 1 ≤ 3; omega), Nat.zero_le _, fun e => (by cases e), hl, Nat.zero_le _⟩, fun _ => (by show _ < σ.steps + 1; omega), fun e => (by cases e)⟩, ?_⟩, fun j y hy => ?_, fun j y hy => ?_, fun s hs => ?_, ?_, ?_, ?_⟩
  · show top m (σ.pending ++ [_]) ≤ σ.steps + 1
    rw [top_snoc]; exact Nat.le_refl _
  · have hy' : setF σ.files (σ.steps + 1) (some ⟨[], 0⟩) j = some y := hy
    by_cases ej : j = σ.steps + 1
    · rw [ej, setF_eq] at hy'
      cases hy'
      exact ⟨by omega, by rw [ej]; exact Nat.le_refl _, Nat.zero_le _⟩
    · rw [setF_ne ej] at hy'
      exact hT.nums j y hy'
  · have hy' : setF σ.files (σ.steps + 1) (some ⟨[], 0⟩) j = some y := hy
    show y.synced + wsum j (σ.pending ++ [_]) = y.bytes.length
    rw [wsum_append]
    have e1 : wsum j [⟨1, σ.steps + 1, 0, k, []⟩] = 0 := by simp [wsum]
    rw [e1]
    by_cases ej : j = σ.steps + 1
    · rw [ej, setF_eq] at hy'
      cases hy'
      rw [wsum_none (fun s hs hh => by have := h.wfile s hs; omega)]
      rfl
    · rw [setF_ne ej] at hy'
      exact h.pend j y hy'
  · rcases List.mem_append.1 (show s ∈ σ.pending ++ [_] from hs) with h' | h'
    · exact hT.wfile s h'
    · rw [List.mem_singleton.1 h']; exact Nat.le_refl _
  · show put σ.held k (σ.steps + 1) = play σ.durable (σ.pending ++ [_])
    rw [play_snoc, ← h.replay]
    rfl
  · show σ.used = (total _ (put σ.held k (σ.steps + 1)) : Int)
    rw [total_put, del_none hk, total_set (fun hm => by obtain ⟨q, hq, eq⟩ := List.mem_map.1 hm; have := (hH.le q hq).2; omega), h.used]
    have : blen (setF σ.files (σ.steps + 1) (some ⟨[], 0⟩)) (σ.steps + 1) = 0 := by unfold blen; rw [setF_eq]; rfl
    rw [this]; omega
  · show σ.durable.length + (σ.pending ++ [_]).length ≤ σ.steps + 1
    rw [List.length_append]
    have := h.count
    show _ + (_ + 1) ≤ _
    omega

/-- A move or an unnaming. -/
theorem Inv.moving {σ : St} (h : Inv σ) (h0 : σ.fuse ≠ 0) {s : Step} (hs : s.kind = 2 ∨ s.kind = 3) (hz : s.size = 0) (hf : s.file = 0) (hl : (look σ.held s.name).isSome = true) (h1 : s.name.length ≤ 32) (h2 : s.to.length ≤ 32) : Inv (doSt σ s []) := by
  have e : doSt σ s [] = { Vf.tick σ with held := ren s σ.held, used := (match σ.files (lost s σ.held) with | none => σ.used | some x => σ.used - x.bytes.length), pending := σ.pending ++ [s] } := by
    unfold doSt
    rw [if_neg h0]
    unfold act
    rw [if_neg (by omega), if_neg (by omega), if_pos (by omega)]
    rfl
  rw [e]
  have hT := h.tick
  have hH := h.heldOk
  obtain ⟨m, hc, ht⟩ := h.chain
  have hzero : σ.files 0 = none := by
    cases hx : σ.files 0 with
    | none => rfl
    | some x => have := h.nums _ x hx; omega
  have k1 : ¬ s.kind = 1 := by omega
  refine ⟨hT.room, hT.fuse, ⟨m, hc.snoc (fun e => absurd e k1) ⟨⟨(by omega), (by omega), fun e => (by omega), h1, h2⟩, fun e => absurd e k1, fun _ => (by rw [← h.replay]; exact hl)⟩, ?_⟩, hT.nums, fun j y hy => ?_, fun t ht' => ?_, ?_, ?_, ?_⟩
  · show top m (σ.pending ++ [s]) ≤ σ.steps + 1
    rw [top_snoc]; unfold up; rw [if_neg k1]; omega
  · show y.synced + wsum j (σ.pending ++ [s]) = y.bytes.length
    rw [wsum_append, wsum_none (l := [s]) (fun t ht' hh => by rw [List.mem_singleton.1 ht'] at hh; omega)]
    exact h.pend j y hy
  · rcases List.mem_append.1 (show t ∈ σ.pending ++ [s] from ht') with h' | h'
    · exact hT.wfile t h'
    · rw [List.mem_singleton.1 h', hf]; exact Nat.zero_le _
  · show ren s σ.held = play σ.durable (σ.pending ++ [s])
    rw [play_snoc, ← h.replay]
  · show (match σ.files (lost s σ.held) with | none => σ.used | some x => σ.used - x.bytes.length) = (total σ.files (ren s σ.held) : Int)
    have hn := num_some hl
    have hd := total_del (F := σ.files) hH.keys hn
    rcases hs with k2 | k3
    · have e1 : lost s σ.held = num (del σ.held s.name) s.to := by unfold lost; rw [if_pos k2]
      have e2 : ren s σ.held = put (del σ.held s.name) s.to (num σ.held s.name) := by unfold ren; rw [if_neg k1, if_pos k2]
      rw [e1, e2, total_put]
      cases el : look (del σ.held s.name) s.to with
      | none =>
        have e3 : num (del σ.held s.name) s.to = 0 := by unfold num; rw [el]; rfl
        rw [e3, hzero, del_none el]
        show σ.used = _
        rw [h.used]; omega
      | some l =>
        have e3 : num (del σ.held s.name) s.to = l := by unfold num; rw [el]; rfl
        obtain ⟨x, hx⟩ := Option.ne_none_iff_exists'.1 ((hH.del s.name).look el).1
        have hd2 := total_del (F := σ.files) (hH.del s.name).keys el
        have bl : blen σ.files l = x.bytes.length := by unfold blen; rw [hx]
        rw [e3, hx]
        show σ.used - _ = _
        rw [h.used]; omega
    · have e1 : lost s σ.held = num σ.held s.name := by unfold lost; rw [if_neg (by omega), if_pos k3]
      have e2 : ren s σ.held = del σ.held s.name := by unfold ren; rw [if_neg k1, if_neg (by omega), if_pos k3]
      obtain ⟨x, hx⟩ := Option.ne_none_iff_exists'.1 (hH.look hn).1
      have bl : blen σ.files (num σ.held s.name) = x.bytes.length := by unfold blen; rw [hx]
      rw [e1, e2, hx]
      show σ.used - _ = _
      rw [h.used]; omega
  · show σ.durable.length + (σ.pending ++ [s]).length ≤ σ.steps + 1
    rw [List.length_append]
    have := h.count
    show _ + (_ + 1) ≤ _
    omega
end Vf
end Go.Proofs.Ytclokpkhkokfhab
