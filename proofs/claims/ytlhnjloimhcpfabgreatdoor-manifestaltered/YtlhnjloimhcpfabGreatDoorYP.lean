/-
  A manifest in plain words: tables' words, versions, edits, which version may be, what stands behind an edit, an edit's bytes and what is read of them. Nothing here speaks of the program.
-/
import Derived.Test.YtlhnjloimhcpfabGreatDoorBase
import Derived.Laws.Rows
import Derived.Sort.Walk0
namespace Go.Proofs.YtlhnjloimhcpfabGreatDoor
namespace Mf


abbrev Bs := List UInt8

structure Mt where
  number : Int
  level : Int
  count : Int
  first : Bs
  last : Bs

structure Vn where
  tabs : List Mt
  log : Int
  seq : Int
  next : Int

structure Ed where
  drops : List Int
  adds : List Mt
  log : Int
  seq : Int
  next : Int

def inB (x lo hi : Int) : Bool := decide (lo ≤ x) && decide (x ≤ hi)
def nums (l s n : Int) : Bool := inB l 1 999999 && inB s 0 1073741824 && inB n 1 999999
/-- Are a table's words within their bounds? -/
def words (m : Mt) : Bool := inB m.number 1 999999 && inB m.level 0 6 && inB m.count 1 65536 && inB m.first.length 1 512 && inB m.last.length 1 512 && !Op.bytesLess m.last m.first
def cmpI (a b : Int) : Int := if a < b then -1 else if b < a then 1 else 0
def cmpB (a b : Bs) : Int := if Op.bytesLess a b then -1 else if Op.bytesLess b a then 1 else 0
def ord (a b : Mt) : Int := if a.level = b.level then if a.level = 0 then cmpI b.number a.number else cmpB a.first b.first else cmpI a.level b.level
def lt (a b : Mt) : Bool := decide (ord a b < 0)
/-- May b stand right behind a? -/
def follow (a b : Mt) : Bool := if a.level = b.level ∧ 0 < a.level then Op.bytesLess a.last b.first else lt a b
/-- Is the i-th table of a list fine? -/
def goodAt (l : List Mt) (next : Int) (i : Nat) : Bool :=
  match l[i]? with
  | none => true
  | some x => words x && decide (x.number < next) && (match i with | 0 => true | k + 1 => (match l[k]? with | none => true | some a => follow a x))
/-- The numbers that are there, each once. -/
def once : List Int → List Int
  | [] => []
  | x :: r => if x ∈ once r then once r else x :: once r
def numsOf (l : List Mt) : List Int := l.map (·.number)
def mayT (l : List Mt) (next : Int) : Bool := (List.range l.length).all (goodAt l next) && decide ((once (numsOf l).reverse).length = l.length)
/-- May a version be? -/
def may (v : Vn) : Bool := decide (v.tabs.length ≤ 1024) && nums v.log v.seq v.next && mayT v.tabs v.next
def first : Vn := ⟨[], 1, 0, 1⟩
def left (l : List Mt) (drops : List Int) : List Mt := l.filter fun x => decide (x.number ∉ drops)
def allDrops (l : List Mt) (drops : List Int) : Bool := decide ((l.length : Int) - (left l drops).length = drops.length)
/-- The tables behind an edit, in their order. -/
def srt (l : List Mt) : List Mt := l.mergeSort fun a b => !lt b a
def newTabs (v : Vn) (e : Ed) : List Mt := srt (left v.tabs e.drops ++ e.adds)
def behind (v : Vn) (e : Ed) : Vn := ⟨newTabs v e, e.log, e.seq, e.next⟩
def goes (v : Vn) (e : Ed) : Bool := allDrops v.tabs e.drops && !(decide (e.log < v.log) || decide (e.seq < v.seq) || decide (e.next < v.next)) && may (behind v e)
def fromV (v : Vn) : Ed := ⟨[], v.tabs, v.log, v.seq, v.next⟩

/-! ### The order -/
theorem bl_irrefl (x : Bs) : Op.bytesLess x x = false := by rw [Go.Proofs.bytesLess_eq]; exact decide_eq_false (List.lt_irrefl x)
theorem bl_trans {x y z : Bs} (h : Op.bytesLess x y = true) (k : Op.bytesLess y z = true) : Op.bytesLess x z = true := by
  rw [Go.Proofs.bytesLess_eq] at *
  exact decide_eq_true (List.lt_trans (of_decide_eq_true h) (of_decide_eq_true k))
theorem bl_total {x y : Bs} (h : Op.bytesLess x y = false) (k : Op.bytesLess y x = false) : x = y := by
  rw [Go.Proofs.bytesLess_eq] at *
  exact List.le_antisymm (List.not_lt.1 (of_decide_eq_false k)) (List.not_lt.1 (of_decide_eq_false h))
theorem bl_asym {x y : Bs} (h : Op.bytesLess x y = true) : Op.bytesLess y x = false := by
  cases k : Op.bytesLess y x with
  | false => rfl
  | true => have := bl_trans h k; rw [bl_irrefl] at this; cases this
theorem bl_ntrans {x y z : Bs} (h : Op.bytesLess x y = false) (k : Op.bytesLess y z = false) : Op.bytesLess x z = false := by
  cases c : Op.bytesLess x z with
  | false => rfl
  | true =>
    cases d : Op.bytesLess y x with
    | true => have := bl_trans d c; rw [k] at this; cases this
    | false => have e := bl_total h d; rw [e, k] at c; cases c
theorem cmpI_lt (a b : Int) : cmpI a b < 0 ↔ a < b := by
  unfold cmpI
  split
  · simp [*]
  · split <;> simp <;> omega
theorem cmpB_lt (a b : Bs) : cmpB a b < 0 ↔ Op.bytesLess a b = true := by
  unfold cmpB
  cases h : Op.bytesLess a b with
  | true => simp
  | false => cases h2 : Op.bytesLess b a <;> simp
theorem lt_iff (a b : Mt) : lt a b = true ↔ a.level < b.level ∨ a.level = b.level ∧ (a.level = 0 ∧ b.number < a.number ∨ a.level ≠ 0 ∧ Op.bytesLess a.first b.first = true) := by
  unfold lt ord
  rw [decide_eq_true_eq]
  by_cases h : a.level = b.level
  · rw [if_pos h]
    by_cases h0 : a.level = 0
    · rw [if_pos h0, cmpI_lt]
      constructor
      · intro k; exact .inr ⟨h, .inl ⟨h0, k⟩⟩
      · rintro (k | ⟨_, ⟨_, k⟩ | ⟨k, _⟩⟩)
        · omega
        · exact k
        · exact absurd h0 k
    · rw [if_neg h0, cmpB_lt]
      constructor
      · intro k; exact .inr ⟨h, .inr ⟨h0, k⟩⟩
      · rintro (k | ⟨_, ⟨k, _⟩ | ⟨_, k⟩⟩)
        · omega
        · exact absurd k h0
        · exact k
  · rw [if_neg h, cmpI_lt]
    constructor
    · intro k; exact .inl k
    · rintro (k | ⟨k, _⟩)
      · exact k
      · exact absurd k h
theorem lt_false (a b : Mt) : lt a b = false ↔ b.level < a.level ∨ a.level = b.level ∧ (a.level = 0 ∧ a.number ≤ b.number ∨ a.level ≠ 0 ∧ Op.bytesLess a.first b.first = false) := by
  rw [Bool.eq_false_iff, ne_eq, lt_iff]
  constructor
  · intro h
    by_cases h1 : b.level < a.level
    · exact .inl h1
    · have e : a.level = b.level := by
        have : ¬ a.level < b.level := fun k => h (.inl k)
        omega
      refine .inr ⟨e, ?_⟩
      by_cases h0 : a.level = 0
      · refine .inl ⟨h0, ?_⟩
        have : ¬ b.number < a.number := fun k => h (.inr ⟨e, .inl ⟨h0, k⟩⟩)
        omega
      · refine .inr ⟨h0, ?_⟩
        rw [Bool.eq_false_iff]
        exact fun k => h (.inr ⟨e, .inr ⟨h0, k⟩⟩)
  · rintro (h | ⟨e, ⟨h0, h⟩ | ⟨h0, h⟩⟩)
    · rintro (k | ⟨k, _⟩) <;> omega
    · rintro (k | ⟨_, ⟨_, k⟩ | ⟨k, _⟩⟩)
      · omega
      · omega
      · exact k h0
    · rintro (k | ⟨_, ⟨k, _⟩ | ⟨_, k⟩⟩)
      · omega
      · exact h0 k
      · rw [h] at k; cases k
theorem lt_irrefl (a : Mt) : lt a a = false := by
  rw [lt_false]
  by_cases h : a.level = 0
  · exact .inr ⟨rfl, .inl ⟨h, Int.le_refl _⟩⟩
  · exact .inr ⟨rfl, .inr ⟨h, bl_irrefl _⟩⟩
theorem lt_trans {a b c : Mt} (h : lt a b = true) (k : lt b c = true) : lt a c = true := by
  rw [lt_iff] at *
  rcases h with h | ⟨e, h⟩
  · rcases k with k | ⟨f, k⟩
    · exact .inl (by omega)
    · exact .inl (by omega)
  · rcases k with k | ⟨f, k⟩
    · exact .inl (by omega)
    · refine .inr ⟨by omega, ?_⟩
      rcases h with ⟨h0, h⟩ | ⟨h0, h⟩
      · rcases k with ⟨k0, k⟩ | ⟨k0, k⟩
        · exact .inl ⟨h0, by omega⟩
        · omega
      · rcases k with ⟨k0, k⟩ | ⟨k0, k⟩
        · omega
        · exact .inr ⟨h0, bl_trans h k⟩
theorem lt_ntrans {a b c : Mt} (h : lt a b = false) (k : lt b c = false) : lt a c = false := by
  rw [lt_false] at *
  rcases h with h | ⟨e, h⟩
  · rcases k with k | ⟨f, k⟩
    · exact .inl (by omega)
    · exact .inl (by omega)
  · rcases k with k | ⟨f, k⟩
    · exact .inl (by omega)
    · refine .inr ⟨by omega, ?_⟩
      rcases h with ⟨h0, h⟩ | ⟨h0, h⟩
      · rcases k with ⟨k0, k⟩ | ⟨k0, k⟩
        · exact .inl ⟨h0, by omega⟩
        · omega
      · rcases k with ⟨k0, k⟩ | ⟨k0, k⟩
        · omega
        · exact .inr ⟨h0, bl_ntrans h k⟩
theorem lt_asym {a b : Mt} (h : lt a b = true) : lt b a = false := by
  cases k : lt b a with
  | false => rfl
  | true => have := lt_trans h k; rw [lt_irrefl] at this; cases this

/-! ### What goodAt says -/
theorem words_le {m : Mt} (h : words m = true) : Op.bytesLess m.last m.first = false := by
  unfold words at h
  simp only [Bool.and_eq_true, Bool.not_eq_true'] at h
  exact h.2
theorem follow_lt {a b : Mt} (ha : words a = true) (h : follow a b = true) : lt a b = true := by
  unfold follow at h
  split at h
  · rename_i k
    rw [lt_iff]
    refine .inr ⟨k.1, .inr ⟨by omega, ?_⟩⟩
    cases c : Op.bytesLess a.first b.first with
    | true => rfl
    | false => have := bl_ntrans (words_le ha) c; rw [h] at this; cases this
  · exact h
theorem good_words {l : List Mt} {next : Int} {i : Nat} (hi : i < l.length) (h : goodAt l next i = true) : words l[i] = true ∧ l[i].number < next := by
  unfold goodAt at h
  rw [List.getElem?_eq_getElem hi] at h
  simp only [Bool.and_eq_true, decide_eq_true_eq] at h
  exact ⟨h.1.1, h.1.2⟩
theorem good_follow {l : List Mt} {next : Int} {k : Nat} (hi : k + 1 < l.length) (h : goodAt l next (k + 1) = true) : follow l[k] l[k + 1] = true := by
  unfold goodAt at h
  rw [List.getElem?_eq_getElem hi] at h
  simp only [Bool.and_eq_true, decide_eq_true_eq] at h
  have := h.2
  rw [List.getElem?_eq_getElem (by omega : k < l.length)] at this
  exact this
theorem good_mk {l : List Mt} {next : Int} {i : Nat} (hi : i < l.length) (h1 : words l[i] = true) (h2 : l[i].number < next) (h3 : ∀ k (hk : k + 1 = i), follow (l[k]'(by omega)) l[i] = true) : goodAt l next i = true := by
  unfold goodAt
  rw [List.getElem?_eq_getElem hi]
  simp only [h1, decide_eq_true h2, Bool.and_self, Bool.true_and]
  cases i with
  | zero => rfl
  | succ k =>
    show (match l[k]? with | none => true | some a => follow a l[k + 1]) = true
    rw [List.getElem?_eq_getElem (by omega : k < l.length)]
    exact h3 k rfl
theorem mayT_good {l : List Mt} {next : Int} (h : mayT l next = true) (i : Nat) (hi : i < l.length) : goodAt l next i = true := by
  unfold mayT at h
  rw [Bool.and_eq_true, List.all_eq_true] at h
  exact h.1 i (List.mem_range.2 hi)

/-! ### Numbers, each once -/
theorem once_mem (l : List Int) (x : Int) : x ∈ once l ↔ x ∈ l := by
  induction l with
  | nil => rfl
  | cons y r ih =>
    unfold once
    split
    · rename_i h
      rw [ih, List.mem_cons]
      constructor
      · exact .inr
      · rintro (rfl | k)
        · exact ih.1 h
        · exact k
    · rw [List.mem_cons, List.mem_cons, ih]
theorem once_le (l : List Int) : (once l).length ≤ l.length := by
  induction l with
  | nil => exact Nat.le_refl _
  | cons y r ih =>
    unfold once
    split
    · rw [List.length_cons]; omega
    · rw [List.length_cons, List.length_cons]; omega
theorem once_nodup (l : List Int) : (once l).length = l.length ↔ l.Nodup := by
  induction l with
  | nil => simp [once]
  | cons y r ih =>
    have h1 := once_le r
    unfold once
    split
    · rename_i h
      rw [List.length_cons, List.nodup_cons]
      constructor
      · intro k; omega
      · intro k; exact absurd ((once_mem r y).1 h) k.1
    · rename_i h
      rw [List.length_cons, List.length_cons, List.nodup_cons, ← ih]
      constructor
      · intro k; exact ⟨fun c => h ((once_mem r y).2 c), by omega⟩
      · intro k; omega
theorem once_snoc (l : List Int) (x : Int) : (once (x :: l)).length = (once l).length + (if x ∈ l then 0 else 1) := by
  show (if x ∈ once l then once l else x :: once l).length = _
  by_cases h : x ∈ l
  · rw [if_pos ((once_mem l x).2 h), if_pos h]; rfl
  · rw [if_neg (fun c => h ((once_mem l x).1 c)), if_neg h]; rfl
theorem mayT_nodup {l : List Mt} {next : Int} (h : mayT l next = true) : (numsOf l).Nodup := by
  unfold mayT at h
  rw [Bool.and_eq_true, decide_eq_true_eq] at h
  have := h.2
  rw [show l.length = (numsOf l).reverse.length by unfold numsOf; simp] at this
  have h2 : (numsOf l).reverse.Pairwise (· ≠ ·) := (once_nodup _).1 this
  exact (List.pairwise_reverse.1 h2).imp fun k => k.symm

/-! ### One order for what may be -/
theorem chain_pair (l : List Mt) (h : ∀ i (hi : i + 1 < l.length), lt l[i] l[i + 1] = true) : l.Pairwise fun a b => lt a b = true := by
  have step : ∀ d i (hd : i + (d + 1) < l.length), lt l[i] (l[i + (d + 1)]) = true := by
    intro d
    induction d with
    | zero => exact fun i hd => h i hd
    | succ d ih => exact fun i hd => lt_trans (ih i (by omega)) (h (i + (d + 1)) hd)
  rw [List.pairwise_iff_getElem]
  intro i j hi hj hij
  obtain ⟨d, rfl⟩ : ∃ d, j = i + (d + 1) := ⟨j - i - 1, by omega⟩
  exact step d i hj
theorem mayT_pair {l : List Mt} {next : Int} (h : mayT l next = true) : l.Pairwise fun a b => lt a b = true :=
  chain_pair l fun i hi => follow_lt (good_words (by omega) (mayT_good h i (by omega))).1 (good_follow hi (mayT_good h (i + 1) hi))
theorem sorted_one {l m : List Mt} (hl : l.Pairwise fun a b => lt a b = true) (hm : m.Pairwise fun a b => lt b a = false) (hp : m.Perm l) : m = l := by
  induction l generalizing m with
  | nil => exact List.Perm.eq_nil hp
  | cons x r ih =>
    cases m with
    | nil => exact absurd hp.symm.eq_nil (by simp)
    | cons y s =>
      rw [List.pairwise_cons] at hl hm
      have hxy : x = y := by
        have hy : y ∈ x :: r := hp.subset (by simp)
        have hx : x ∈ y :: s := hp.symm.subset (by simp)
        rcases List.mem_cons.1 hy with e | hy
        · exact e.symm
        · rcases List.mem_cons.1 hx with e | hx
          · exact e
          · have h1 := hl.1 y hy
            have h2 := hm.1 x hx
            rw [h1] at h2; cases h2
      subst hxy
      rw [ih hl.2 hm.2 ((List.perm_cons x).1 hp)]
theorem srt_perm (l : List Mt) : (srt l).Perm l := List.mergeSort_perm _ _
theorem srt_sorted (l : List Mt) : (srt l).Pairwise fun a b => lt b a = false := by
  have := List.pairwise_mergeSort (le := fun a b => !lt b a) (fun a b c h1 h2 => by
    simp only [Bool.not_eq_true'] at *
    exact lt_ntrans h2 h1) (fun a b => by
    cases h : lt b a with
    | false => simp
    | true => simp [lt_asym h]) l
  exact this.imp fun h => by simpa using h
/-- What is sorted and may be is the one sorted list. -/
theorem may_srt {l m : List Mt} {next : Int} (hp : m.Perm l) (h : mayT m next = true) : m = srt l :=
  (sorted_one (mayT_pair h) (srt_sorted l) ((srt_perm l).trans hp.symm)).symm
theorem srt_may {l m : List Mt} {next : Int} (hs : m.Pairwise fun a b => lt b a = false) (hp : m.Perm l) (h : mayT (srt l) next = true) : m = srt l :=
  sorted_one (mayT_pair h) hs (hp.trans (srt_perm l).symm)
theorem mayT_same {l m : List Mt} {next : Int} (hs : m.Pairwise fun a b => lt b a = false) (hp : m.Perm l) : mayT m next = mayT (srt l) next := by
  cases h : mayT m next with
  | true => rw [may_srt hp h] at h; rw [h]
  | false =>
    cases h2 : mayT (srt l) next with
    | false => rfl
    | true => rw [srt_may hs hp h2] at h; rw [h] at h2; cases h2
theorem srt_id {l : List Mt} (h : l.Pairwise fun a b => lt a b = true) : srt l = l := sorted_one h (srt_sorted l) (srt_perm l)

/-! ### Behind the first version -/
theorem left_none (l : List Mt) : left l [] = l := by unfold left; simp
theorem behind_from {v : Vn} (h : may v = true) : behind first (fromV v) = v ∧ goes first (fromV v) = true := by
  obtain ⟨t, lo, se, ne⟩ := v
  have hm := h
  unfold may at h
  simp only [Bool.and_eq_true, decide_eq_true_eq] at h
  have e1 : newTabs first (fromV ⟨t, lo, se, ne⟩) = t := srt_id (mayT_pair h.2)
  have e2 : behind first (fromV ⟨t, lo, se, ne⟩) = ⟨t, lo, se, ne⟩ := by unfold behind; rw [e1]; rfl
  refine ⟨e2, ?_⟩
  unfold goes
  rw [e2, hm]
  have hn := h.1.2
  unfold nums inB at hn
  simp only [Bool.and_eq_true, decide_eq_true_eq] at hn
  have a1 : ¬ lo < 1 := by omega
  have a2 : ¬ se < 0 := by omega
  have a3 : ¬ ne < 1 := by omega
  simp [allDrops, left, first, fromV, a1, a2, a3]
end Mf
end Go.Proofs.YtlhnjloimhcpfabGreatDoor
