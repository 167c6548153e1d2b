/-
  What one turn of memory makes of a file system: a field, a file's number of durable bytes, its bytes, the pending steps, the names, the files.
-/
import Derived.Test.YtclokpkhkokfhabVRen
namespace Go.Proofs.Ytclokpkhkokfhab
open Go.RowKit Go.Maps

/-- What a block is. -/
def kindAt (w : World) (i : Nat) : Option (Option TypeId) := (w.heap[i]?).map fun o => match o with | .cells _ t _ => some t | _ => none
theorem kind_cells {w : World} {i : Nat} {cs : Array Value} {t : TypeId} {fr : Nat × Nat} (h : w.heap[i]? = some (.cells cs t fr)) : kindAt w i = some (some t) := by simp [kindAt, h]
theorem ne_kind {w : World} {i j : Nat} {x y : Option (Option TypeId)} (hi : kindAt w i = x) (hj : kindAt w j = y) (h : x ≠ y) : i ≠ j := fun e => h (by rw [← hi, ← hj, e])
theorem NamesAt.kind {w : World} {b : Nat} {m : Vf.Nm} (h : NamesAt w b m) : kindAt w b = some none := by obtain ⟨D, ⟨es, c, hb, _⟩, _⟩ := h; simp [kindAt, hb]
theorem PtrsAt.kind {w : World} {b N : Nat} {fs : Nat → Option Nat} (h : PtrsAt w b N fs) : kindAt w b = some none := by obtain ⟨D, ⟨es, c, hb, _⟩, _⟩ := h; simp [kindAt, hb]
theorem row_kind {w : World} {base e size : Nat} {v : Value} {n g : Nat} {xs : List Value} (h : w.ownsRow base e size v n xs) (hg : v.ownBlock = some g) : kindAt w g = some (some e) := by
  rcases h.2 with ⟨rfl, _⟩ | ⟨g', cap, cur, rfl, _, hb, _⟩
  · cases hg
  · have : g' = g := by simpa [Value.ownBlock] using hg
    subst this
    exact kind_cells hb

section
variable {w : World} {b bf bh bd : Nat} {pv : Value} {fs : Nat → Option Nat} {sl : Nat → Value} {σ : Vf.St} {S : Nat → Prop}

theorem RepAt.kb (h : RepAt w b bf bh bd pv fs sl σ S) : kindAt w b = some (some 48) := kind_cells h.blk
theorem RepAt.kp (h : RepAt w b bf bh bd pv fs sl σ S) {g : Nat} (hg : pv.ownBlock = some g) : kindAt w g = some (some 55) := row_kind h.pend hg
theorem RepAt.has (h : RepAt w b bf bh bd pv fs sl σ S) {n g : Nat} (hn : fs n = some g) : ∃ x, σ.files n = some x := by
  have := h.dom n
  rw [hn] at this
  exact Option.isSome_iff_exists.1 this.symm
theorem RepAt.kg (h : RepAt w b bf bh bd pv fs sl σ S) {n g : Nat} (hn : fs n = some g) : kindAt w g = some (some 67) := by
  obtain ⟨x, hx⟩ := h.has hn
  exact kind_cells (h.file n g x hn hx).1
theorem RepAt.kr (h : RepAt w b bf bh bd pv fs sl σ S) {n r : Nat} (hn : fs n ≠ none) (hr : (sl n).ownBlock = some r) : kindAt w r = some (some 5) := by
  obtain ⟨g, hg⟩ := Option.ne_none_iff_exists'.1 hn
  obtain ⟨x, hx⟩ := h.has hg
  exact row_kind (h.file n g x hg hx).2 hr

/-- Only block p has turned. -/
def Only (w w' : World) (p : Nat) : Prop := w.heap.size ≤ w'.heap.size ∧ ∀ i, i < w.heap.size → i ≠ p → w'.heap[i]? = w.heap[i]?
theorem only_grown {w w' : World} {p : Nat} (h : w.grownBy w' (some p)) : Only w w' p := ⟨h.size, fun i hi hne => h.block i hi (fun e => hne (Option.some.inj e))⟩
theorem only_setCell (w : World) (a : Addr) (u : Value) : Only w (w.setCell a u) a.block := ⟨by simp [World.setCell], fun _ _ hne => Below.heap_setCell _ _ _ _ hne⟩

/-- A turn of the file system's own block. -/
theorem RepAt.turnB (h : RepAt w b bf bh bd pv fs sl σ S) {w' : World} (ho : Only w w' b) (σ' : Vf.St) (pv' : Value) (hb : w'.heap[b]? = some (.cells (fsCells σ' bf bh bd pv') 48 (0, 0)))
    (e1 : σ'.files = σ.files) (e2 : σ'.held = σ.held) (e3 : σ'.durable = σ.durable) (e5 : σ.steps ≤ σ'.steps)
    (hp : w'.ownsRow 0 55 5 pv' σ'.pending.length (scs σ'.pending)) (hs : ∀ g, pv'.ownBlock = some g → S g) : RepAt w' b bf bh bd pv' fs sl σ' S :=
  ⟨hb, (h.files.same (ho.2 _ h.files.lt (ne_kind h.files.kind h.kb (by simp)))).mono e5, by rw [e2]; exact h.held.same (ho.2 _ h.held.lt (ne_kind h.held.kind h.kb (by simp))), by rw [e3]; exact h.dur.same (ho.2 _ h.dur.lt (ne_kind h.dur.kind h.kb (by simp))), hp,
    fun n => by rw [e1]; exact h.dom n,
    fun n g x hn hx => by
      rw [e1] at hx
      refine ⟨(ho.2 g (h.low _ (h.sg n g hn)) (ne_kind (h.kg hn) h.kb (by decide))).trans (h.file n g x hn hx).1, ownsRow_same (h.file n g x hn hx).2 fun r hr => ?_⟩
      have hne : fs n ≠ none := by rw [hn]; simp
      exact ho.2 r (h.low _ (h.sr n r hne hr)) (ne_kind (h.kr hne hr) h.kb (by decide)),
    h.inj, h.rows, h.fh, h.fd, h.hd, h.sb, h.sf, h.sh, h.sd, hs, h.sg, h.sr, fun i hi => Nat.lt_of_lt_of_le (h.low i hi) ho.1⟩

/-- One field that is a number or a bool. -/
theorem RepAt.field (h : RepAt w b bf bh bd pv fs sl σ S) (i : Nat) (u : Value) (σ' : Vf.St) (hc : (fsCells σ bf bh bd pv).setIfInBounds i u = fsCells σ' bf bh bd pv)
    (e1 : σ'.files = σ.files) (e2 : σ'.held = σ.held) (e3 : σ'.durable = σ.durable) (e4 : σ'.pending = σ.pending) (e5 : σ.steps ≤ σ'.steps) : RepAt (w.setCell ⟨b, i, none⟩ u) b bf bh bd pv fs sl σ' S :=
  h.turnB (only_setCell w ⟨b, i, none⟩ u) σ' pv (by rw [Joins.block_setCell h.blk u, hc]) e1 e2 e3 e5
    (by rw [e4]; exact ownsRow_same h.pend fun g hg => (only_setCell w ⟨b, i, none⟩ u).2 g (h.low _ (h.sp g hg)) (ne_kind (h.kp hg) h.kb (by decide))) h.sp

/-- A turn of the block of held names, of durable ones, of files. -/
theorem RepAt.turnH (h : RepAt w b bf bh bd pv fs sl σ S) {w' : World} (ho : Only w w' bh) (M : Vf.Nm) (hM : NamesAt w' bh M) : RepAt w' b bf bh bd pv fs sl { σ with held := M } S :=
  ⟨(ho.2 b (h.low _ h.sb) (ne_kind h.kb h.held.kind (by simp))).trans h.blk, h.files.same (ho.2 _ h.files.lt h.fh), hM, h.dur.same (ho.2 _ h.dur.lt h.hd.symm),
    ownsRow_same h.pend fun g hg => ho.2 g (h.low _ (h.sp g hg)) (ne_kind (h.kp hg) h.held.kind (by simp)), h.dom,
    fun n g x hn hx => by
      refine ⟨(ho.2 g (h.low _ (h.sg n g hn)) (ne_kind (h.kg hn) h.held.kind (by simp))).trans (h.file n g x hn hx).1, ownsRow_same (h.file n g x hn hx).2 fun r hr => ?_⟩
      have hne : fs n ≠ none := by rw [hn]; simp
      exact ho.2 r (h.low _ (h.sr n r hne hr)) (ne_kind (h.kr hne hr) h.held.kind (by simp)),
    h.inj, h.rows, h.fh, h.fd, h.hd, h.sb, h.sf, h.sh, h.sd, h.sp, h.sg, h.sr, fun i hi => Nat.lt_of_lt_of_le (h.low i hi) ho.1⟩
theorem RepAt.turnD (h : RepAt w b bf bh bd pv fs sl σ S) {w' : World} (ho : Only w w' bd) (M : Vf.Nm) (hM : NamesAt w' bd M) : RepAt w' b bf bh bd pv fs sl { σ with durable := M } S :=
  ⟨(ho.2 b (h.low _ h.sb) (ne_kind h.kb h.dur.kind (by simp))).trans h.blk, h.files.same (ho.2 _ h.files.lt h.fd), h.held.same (ho.2 _ h.held.lt h.hd), hM,
    ownsRow_same h.pend fun g hg => ho.2 g (h.low _ (h.sp g hg)) (ne_kind (h.kp hg) h.dur.kind (by simp)), h.dom,
    fun n g x hn hx => by
      refine ⟨(ho.2 g (h.low _ (h.sg n g hn)) (ne_kind (h.kg hn) h.dur.kind (by simp))).trans (h.file n g x hn hx).1, ownsRow_same (h.file n g x hn hx).2 fun r hr => ?_⟩
      have hne : fs n ≠ none := by rw [hn]; simp
      exact ho.2 r (h.low _ (h.sr n r hne hr)) (ne_kind (h.kr hne hr) h.dur.kind (by simp)),
    h.inj, h.rows, h.fh, h.fd, h.hd, h.sb, h.sf, h.sh, h.sd, h.sp, h.sg, h.sr, fun i hi => Nat.lt_of_lt_of_le (h.low i hi) ho.1⟩

/-- A file goes. -/
theorem RepAt.drop (h : RepAt w b bf bh bd pv fs sl σ S) {w' : World} (ho : Only w w' bf) (n : Nat) (hF : PtrsAt w' bf σ.steps (setG fs n none)) : RepAt w' b bf bh bd pv (setG fs n none) sl { σ with files := Vf.setF σ.files n none } S := by
  have hs : ∀ k g, setG fs n none k = some g → fs k = some g := fun k g hk => by
    unfold setG at hk
    by_cases e : k = n
    · simp [e] at hk
    · simpa [e] using hk
  have hs' : ∀ k, setG fs n none k ≠ none → fs k ≠ none := fun k hk => by
    obtain ⟨g, hg⟩ := Option.ne_none_iff_exists'.1 hk
    rw [hs k g hg]; simp
  refine ⟨(ho.2 b (h.low _ h.sb) (ne_kind h.kb h.files.kind (by simp))).trans h.blk, hF, h.held.same (ho.2 _ h.held.lt h.fh.symm), h.dur.same (ho.2 _ h.dur.lt h.fd.symm),
    ownsRow_same h.pend fun g hg => ho.2 g (h.low _ (h.sp g hg)) (ne_kind (h.kp hg) h.files.kind (by simp)), fun k => ?_,
    fun k g x hk hx => ?_, fun k k' g h1 h2 => h.inj k k' g (hs _ _ h1) (hs _ _ h2), fun k k' g h1 h2 => h.rows k k' g (hs' _ h1) (hs' _ h2), h.fh, h.fd, h.hd, h.sb, h.sf, h.sh, h.sd, h.sp, fun k g hk => h.sg k g (hs _ _ hk), fun k g hk => h.sr k g (hs' _ hk), fun i hi => Nat.lt_of_lt_of_le (h.low i hi) ho.1⟩
  · unfold setG Vf.setF
    by_cases e : k = n
    · simp [e]
    · simp [e, h.dom k]
  · have hk' := hs _ _ hk
    have hx' : σ.files k = some x := by
      simp only [Vf.setF] at hx
      by_cases e : k = n
      · simp [e] at hx
      · simpa [e] using hx
    refine ⟨(ho.2 g (h.low _ (h.sg k g hk')) (ne_kind (h.kg hk') h.files.kind (by simp))).trans (h.file k g x hk' hx').1, ownsRow_same (h.file k g x hk' hx').2 fun r hr => ?_⟩
    have hne : fs k ≠ none := by rw [hk']; simp
    exact ho.2 r (h.low _ (h.sr k r hne hr)) (ne_kind (h.kr hne hr) h.files.kind (by simp))

/-- A file's own block turns: how many bytes are durable, and which bytes. -/
theorem RepAt.turnG (h : RepAt w b bf bh bd pv fs sl σ S) {n g : Nat} {x x' : Vf.File} (hn : fs n = some g) (hx : σ.files n = some x) {w' : World} (ho : Only w w' g) (v : Value)
    (hb : w'.heap[g]? = some (.cells #[v, .int .i64 (x'.synced : Int)] 67 (0, 0))) (hv : w'.ownsRow 0 5 1 v x'.bytes.length (bc x'.bytes)) (hr : ∀ r, v.ownBlock = some r → (sl n).ownBlock = some r) :
    RepAt w' b bf bh bd pv fs (fun k => if k = n then v else sl k) { σ with files := Vf.setF σ.files n (some x') } S := by
  have hne0 : fs n ≠ none := by rw [hn]; simp
  have hrow : ∀ k r, fs k ≠ none → (if k = n then v else sl k).ownBlock = some r → (sl k).ownBlock = some r := fun k r _ h1 => by
    by_cases e : k = n
    · subst e; simp at h1; exact hr r h1
    · simpa [e] using h1
  refine ⟨(ho.2 b (h.low _ h.sb) (ne_kind h.kb (h.kg hn) (by decide))).trans h.blk, h.files.same (ho.2 _ h.files.lt (ne_kind h.files.kind (h.kg hn) (by simp))), h.held.same (ho.2 _ h.held.lt (ne_kind h.held.kind (h.kg hn) (by simp))), h.dur.same (ho.2 _ h.dur.lt (ne_kind h.dur.kind (h.kg hn) (by simp))),
    ownsRow_same h.pend fun r hr => ho.2 r (h.low _ (h.sp r hr)) (ne_kind (h.kp hr) (h.kg hn) (by decide)), fun k => ?_,
    fun k r y hk hy => ?_, h.inj, fun k k' r h1 h2 h3 h4 => h.rows k k' r h1 h2 (hrow k r h1 h3) (hrow k' r h2 h4), h.fh, h.fd, h.hd, h.sb, h.sf, h.sh, h.sd, h.sp, h.sg, fun k r h1 h2 => h.sr k r h1 (hrow k r h1 h2), fun i hi => Nat.lt_of_lt_of_le (h.low i hi) ho.1⟩
  · show (fs k).isSome = (Vf.setF σ.files n (some x') k).isSome
    unfold Vf.setF
    by_cases e : k = n
    · subst e; simp [hn]
    · simp [e, h.dom k]
  · simp only [Vf.setF] at hy
    by_cases e : k = n
    · subst e
      simp at hy
      subst hy
      rw [hn] at hk
      cases hk
      simp
      exact ⟨hb, hv⟩
    · simp [e] at hy ⊢
      have hgr : r ≠ g := fun e2 => e (h.inj k n g (by rw [hk, e2]) hn)
      refine ⟨(ho.2 r (h.low _ (h.sg k r hk)) hgr).trans (h.file k r y hk hy).1, ownsRow_same (h.file k r y hk hy).2 fun q hq => ?_⟩
      have hne : fs k ≠ none := by rw [hk]; simp
      exact ho.2 q (h.low _ (h.sr k q hne hq)) (ne_kind (h.kr hne hq) (h.kg hn) (by decide))
end
end Go.Proofs.Ytclokpkhkokfhab
