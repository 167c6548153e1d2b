/-
  Nothing is left but what is durable: the laws of the walk.
-/
import Derived.Test.YtclokpkhkokfhabVNames
import Derived.Maps.RangeWalk
namespace Go.Proofs.Ytclokpkhkokfhab
open Go.RowKit Go.Maps Go.Sort

theorem run_makeMap_hint (w : World) (n : Nat) : (Instr.makeMap 44 (some (.int .i64 (n : Int)))).run Try.prog w = .ok (.map (some w.heap.size)) (w.alloc (.map #[] 0)) := by
  simp [Instr.makeMap]
  rfl

section
variable {w w1 : World} {b bf bh bd : Nat} {pv : Value} {fs : Nat → Option Nat} {sl : Nat → Value} {σ : Vf.St} {S : Nat → Prop}
/-- The held names are told anew. -/
theorem RepAt.swapHeld (h : RepAt w b bf bh bd pv fs sl σ S) (hb : Below w.heap.size w w1) {h2 : Nat} (hz : w.heap.size ≤ h2) (M : Vf.Nm) (hM : NamesAt w1 h2 M) :
    RepAt (w1.setCell ⟨b, 6, none⟩ (.map (some h2))) b bf h2 bd pv fs sl { σ with held := M } (fun i => S i ∨ i = h2) := by
  have h1 := h.later hb
  have ho := only_setCell w1 ⟨b, 6, none⟩ (.map (some h2))
  have lf := h.files.lt
  have ld := h.dur.lt
  refine ⟨by rw [Joins.block_setCell h1.blk]; rfl, h1.files.same (ho.2 _ h1.files.lt (ne_kind h1.files.kind h1.kb (by simp))), hM.same (ho.2 _ hM.lt (ne_kind hM.kind h1.kb (by simp))), h1.dur.same (ho.2 _ h1.dur.lt (ne_kind h1.dur.kind h1.kb (by simp))),
    ownsRow_same h1.pend fun g hg => ho.2 g (h1.low _ (h1.sp g hg)) (ne_kind (h1.kp hg) h1.kb (by decide)), h1.dom,
    fun n g x hn hx => ?_, h1.inj, h1.rows, by omega, h1.fd, by omega, .inl h1.sb, .inl h1.sf, .inr rfl, .inl h1.sd, fun g hg => .inl (h1.sp g hg), fun n g hn => .inl (h1.sg n g hn), fun n g h2 h3 => .inl (h1.sr n g h2 h3), fun i hi => ?_⟩
  · refine ⟨(ho.2 g (h1.low _ (h1.sg n g hn)) (ne_kind (h1.kg hn) h1.kb (by decide))).trans (h1.file n g x hn hx).1, ownsRow_same (h1.file n g x hn hx).2 fun r hr => ?_⟩
    have hne : fs n ≠ none := by rw [hn]; simp
    exact ho.2 r (h1.low _ (h1.sr n r hne hr)) (ne_kind (h1.kr hne hr) h1.kb (by decide))
  · have e : (w1.setCell ⟨b, 6, none⟩ (.map (some h2))).heap.size = w1.heap.size := by simp [World.setCell]
    rw [e]
    rcases hi with hi | hi
    · exact h1.low i hi
    · rw [hi]; exact hM.lt

/-- The files are told anew: fewer of them. -/
theorem RepAt.swapFiles (h : RepAt w b bf bh bd pv fs sl σ S) {bn : Nat} (fn : Nat → Option Nat) (hF : PtrsAt w bn σ.steps fn) (hb : ¬ S bn) (hs : ∀ n g, fn n = some g → fs n = some g) (F : Nat → Option Vf.File) (hd : ∀ n, (fn n).isSome = (F n).isSome) (hx : ∀ n x, F n = some x → σ.files n = some x) :
    RepAt (w.setCell ⟨b, 5, none⟩ (.map (some bn))) b bn bh bd pv fn sl { σ with files := F } (fun i => S i ∨ i = bn) := by
  have ho := only_setCell w ⟨b, 5, none⟩ (.map (some bn))
  have hs' : ∀ n, fn n ≠ none → fs n ≠ none := fun n hn => by
    obtain ⟨g, hg⟩ := Option.ne_none_iff_exists'.1 hn
    rw [hs n g hg]; simp
  refine ⟨by rw [Joins.block_setCell h.blk]; rfl, hF.same (ho.2 _ hF.lt (ne_kind hF.kind h.kb (by simp))), h.held.same (ho.2 _ h.held.lt (ne_kind h.held.kind h.kb (by simp))), h.dur.same (ho.2 _ h.dur.lt (ne_kind h.dur.kind h.kb (by simp))),
    ownsRow_same h.pend fun g hg => ho.2 g (h.low _ (h.sp g hg)) (ne_kind (h.kp hg) h.kb (by decide)), hd,
    fun n g x hn hy => ?_, fun n n' g h1 h2 => h.inj n n' g (hs _ _ h1) (hs _ _ h2), fun n n' g h1 h2 => h.rows n n' g (hs' _ h1) (hs' _ h2), fun e => hb (by rw [e]; exact h.sh), fun e => hb (by rw [e]; exact h.sd), h.hd, .inl h.sb, .inr rfl, .inl h.sh, .inl h.sd, fun g hg => .inl (h.sp g hg), fun n g hn => .inl (h.sg n g (hs _ _ hn)), fun n g h1 h2 => .inl (h.sr n g (hs' _ h1) h2), fun i hi => ?_⟩
  · have hn' := hs n g hn
    have hy' := hx n x hy
    refine ⟨(ho.2 g (h.low _ (h.sg n g hn')) (ne_kind (h.kg hn') h.kb (by decide))).trans (h.file n g x hn' hy').1, ownsRow_same (h.file n g x hn' hy').2 fun r hr => ?_⟩
    have hne : fs n ≠ none := by rw [hn']; simp
    exact ho.2 r (h.low _ (h.sr n r hne hr)) (ne_kind (h.kr hne hr) h.kb (by decide))
  · have e : (w.setCell ⟨b, 5, none⟩ (.map (some bn))).heap.size = w.heap.size := by simp [World.setCell]
    rw [e]
    rcases hi with hi | hi
    · exact h.low i hi
    · rw [hi]; exact hF.lt
end

/-- The state behind some names. -/
def cutF (M : Vf.Nm) (F : Nat → Option Vf.File) (ss : List Vf.Bs) : Nat → Option Vf.File := fun n => if n ∈ ss.map (Vf.num M) then (F n).map (fun x => { x with bytes := x.bytes.take x.synced }) else F n
def synOf (F : Nat → Option Vf.File) (n : Nat) : Nat := match F n with | none => 0 | some x => x.synced
def cutU (M : Vf.Nm) (F : Nat → Option Vf.File) (ss : List Vf.Bs) : Nat := (ss.map fun k => synOf F (Vf.num M k)).sum
def onlyG (M : Vf.Nm) (fs : Nat → Option Nat) (ss : List Vf.Bs) : Nat → Option Nat := fun n => if n ∈ ss.map (Vf.num M) then fs n else none

theorem cutF_step {M : Vf.Nm} {F : Nat → Option Vf.File} {ss : List Vf.Bs} {k : Vf.Bs} {x : Vf.File} (hx : F (Vf.num M k) = some x) : cutF M F (ss ++ [k]) = Vf.setF (cutF M F ss) (Vf.num M k) (some { x with bytes := x.bytes.take x.synced }) := by
  funext n
  unfold cutF Vf.setF
  simp only [List.map_append, List.map_cons, List.map_nil, List.mem_append, List.mem_singleton]
  by_cases e : n = Vf.num M k
  · subst e; simp [hx]
  · simp [e]
theorem cutU_step (M : Vf.Nm) (F : Nat → Option Vf.File) (ss : List Vf.Bs) (k : Vf.Bs) : cutU M F (ss ++ [k]) = cutU M F ss + synOf F (Vf.num M k) := by simp [cutU]
theorem onlyG_step {M : Vf.Nm} {fs : Nat → Option Nat} {ss : List Vf.Bs} {k : Vf.Bs} {g : Nat} (hg : fs (Vf.num M k) = some g) : onlyG M fs (ss ++ [k]) = setG (onlyG M fs ss) (Vf.num M k) (some g) := by
  funext n
  unfold onlyG setG
  simp only [List.map_append, List.map_cons, List.map_nil, List.mem_append, List.mem_singleton]
  by_cases e : n = Vf.num M k
  · subst e; simp [hg]
  · simp [e]
end Go.Proofs.Ytclokpkhkokfhab
