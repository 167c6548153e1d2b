/-
  The chapter's examples of a manifest, reckoned: what is held behind the edit, behind the second Open, and what does not go then. .. and what follows from it.
-/
import Derived.Test.YtlhnjloimhcpfaaGreatDoorYLives
import Derived.Test.YtlhnjloimhcpfaaGreatDoorYG
import Derived.Test.YtlhnjloimhcpfaaGreatDoorYX
import Derived.Test.YtlhnjloimhcpfaaGreatDoorYW
namespace Go.Proofs.YtlhnjloimhcpfaaGreatDoor
namespace Ml
def v2 : Mf.Vn := ⟨[m1], 2, 5, 2⟩
def s2 : Vf.St := Mf.appS s1 (Mf.nm 1) F1
def s3 : Vf.St := Mf.b5 s2 (Mf.nm 2) F1
def s4 : Vf.St := Vf.remove s3 (Mf.nm 1)
theorem beh : Mf.behind Mf.first ed = v2 := by unfold Mf.behind; rw [go1]; rfl
theorem from2 : Mf.fromV v2 = ed := rfl
theorem t2 : s2.steps ≤ 30000000 := by decide +kernel
theorem find2 : Vf.findE s2 Mf.cur = 0 := by decide +kernel
theorem cur2 : Vf.read s2 Mf.cur = frm (Mf.nm 1) := by decide +kernel
theorem file2 : Vf.findE s2 (Mf.nm 1) = 0 := by decide +kernel
theorem read2 : Vf.read s2 (Mf.nm 1) = F0 ++ F1 := by decide +kernel
theorem enc0 : Mf.encE (Mf.fromV Mf.first) = 0 := by decide +kernel
theorem len0 : (Mf.recB (Mf.fromV Mf.first)).length ≤ 1048576 := by decide +kernel
theorem told : Mf.fileV (Vf.read s2 (Mf.nm 1)) = some v2 := by
  have e : F0 ++ F1 = frms [Mf.recB (Mf.fromV Mf.first), Mf.recB ed] ++ [] := by simp [frms, F0, F1]
  rw [read2, e]
  unfold Mf.fileV
  rw [scn_frms _ _ (by intro r hr; simp at hr; rcases hr with rfl | rfl; exact len0; exact len), scn_nil]
  rw [if_neg (by simp)]
  show Mf.run Mf.first ([Mf.recB (Mf.fromV Mf.first), Mf.recB ed] ++ []) = _
  obtain ⟨a1, a2⟩ := Mf.dec_back _ enc0
  obtain ⟨b1, b2⟩ := Mf.dec_back _ enc
  obtain ⟨c1, c2⟩ := Mf.behind_from Mf.first_may
  rw [List.append_nil, Mf.run_cons, a1, if_pos ⟨a2, c2⟩, c1, Mf.run_one, b1, if_pos ⟨b2, goes⟩, beh]
theorem bnd2 : Mf.bounds (Mf.fromV v2) = true := by decide +kernel
theorem ok2 : Mf.BegOk s2 (Mf.nm 2) F1 := ⟨by decide +kernel, by decide +kernel, by decide +kernel, by decide +kernel, by decide +kernel⟩
theorem t3 : s3.steps ≤ 90000000 := by decide +kernel
theorem gone : Vf.removeE s3 (Mf.nm 1) = 0 := by decide +kernel
theorem on4 : s4.on = true := by decide +kernel
theorem held4 : s4.held.map (·.1) = [Mf.cur, Mf.nm 2] ∨ s4.held.map (·.1) = [Mf.nm 2, Mf.cur] := by decide +kernel
theorem le4 : Mf.cur ≤ Mf.nm 2 ∧ ¬ Mf.nm 2 ≤ Mf.cur := by decide +kernel
theorem few4 : s4.held.length ≤ 1000000000 := by decide +kernel
theorem names4 : namesOf s4 = [Mf.cur, Mf.nm 2] := by
  unfold namesOf
  rw [if_pos on4]
  rcases held4 with h | h
  · rw [h, yrising_two, if_pos le4.1]
  · rw [h, yrising_two, if_neg le4.2]
/-! What does not go. -/
def m2 : Mf.Mt := ⟨2, 0, 3, [97], [99]⟩
def eA : Mf.Ed := ⟨[2], [], 2, 5, 2⟩
def eB : Mf.Ed := ⟨[], [m2], 2, 5, 2⟩
def eC : Mf.Ed := ⟨[], [], 1, 5, 2⟩
theorem encA : Mf.encE eA = 0 := by decide +kernel
theorem encB : Mf.encE eB = 0 := by decide +kernel
theorem encC : Mf.encE eC = 0 := by decide +kernel
theorem goA : Mf.goes v2 eA = false := goes_none (by decide +kernel)
theorem goB : Mf.goes v2 eB = false := by
  cases h : Mf.goes v2 eB with
  | false => rfl
  | true =>
    exfalso
    have hm := Mf.goes_may h
    unfold Mf.may at hm
    simp only [Bool.and_eq_true] at hm
    have hin : m2 ∈ (Mf.behind v2 eB).tabs := (Mf.srt_perm _).mem_iff.2 (by show m2 ∈ [m1] ++ [m2]; simp)
    obtain ⟨i, hi, e⟩ := List.getElem_of_mem hin
    have := Mf.mayT_good hm.2 i hi
    unfold Mf.goodAt at this
    rw [List.getElem?_eq_getElem hi, e] at this
    simp only [Bool.and_eq_true, decide_eq_true_eq] at this
    exact absurd this.1.2 (by decide)
theorem goC : Mf.goes v2 eC = false := by
  unfold Mf.goes
  rw [show (decide (eC.log < v2.log) || decide (eC.seq < v2.seq) || decide (eC.next < v2.next)) = true by decide +kernel]
  simp
def n1 : Mf.Mt := ⟨1, 1, 3, [97], [99]⟩
def n2 : Mf.Mt := ⟨2, 1, 3, [99], [100]⟩
theorem two : Mf.may ⟨[n1, n2], 1, 0, 3⟩ = false := by decide +kernel
end Ml
end Go.Proofs.YtlhnjloimhcpfaaGreatDoor
namespace Go.Proofs.YtlhnjloimhcpfaaGreatDoor
open Go.RowKit

/-- A manifest that a call made for itself. -/
def MfX (base : Nat) (w : World) (c b : Nat) (σ : Vf.St) (f : Mf.Bs) (v : Mf.Vn) : Prop := ∃ Q, MfIn Q base w c b σ f v false
theorem MfX.later {base : Nat} {w w' : World} {c b : Nat} {σ : Vf.St} {f : Mf.Bs} {v : Mf.Vn} (h : Hid (MfX base w c b σ f v)) (hb : Below w.heap.size w w') : Hid (MfX base w' c b σ f v) ∧ Below base w w' := by
  obtain ⟨Q, h⟩ := h.out
  exact ⟨⟨Q, h.later hb⟩, hb.mono h.fs.low⟩

theorem ymeta_any (w : World) (n l : Int) (x y : ByteArray) : Calls Tryz.prog 19 #[.int .i64 n, .int .i64 l, .string x, .string y] w fun e w' => e = .returned (.agg #[.int .i64 n, .int .i64 l, .int .i64 3, .string x, .string y]) ∧ Below w.heap.size w w' := by
  go_enter Tryz.func19, Tryz.ntmps19
  go_wp2_with (fail)
  refine bodyPost_ret (v := .agg #[.int .i64 n, .int .i64 l, .int .i64 3, .string x, .string y]) (by simp [results, Tryz.results19, go_sem]) rfl ?_
  exact ⟨rfl, (Below.refl _ _).alloc (Nat.le_refl _) _⟩

abbrev nm2S : Value := .string ⟨#[109, 97, 110, 105, 102, 101, 115, 116, 45, 48, 48, 48, 48, 48, 50]⟩
theorem nm2_str : str (Mf.nm 2) = nm2S := by kernel_rfl
theorem v2_fit : ∀ x ∈ Ml.v2.tabs, MtFit x := by
  intro x hx
  obtain rfl : x = Ml.m1 := by simpa [Ml.v2] using hx
  exact ⟨⟨by decide, by decide⟩, by decide, by decide⟩

set_option maxRecDepth 100000 in
set_option maxHeartbeats 8000000 in
theorem manifestNames.walk (w : World) : Calls Tryz.prog 3 #[] w fun e w' => e = .returned (.bool true) ∧ Below w.heap.size w w' := by
  have NW : Hid (Calls Tryz.prog 9 #[.int .i64 10000] w fun e w' => ∃ b, e = .returned (.tuple #[.pointer (some ⟨b, 0, none⟩), .int .i64 0]) ∧ FsIn w.heap.size w'.heap.size w' b Ml.s0 ∧ Below w.heap.size w w') := new_fs w 10000 (by decide)
  have OP1 : Hid (∀ wx b, FsIn w.heap.size wx.heap.size wx b Ml.s0 → Calls Tryz.prog 10 #[.pointer (some ⟨b, 0, none⟩)] wx fun e w' => ∃ c, e = .returned (.tuple #[.pointer (some ⟨c, 0, none⟩), .int .i64 0]) ∧ Hid (MfX w.heap.size w' c b Ml.s1 (Mf.nm 1) Mf.first) ∧ Below w.heap.size wx w') := fun wx b h => by
    have fk : FsK (fun _ => False) w.heap.size wx b Ml.s0 := by
      obtain ⟨S, hr, hS⟩ := h.rep
      exact ⟨⟨S, hr, fun i hi => ⟨(hS i hi).1, fun hf => hf⟩⟩, h.inv, fun i hi => hi.elim, h.low⟩
    refine (open_new wx b Ml.s0 fk Ml.t0 Ml.miss Ml.ok).mono ?_
    rintro e w' ⟨c, Q, rfl, hm, _, hk⟩
    exact ⟨c, rfl, ⟨Q, hm⟩, hk.bel⟩
  have LV := hide ylives_any
  have ED := hide edit_any
  have AD1 : Hid (∀ wx c b g, Hid (MfX w.heap.size wx c b Ml.s1 (Mf.nm 1) Mf.first) → MtsAt wx (.slice (some ⟨g, 0, none⟩) 1 1) [Ml.m1] → Calls Tryz.prog 12 #[.pointer (some ⟨c, 0, none⟩), ev (.slice none 0 0) (.slice (some ⟨g, 0, none⟩) 1 1) 2 5 2] wx fun e w' => e = .returned (.int .i64 0) ∧ Hid (MfX w.heap.size w' c b Ml.s2 (Mf.nm 1) Ml.v2) ∧ Below w.heap.size wx w') := fun wx c b g ⟨Q, h⟩ hm => by
    refine (add_ok wx b c Ml.s1 (Mf.nm 1) Mf.first Ml.ed none (some ⟨g, 0, none⟩) 0 1 h Ml.on1 (IzAt.nil _ _ _) hm m1_fit (fun x hx => by cases hx) (by decide) Ml.enc Ml.goes Ml.len (by decide) Ml.t1 Ml.left Ml.app).mono ?_
    rintro e w' ⟨rfl, ⟨Q', hq, _⟩, hk⟩
    rw [Ml.beh] at hq
    exact ⟨rfl, ⟨Q', hq⟩, hk.bel⟩
  have OP2 : Hid (∀ wx c b, Hid (MfX w.heap.size wx c b Ml.s2 (Mf.nm 1) Ml.v2) → Calls Tryz.prog 10 #[.pointer (some ⟨b, 0, none⟩)] wx fun e w' => ∃ c', e = .returned (.tuple #[.pointer (some ⟨c', 0, none⟩), .int .i64 0]) ∧ Hid (MfX w.heap.size w' c' b Ml.s4 (Mf.nm 2) Ml.v2) ∧ Below w.heap.size wx w') := fun wx c b ⟨Q, h⟩ => by
    refine (open_there wx b Ml.s2 h.fs Ml.t2 1 (by decide) (by decide) Ml.find2 Ml.cur2 Ml.file2 (by rw [Ml.read2]; decide +kernel) Ml.v2 Ml.told Ml.bnd2 (by decide) Ml.len Ml.ok2 Ml.t3 Ml.gone).mono ?_
    rintro e w' ⟨c', Q', rfl, hm, _, hk⟩
    exact ⟨c', rfl, ⟨Q', hm⟩, hk.bel⟩
  have FL : Hid (∀ wx c b, Hid (MfX w.heap.size wx c b Ml.s4 (Mf.nm 2) Ml.v2) → Calls Tryz.prog 14 #[.pointer (some ⟨c, 0, none⟩)] wx fun e w' => e = .returned nm2S ∧ w' = wx) := fun wx c b ⟨Q, h⟩ => by
    rw [← nm2_str]
    exact file_any h
  have VR : Hid (∀ wx c b, Hid (MfX w.heap.size wx c b Ml.s4 (Mf.nm 2) Ml.v2) → Calls Tryz.prog 16 #[.pointer (some ⟨c, 0, none⟩)] wx fun e w' => ∃ ta tc, e = .returned (vv (.slice ta 1 tc) 2 5 2) ∧ Hid (MtsAt w' (.slice ta 1 tc) [Ml.m1]) ∧ Below wx.heap.size wx w') := fun wx c b ⟨Q, h⟩ =>
    version_any h (by decide) (fun x hx => by have := v2_fit x hx; unfold MtFit at this; omega)
  have SM : Hid (∀ (wx : World) ta tc g, Hid (MtsAt wx (.slice ta 1 tc) [Ml.m1]) → MtsAt wx (.slice (some ⟨g, 0, none⟩) 1 1) [Ml.m1] → Calls Tryz.prog 15 #[.slice ta 1 tc, .slice (some ⟨g, 0, none⟩) 1 1] wx fun e w' => e = .returned (.bool true) ∧ Below wx.heap.size wx w') := fun wx ta tc g h1 h2 => samem_any wx _ _ [Ml.m1] h1.out h2 (by decide)
  have NM : Hid (∀ wx c b, Hid (MfX w.heap.size wx c b Ml.s4 (Mf.nm 2) Ml.v2) → Calls Tryz.prog 18 #[.pointer (some ⟨b, 0, none⟩)] wx fun e w' => ∃ v, e = .returned v ∧ TextsAt w' v [Mf.cur, Mf.nm 2] ∧ Below wx.heap.size wx w') := fun wx c b ⟨Q, h⟩ => by
    obtain ⟨S, hr, _⟩ := h.fs.rep
    refine (names_any wx b Ml.s4 S hr Ml.few4 [Mf.cur, Mf.nm 2] Ml.names4.symm).mono ?_
    rintro e w' ⟨v, rfl, o, bb⟩
    exact ⟨v, rfl, texts_of_own o, bb⟩
  have ST : Hid (∀ (wx : World) v, TextsAt wx v [Mf.cur, Mf.nm 2] → Calls Tryz.prog 17 #[v, .slice (some ⟨wx.heap.size, 0, none⟩) 2 2] (wx.alloc (.cells #[curS, nm2S] 9)) fun e w' => e = .returned (.bool true) ∧ Below wx.heap.size wx w') := fun wx v h => by
    have bb : Below wx.heap.size wx (wx.alloc (.cells #[curS, nm2S] 9)) := (Below.refl _ _).alloc (Nat.le_refl _) _
    have tn := texts_new wx [Mf.cur, Mf.nm 2]
    rw [show (.cells ([Mf.cur, Mf.nm 2].map str).toArray 9 : Obj) = .cells #[curS, nm2S] 9 by rw [List.map_cons, List.map_cons, cur_str, nm2_str]; rfl] at tn
    refine (sameTexts_any _ v _ _ _ (h.later bb) tn (by decide)).mono ?_
    rintro e w' ⟨rfl, b'⟩
    exact ⟨by simp, bb.trans (b'.mono bb.size)⟩
  have AA : Hid (∀ wx c b, Hid (MfX w.heap.size wx c b Ml.s4 (Mf.nm 2) Ml.v2) → Calls Tryz.prog 12 #[.pointer (some ⟨c, 0, none⟩), ev (.slice (some ⟨wx.heap.size, 0, none⟩) 1 1) (.slice none 0 0) 2 5 2] (wx.alloc (.cells #[.int .i64 2] 3)) fun e w' => e = .returned (.int .i64 2) ∧ Below wx.heap.size wx w') := fun wx c b ⟨Q, h⟩ => by
    have bb : Below wx.heap.size wx (wx.alloc (.cells #[.int .i64 2] 3)) := (Below.refl _ _).alloc (Nat.le_refl _) _
    have iz : IzAt (wx.alloc (.cells #[.int .i64 2] 3)) (.slice (some ⟨wx.heap.size, 0, none⟩) 1 1) Ml.eA.drops := ⟨⟨_, 1, rfl, fun _ => ⟨wx.heap.size, 0, rfl, fun j hj => by
      have : j = 0 := by simp [Ml.eA] at hj; omega
      subst this
      exact Joins.cell_of_block (World.alloc_heap_new wx _) 0⟩⟩⟩
    refine (add_arg _ b c Ml.s4 (Mf.nm 2) Ml.v2 Ml.eA (some ⟨wx.heap.size, 0, none⟩) none 1 0 (h.later bb) Ml.on4 iz (MtsAt.nil _ _ _) (fun x hx => by cases hx) v2_fit (by decide) Ml.encA Ml.goA).mono ?_
    rintro e w' ⟨rfl, b'⟩
    exact ⟨rfl, bb.trans (b'.mono bb.size)⟩
  have AB : Hid (∀ wx c b, Hid (MfX w.heap.size wx c b Ml.s4 (Mf.nm 2) Ml.v2) → Calls Tryz.prog 12 #[.pointer (some ⟨c, 0, none⟩), ev (.slice none 0 0) (.slice (some ⟨wx.heap.size, 0, none⟩) 1 1) 2 5 2] (wx.alloc (.cells #[.int .i64 2, .int .i64 0, .int .i64 3, .string ⟨#[97]⟩, .string ⟨#[99]⟩] 45)) fun e w' => e = .returned (.int .i64 2) ∧ Below wx.heap.size wx w') := fun wx c b ⟨Q, h⟩ => by
    have bb : Below wx.heap.size wx (wx.alloc (.cells #[.int .i64 2, .int .i64 0, .int .i64 3, .string ⟨#[97]⟩, .string ⟨#[99]⟩] 45)) := (Below.refl _ _).alloc (Nat.le_refl _) _
    have mt : MtsAt (wx.alloc (.cells #[.int .i64 2, .int .i64 0, .int .i64 3, .string ⟨#[97]⟩, .string ⟨#[99]⟩] 45)) (.slice (some ⟨wx.heap.size, 0, none⟩) 1 1) Ml.eB.adds := ⟨⟨_, 1, rfl, fun _ => ⟨wx.heap.size, 0, rfl, fun j hj => by
      have : j = 0 := by simp [Ml.eB] at hj; omega
      subst this
      exact mt_new wx Ml.m2⟩⟩⟩
    refine (add_arg _ b c Ml.s4 (Mf.nm 2) Ml.v2 Ml.eB none (some ⟨wx.heap.size, 0, none⟩) 0 1 (h.later bb) Ml.on4 (IzAt.nil _ _ _) mt (fun x hx => by
      obtain rfl : x = Ml.m2 := by simpa [Ml.eB] using hx
      exact ⟨⟨by decide, by decide⟩, by decide, by decide⟩) v2_fit (by decide) Ml.encB Ml.goB).mono ?_
    rintro e w' ⟨rfl, b'⟩
    exact ⟨rfl, bb.trans (b'.mono bb.size)⟩
  have AC : Hid (∀ wx c b, Hid (MfX w.heap.size wx c b Ml.s4 (Mf.nm 2) Ml.v2) → Calls Tryz.prog 12 #[.pointer (some ⟨c, 0, none⟩), ev (.slice none 0 0) (.slice none 0 0) 1 5 2] wx fun e w' => e = .returned (.int .i64 2) ∧ Below wx.heap.size wx w') := fun wx c b ⟨Q, h⟩ =>
    add_arg wx b c Ml.s4 (Mf.nm 2) Ml.v2 Ml.eC none none 0 0 h Ml.on4 (IzAt.nil _ _ _) (MtsAt.nil _ _ _) (fun x hx => by cases hx) v2_fit (by decide) Ml.encC Ml.goC
  have CK : Hid (∀ wx : World, Calls Tryz.prog 20 #[vv (.slice (some ⟨wx.heap.size, 0, none⟩) 2 2) 1 0 3] (wx.alloc (.cells #[.int .i64 1, .int .i64 1, .int .i64 3, .string ⟨#[97]⟩, .string ⟨#[99]⟩, .int .i64 2, .int .i64 1, .int .i64 3, .string ⟨#[99]⟩, .string ⟨#[100]⟩] 45)) fun e w' => e = .returned (.int .i64 2) ∧ Below wx.heap.size wx w') := fun wx => by
    have bb : Below wx.heap.size wx (wx.alloc (.cells #[.int .i64 1, .int .i64 1, .int .i64 3, .string ⟨#[97]⟩, .string ⟨#[99]⟩, .int .i64 2, .int .i64 1, .int .i64 3, .string ⟨#[99]⟩, .string ⟨#[100]⟩] 45)) := (Below.refl _ _).alloc (Nat.le_refl _) _
    have nb := World.alloc_heap_new wx (.cells #[.int .i64 1, .int .i64 1, .int .i64 3, .string ⟨#[97]⟩, .string ⟨#[99]⟩, .int .i64 2, .int .i64 1, .int .i64 3, .string ⟨#[99]⟩, .string ⟨#[100]⟩] 45)
    have mt : MtsAt (wx.alloc (.cells #[.int .i64 1, .int .i64 1, .int .i64 3, .string ⟨#[97]⟩, .string ⟨#[99]⟩, .int .i64 2, .int .i64 1, .int .i64 3, .string ⟨#[99]⟩, .string ⟨#[100]⟩] 45)) (.slice (some ⟨wx.heap.size, 0, none⟩) 2 2) [Ml.n1, Ml.n2] := ⟨⟨_, 2, rfl, fun _ => ⟨wx.heap.size, 0, rfl, fun j hj => by
      match j, hj with
      | 0, _ => exact ⟨Joins.cell_of_block nb 0, Joins.cell_of_block nb 1, Joins.cell_of_block nb 2, Joins.cell_of_block nb 3, Joins.cell_of_block nb 4⟩
      | 1, _ => exact ⟨Joins.cell_of_block nb 5, Joins.cell_of_block nb 6, Joins.cell_of_block nb 7, Joins.cell_of_block nb 8, Joins.cell_of_block nb 9⟩
      | j + 2, h => simp at h; omega⟩⟩⟩
    have := ycheck_any _ (some ⟨wx.heap.size, 0, none⟩) 2 [Ml.n1, Ml.n2] 1 0 3 mt (by decide) (by decide)
    rw [Ml.two, if_neg (by decide)] at this
    refine this.mono ?_
    rintro e w' ⟨rfl, b'⟩
    exact ⟨rfl, bb.trans (b'.mono bb.size)⟩
  have ME := hide ymeta_any
  have fd1 : ∀ (ta : Option Addr) (tc : Nat) (wx : World), (Instr.field 39 (vv (.slice ta 1 tc) 2 5 2) 0).run Tryz.prog wx = .ok (.slice ta 1 tc) wx := fun _ _ _ => by kernel_rfl
  have fd2 : ∀ (g : Nat) (wx : World), (Instr.field 34 (ev (.slice none 0 0) (.slice (some ⟨g, 0, none⟩) 1 1) 2 5 2) 1).run Tryz.prog wx = .ok (.slice (some ⟨g, 0, none⟩) 1 1) wx := fun _ _ => by kernel_rfl
  generalize Mf.nm 2 = nf2 at OP2 FL VR NM ST AA AB AC
  go_enter Tryz.func3, Tryz.ntmps3
  go_wp2_with (first
    | (go_at_call 9; refine NW.out.mono ?_; rintro e w1 ⟨b, rfl, f1, b1⟩; clear NW)
    | (go_at_call 10; have tok := f1; refine (OP1.out _ _ f1).mono ?_; rintro e w2 ⟨c, rfl, f2, b2⟩; clear tok; have B2 := hide (b1.trans b2); clear OP1 f1 b2 b1)
    | (go_at_call 11; have tok := f2; refine (LV.out _).mono ?_; rintro e w3 ⟨rfl, b3⟩; clear tok; have f3 := (MfX.later f2 b3).1; have B3 := hide (B2.out.trans (MfX.later f2 b3).2); clear LV f2 B2 b3)
    | (go_at_call 13; have tok := f3; refine (ED.out _).mono ?_; rintro e w4 ⟨g, rfl, hm, b4⟩; clear tok; have f4 := (MfX.later f3 b4).1; have B4 := hide (B3.out.trans (MfX.later f3 b4).2); clear f3 B3 b4)
    | (go_at_call 12; have tok := f4; refine (AD1.out _ _ _ _ f4 hm).mono ?_; rintro e w5 ⟨rfl, f5, b5⟩; clear tok; have B5 := hide (B4.out.trans b5); clear AD1 f4 B4 b5 hm)
    | (go_at_call 10; have tok := f5; refine (OP2.out _ _ _ f5).mono ?_; rintro e w6 ⟨c6, rfl, f6, b6⟩; clear tok; have B6 := hide (B5.out.trans b6); clear OP2 f5 b6 B5)
    | (go_at_call 14; have tok := f6; refine still (FL.out _ _ _ f6) ?_; clear FL tok)
    | (go_at_call 16; have tok := f6; refine (VR.out _ _ _ f6).mono ?_; rintro e w7 ⟨ta, tc, rfl, hv, b7⟩; clear tok; have f7 := (MfX.later f6 b7).1; have B7 := hide (B6.out.trans (MfX.later f6 b7).2); clear VR f6 B6 b7)
    | (go_at_call 13; have tok := f7; refine (ED.out _).mono ?_; rintro e w8 ⟨g8, rfl, hm8, b8⟩; clear tok; have f8 := (MfX.later f7 b8).1; have B8 := hide (B7.out.trans (MfX.later f7 b8).2); have hv8 := hide (hv.out.later b8); clear ED f7 B7 b8 hv)
    | (go_at_call 15; have tok := f8; refine (SM.out _ _ _ _ hv8 hm8).mono ?_; rintro e w9 ⟨rfl, b9⟩; clear tok; have f9 := (MfX.later f8 b9).1; have B9 := hide (B8.out.trans (MfX.later f8 b9).2); clear SM f8 B8 b9 hv8 hm8)
    | (go_at_call 18; have tok := f9; refine (NM.out _ _ _ f9).mono ?_; rintro e x1 ⟨nv, rfl, tx, b10⟩; clear tok; have f10 := (MfX.later f9 b10).1; have B10 := hide (B9.out.trans (MfX.later f9 b10).2); clear NM f9 B9 b10)
    | (go_at_call 17; have tok := f10; refine (ST.out _ _ tx).mono ?_; rintro e x2 ⟨rfl, b11⟩; clear tok; have f11 := (MfX.later f10 b11).1; have B11 := hide (B10.out.trans (MfX.later f10 b11).2); clear ST tx f10 B10 b11)
    | (go_at_call 12; have tok := f11; refine (AA.out _ _ _ f11).mono ?_; rintro e x3 ⟨rfl, b12⟩; clear tok; have f12 := (MfX.later f11 b12).1; have B12 := hide (B11.out.trans (MfX.later f11 b12).2); clear AA f11 B11 b12)
    | (go_at_call 19; have tok := f12; refine (ME.out _ _ _ _ _).mono ?_; rintro e x4 ⟨rfl, b13⟩; clear tok; have f13 := (MfX.later f12 b13).1; have B13 := hide (B12.out.trans (MfX.later f12 b13).2); clear f12 B12 b13)
    | (go_at_call 12; have tok := f13; refine (AB.out _ _ _ f13).mono ?_; rintro e x5 ⟨rfl, b14⟩; clear tok; have f14 := (MfX.later f13 b14).1; have B14 := hide (B13.out.trans (MfX.later f13 b14).2); clear AB f13 B13 b14)
    | (go_at_call 12; have tok := f14; refine (AC.out _ _ _ f14).mono ?_; rintro e x6 ⟨rfl, b15⟩; clear tok; have f15 := (MfX.later f14 b15).1; have B15 := hide (B14.out.trans (MfX.later f14 b15).2); clear AC f14 B14 b15)
    | (go_at_call 19; have tok := f15; refine (ME.out _ _ _ _ _).mono ?_; rintro e x7 ⟨rfl, b16⟩; clear tok; have f16 := (MfX.later f15 b16).1; have B16 := hide (B15.out.trans (MfX.later f15 b16).2); clear f15 B15 b16)
    | (go_at_call 19; have tok := f16; refine (ME.out _ _ _ _ _).mono ?_; rintro e x8 ⟨rfl, b17⟩; clear tok; have f17 := (MfX.later f16 b17).1; have B17 := hide (B16.out.trans (MfX.later f16 b17).2); clear ME f16 B16 b17)
    | (go_at_call 20; have tok := f17; refine (CK.out _).mono ?_; rintro e x9 ⟨rfl, b18⟩; clear tok; have B18 := hide (B17.out.trans (MfX.later f17 b18).2); clear CK f17 B17 b18))
  go_ret
  exact ⟨rfl, B18.out⟩
end Go.Proofs.YtlhnjloimhcpfaaGreatDoor
