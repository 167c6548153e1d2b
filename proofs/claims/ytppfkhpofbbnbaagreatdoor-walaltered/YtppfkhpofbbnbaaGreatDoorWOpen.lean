/-
  A segment is begun; a log is opened.
-/
import Derived.Test.YtppfkhpofbbnbaaGreatDoorWFrom
import Derived.Test.YtppfkhpofbbnbaaGreatDoorWC
import Derived.Test.YtppfkhpofbbnbaaGreatDoorVFs
import Derived.Test.YtppfkhpofbbnbaaGreatDoorVE
namespace Go.Proofs.YtppfkhpofbbnbaaGreatDoor
open Go.RowKit Go.Maps Go.Sort

def beginE (σ : Vf.St) (n : Nat) : Int := if Vf.createE σ (Wl.seg n) = 0 then Vf.syncNamesE (Vf.create σ (Wl.seg n)) else Vf.createE σ (Wl.seg n)
def beginS (σ : Vf.St) (n : Nat) : Vf.St := if Vf.createE σ (Wl.seg n) = 0 then Vf.syncNames (Vf.create σ (Wl.seg n)) else Vf.create σ (Wl.seg n)

theorem Rep.later0 {w w1 w2 : World} {b : Nat} {σ : Vf.St} {S : Nat → Prop} (h : Rep w2 b σ (grow S w1 w2)) (h1 : w.heap.size ≤ w1.heap.size) : Rep w2 b σ (grow S w w2) :=
  h.wide (fun i hi => by
    rcases hi with hi | hi
    · exact .inl hi
    · exact .inr ⟨by omega, hi.2⟩) (fun i hi => by
    rcases hi with hi | hi
    · exact h.low i (.inl hi)
    · exact hi.2)

set_option maxRecDepth 100000 in
set_option maxHeartbeats 2000000 in
theorem begin_any (w : World) (b : Nat) (σ : Vf.St) (S : Nat → Prop) (h : Rep w b σ S) (hi : Vf.Inv σ) (hs : σ.steps ≤ 80000000) (n : Nat) (h1 : 1 ≤ n) (h2 : n < 100) :
    Calls Tryz.prog 46 #[.pointer (some ⟨b, 0, none⟩), .int .i64 (n : Int)] w fun e w' => e = .returned (.int .i64 (beginE σ n)) ∧ Rep w' b (beginS σ n) (grow S w w') ∧ Moved S w w' := by
  have NM := name_any w n h1 h2
  have CR : Hid (∀ wx, Below w.heap.size w wx → Calls Tryz.prog 85 #[.pointer (some ⟨b, 0, none⟩), str (Wl.seg n)] wx fun e w' => e = .returned (.int .i64 (Vf.createE σ (Wl.seg n))) ∧ Hid (Rep w' b (Vf.create σ (Wl.seg n)) (grow S w w')) ∧ Moved S w w') := fun wx hw => by
    refine (create_any wx b σ S (h.later hw) (ready hi (by omega)) (Wl.seg n) (by rw [Wl.seg_length]; decide) _ rfl).mono ?_
    rintro e w' ⟨rfl, h3, h4⟩
    exact ⟨rfl, h3.later0 hw.size, (Moved.below hw).trans h4 (fun i _ hs => hs)⟩
  have hst := Vf.create_steps σ (Wl.seg n)
  have SN : Hid (∀ wx, Rep wx b (Vf.create σ (Wl.seg n)) (grow S w wx) → Calls Tryz.prog 67 #[.pointer (some ⟨b, 0, none⟩)] wx fun e w' => e = .returned (.int .i64 (Vf.syncNamesE (Vf.create σ (Wl.seg n)))) ∧ Hid (Rep w' b (Vf.syncNames (Vf.create σ (Wl.seg n))) (grow (grow S w wx) wx w')) ∧ Moved (grow S w wx) wx w') := fun wx hw => syncNames_any wx b _ _ hw (ready (hi.create _) (by omega)) _ rfl
  by_cases hE : Vf.createE σ (Wl.seg n) = 0
  · have HB : Hid (beginE σ n = Vf.syncNamesE (Vf.create σ (Wl.seg n))) := if_pos hE
    have HT : Hid (beginS σ n = Vf.syncNames (Vf.create σ (Wl.seg n))) := if_pos hE
    rw [hE] at CR
    rw [HB.out, HT.out]
    generalize Wl.seg n = k at NM CR SN
    generalize Vf.create σ k = σ1 at CR SN
    generalize Vf.syncNamesE σ1 = E2 at SN
    clear hE HB HT h hst
    go_enter Tryz.func46, Tryz.ntmps46
    go_wp2_with (first
      | (go_at_call 10; refine NM.mono ?_; rintro e w1 ⟨rfl, b1⟩; clear NM)
      | (go_at_call 85; refine (CR.out _ b1).mono ?_; rintro e w2 ⟨rfl, r2, m2⟩; clear CR)
      | (go_at_call 67; refine (SN.out _ r2.out).mono ?_; rintro e w3 ⟨rfl, r3, m3⟩; clear SN))
    go_ret
    exact ⟨rfl, r3.out.grow2 m2.size m3.size, m2.grow m3⟩
  · have HB : Hid (beginE σ n = Vf.createE σ (Wl.seg n)) := if_neg hE
    have HT : Hid (beginS σ n = Vf.create σ (Wl.seg n)) := if_neg hE
    rw [HB.out, HT.out]
    have hE' : (Vf.createE σ (Wl.seg n) != 0) = true := by simpa using hE
    generalize Vf.createE σ (Wl.seg n) = E1 at CR hE'
    generalize Wl.seg n = k at NM CR
    clear hE HB HT h hst SN
    go_enter Tryz.func46, Tryz.ntmps46
    go_wp2_with (first
      | (go_at_call 10; refine NM.mono ?_; rintro e w1 ⟨rfl, b1⟩; clear NM)
      | (go_at_call 85; refine (CR.out _ b1).mono ?_; rintro e w2 ⟨rfl, r2, m2⟩; clear CR))
    go_ret
    exact ⟨rfl, r2.out, m2⟩

theorem Bats.moved {base : Nat} {w w' : World} {v : Value} {l : List Wl.Bat} {vs : List Value} {S : Nat → Prop} (h : Bats base w v l vs) (hm : Moved S w w') (hS : ∀ i, S i → i < base) : Bats base w' v l vs := by
  have keep : ∀ {e sz n : Nat} {u : Value} {xs : List Value}, w.ownsRow base e sz u n xs → w'.ownsRow base e sz u n xs := fun {e sz n u xs} ho => by
    refine ownsRow_same ho fun g hg => ?_
    have := ho.lt g hg
    exact hm.block g this.2 (fun hs => by have := hS g hs; omega)
  exact ⟨h.len, keep h.row, fun k hk hk' => keep (h.own k hk hk')⟩

/-- The cells of a log. -/
def walCells (b q n : Nat) (br : Bool) : Array Value := #[.pointer (some ⟨b, 0, none⟩), .int .i64 (q : Int), .int .i64 (n : Int), .bool br]
/-- Where a log lies. -/
def WalAt (w : World) (c b q n : Nat) (br : Bool) : Prop := w.heap[c]? = some (.cells (walCells b q n br) 58 (0, 0))

/-- What Open leaves: the file system, the log, and the batches that it told, each in memory that is not the file system's. -/
structure OpenIn (w w' : World) (S : Nat → Prop) (b : Nat) (σ' : Vf.St) (c q n : Nat) (v : Value) (l : List Wl.Bat) : Prop where
  all : ∃ S' vs, Rep w' b σ' S' ∧ (∀ i, S' i → S i ∨ w.heap.size ≤ i) ∧ ¬ S' c ∧ Bats w.heap.size w' v l vs ∧ (∀ r, v.ownBlock = some r → ¬ S' r) ∧ ∀ k (hk : k < vs.length) r, (vs[k]).ownBlock = some r → ¬ S' r
  wal : WalAt w' c b q n false
  new : w.heap.size ≤ c
  moved : Moved S w w'

set_option maxRecDepth 100000 in
set_option maxHeartbeats 8000000 in
theorem open_ok (w : World) (b : Nat) (σ : Vf.St) (S : Nat → Prop) (h : Rep w b σ S) (hi : Vf.Inv σ) (hst : σ.steps ≤ 80000000) (hon : σ.on = true) (ns : List Nat) (hns : ∀ k ∈ ns, 1 ≤ k ∧ k < 100) (hl : ns.length ≤ 99)
    (hnm : namesOf σ = ns.map Wl.seg) (hfd : ∀ k ∈ ns, Vf.findE σ (Wl.seg k) = 0) (hD : ∀ k ∈ ns, (Vf.read σ (Wl.seg k)).length ≤ 10000000) (first seq : Nat) (f1 : 1 ≤ first) (f2 : first ≤ 99) (hq : seq ≤ 1073741824)
    (all : List Wl.Bat) (next : Nat) (hrf : Wl.rf (fun k => Vf.read σ (Wl.seg k)) ns first [] = some (all, next)) (hall : ∀ x ∈ all, x.seq ≤ 1073741824) (hal : all.length ≤ 1000000000) (hgo : Wl.goOnB all seq = true) (hn1 : 1 ≤ next) (hn2 : next < 100) (hE : beginE σ next = 0)
    (last : Nat) (hlast : last = (all.getLast?.map (·.seq)).getD seq) :
    Calls Tryz.prog 15 #[.pointer (some ⟨b, 0, none⟩), .int .i64 (first : Int), .int .i64 (seq : Int)] w fun e w' => ∃ c v, e = .returned (.tuple #[.pointer (some ⟨c, 0, none⟩), v, .int .i64 0]) ∧ OpenIn w w' S b (beginS σ next) c last next v (Wl.behind all seq) := by
  have RD := ready hi (by omega)
  have hlow := h.low
  have R0 : Hid (Calls Tryz.prog 35 #[.pointer (some ⟨b, 0, none⟩), .string ⟨#[]⟩] w fun e w' => ∃ a n c, e = .returned (.tuple #[.slice a n c, .int .i64 2]) ∧ Below w.heap.size w w') := by
    have he : Vf.findE σ [] = 2 := by unfold Vf.findE Vf.refuse; rw [hon]; rfl
    refine (read_any w b σ S h RD [] (by simp) 2 he.symm).mono ?_
    rintro e w' ⟨v', rfl, o, b'⟩
    obtain ⟨a, c, rfl⟩ := row_shape5 o
    exact ⟨a, _, c, rfl, b'⟩
  have RF : Hid (∀ wx, Below w.heap.size w wx → Calls Tryz.prog 44 #[.pointer (some ⟨b, 0, none⟩), .int .i64 (first : Int)] wx fun e w' => ∃ a n c, e = .returned (.tuple #[.slice a n c, .int .i64 (next : Int), .int .i64 0]) ∧ Hid (n = all.length) ∧ Hid (∃ vs, Bats w.heap.size w' (.slice a n c) all vs) ∧ Below w.heap.size w w') := fun wx hw => by
    refine (readFrom_any wx b first ns (fun k => Vf.read σ (Wl.seg k)) hns hl (by omega) hD (fun W hW => ?_) (fun k hk W hW => ?_)).mono ?_
    · have := names_any W b σ S ((h.later hw).later (hW.mono (Nat.le_refl _))) (by have h1 := Vf.play_length σ.pending σ.durable; have h2 := hi.count; rw [← hi.replay] at h1; omega) (namesOf σ) rfl
      rw [hnm, List.length_map, List.map_map] at this
      exact this
    · refine (read_any W b σ S ((h.later hw).later hW) RD (Wl.seg k) (by rw [Wl.seg_length]; decide) 0 (hfd k hk).symm).mono ?_
      rintro e w' ⟨v', rfl, o, b'⟩
      exact ⟨v', rfl, o, b'⟩
    · rintro e w' ⟨v, x, E, rfl, ho, hb'⟩
      rcases ho with ⟨l, m, vs, h1, rfl, rfl, h2⟩ | ⟨h1, _⟩
      · rw [hrf] at h1
        cases h1
        obtain ⟨a, c, rfl, _⟩ := h2.shape
        exact ⟨a, _, c, rfl, rfl, ⟨vs, h2.mono hw.size⟩, hw.trans (hb'.mono hw.size)⟩
      · rw [hrf] at h1; cases h1
  have GO : Hid (∀ wx a n c vs, n = all.length → Bats w.heap.size wx (.slice a n c) all vs → Calls Tryz.prog 45 #[.slice a n c, .int .i64 (seq : Int)] wx fun e w' => e = .returned (.bool true) ∧ Below wx.heap.size wx w') := fun wx a n c vs hn hB => goOn_any wx w.heap.size a n c all vs hB hn (by omega) hall seq hq true hgo.symm
  have BG : Hid (∀ wx, Below w.heap.size w wx → Calls Tryz.prog 46 #[.pointer (some ⟨b, 0, none⟩), .int .i64 (next : Int)] wx fun e w' => e = .returned (.int .i64 0) ∧ Rep w' b (beginS σ next) (grow S wx w') ∧ Moved S wx w') := fun wx hw => by
    have := begin_any wx b σ S (h.later hw) hi hst next hn1 hn2
    rw [hE] at this
    exact this
  have BH : Hid (∀ wx a n c vs, n = all.length → w.heap.size ≤ wx.heap.size → Bats w.heap.size wx (.slice a n c) all vs → Calls Tryz.prog 47 #[.slice a n c, .int .i64 (seq : Int)] wx fun e w' => ∃ v, e = .returned v ∧ Hid (∃ us, Bats w.heap.size w' v (Wl.behind all seq) us ∧ (∀ u ∈ us, u ∈ vs) ∧ ∀ r, v.ownBlock = some r → wx.heap.size ≤ r) ∧ Below wx.heap.size wx w') := fun wx a n c vs hn hw hB => behind_any wx w.heap.size a n c all vs hB hn hw (by omega) hall seq
  have HLOW := hide hlow
  generalize beginS σ next = σ' at BG
  have i1 : ¬ (first : Int) < 1 := by omega
  have i2 : ¬ (first : Int) > 999999 := by omega
  have i3 : ¬ (seq : Int) < 0 := by omega
  have i4 : ¬ (seq : Int) > 1073741824 := by omega
  have i5 : ¬ (next : Int) > 999999 := by omega
  have FIN : Hid (∀ (w4 w5 w6 w7 : World) (a : Option Addr) (n c : Nat) (vs : List Value) (v : Value), Below w.heap.size w w4 → Bats w.heap.size w4 (.slice a n c) all vs → Rep w5 b σ' (grow S w4 w5) → Moved S w4 w5 → w6 = w5.alloc (.cells (walCells b last next false) 58) → (∃ us, Bats w.heap.size w7 v (Wl.behind all seq) us ∧ (∀ u ∈ us, u ∈ vs) ∧ ∀ r, v.ownBlock = some r → w6.heap.size ≤ r) → Below w6.heap.size w6 w7 → OpenIn w w7 S b σ' w5.heap.size last next v (Wl.behind all seq)) := by
    rintro w4 w5 w6 w7 a n c vs v b4 B4 r5 m5 e6 ⟨us, B7, hu, hv⟩ b7
    have z6 : w6.heap.size = w5.heap.size + 1 := by rw [e6]; simp
    have b6 : Below w5.heap.size w5 w6 := by rw [e6]; exact (Below.refl _ _).alloc (Nat.le_refl _) _
    have b57 : Below w5.heap.size w5 w7 := b6.trans (b7.mono (by omega))
    have s5 := m5.size
    have s4 := b4.size
    refine ⟨⟨_, us, r5.later b57, fun i hi => ?_, fun hc => ?_, B7, fun r hr hs => ?_, fun k hk r hr hs => ?_⟩, ?_, ?_, ?_⟩
    · rcases hi with hi | hi
      · exact .inl hi
      · exact .inr (by omega)
    · rcases hc with hc | hc
      · have := HLOW.out _ hc; omega
      · omega
    · have h1 := hv r hr
      rcases hs with hs | hs
      · have := HLOW.out _ hs; omega
      · omega
    · obtain ⟨q, hq, e⟩ := List.getElem_of_mem (hu _ (List.getElem_mem hk))
      rw [← e] at hr
      have h1 := (B4.own q hq (by rw [← B4.len]; exact hq)).lt r hr
      rcases hs with hs | hs
      · have := HLOW.out _ hs; omega
      · omega
    · show w7.heap[w5.heap.size]? = _
      refine (b7.block _ (by omega)).trans ?_
      rw [e6]
      exact World.alloc_heap_new w5 _
    · omega
    · exact (((Moved.below b4).trans m5 (fun i _ hs => hs)).trans (T := fun _ => False) (Moved.below b57) (fun _ _ h => h.elim))
  have HLS : Hid (last = (all.getLast?.map (·.seq)).getD seq) := hlast
  have MV : Hid (∀ (w4 w5 : World) v vs, Below w.heap.size w w4 → Bats w.heap.size w4 v all vs → Moved S w4 w5 → Bats w.heap.size w5 v all vs) := fun w4 w5 v vs _ hB hm => hB.moved hm HLOW.out
  have HALL : Hid (all.length ≤ 1000000000) := hal
  clear h hi hst hon hns hl hnm hfd hD hrf hE RD hlow hlast hgo
  rcases all with _ | ⟨x, r⟩
  · have hl0 : last = seq := HLS.out
    subst hl0
    go_enter Tryz.func15, Tryz.ntmps15
    go_wp2_with (first
      | (go_at_call 35; refine R0.out.mono ?_; rintro e w1 ⟨a1, n1, c1, rfl, b1⟩; clear R0)
      | (go_at_call 44; refine (RF.out _ b1).mono ?_; rintro e w2 ⟨a2, n2, c2, rfl, HN2, B2, b2⟩; obtain ⟨vs2, B2⟩ := B2.out; clear RF; obtain rfl : n2 = 0 := HN2.out)
      | (go_at_call 45; refine (GO.out _ _ _ _ _ rfl B2).mono ?_; rintro e w3 ⟨rfl, b3⟩; have B3 := B2.later b3; have D3 := b2.trans (b3.mono b2.size); clear GO)
      | (go_at_call 46; refine (BG.out _ D3).mono ?_; rintro e w5 ⟨rfl, r5, m5⟩; have B5 := MV.out _ _ _ _ D3 B3 m5; have s5 := m5.size; have s3 := D3.size; clear BG MV)
      | (go_at_call 47; refine (BH.out _ _ _ _ _ rfl (by simp; omega) (B5.alloc _)).mono ?_; rintro e w7 ⟨v7, rfl, HU, b7⟩; clear BH))
    go_ret3
    exact ⟨_, _, rfl, FIN.out _ _ _ _ _ _ _ _ _ D3 B3 r5 m5 rfl HU.out b7⟩
  · have hlq : last = ((x :: r).getLast (by simp)).seq := by rw [HLS.out, List.getLast?_eq_some_getLast (by simp)]; rfl
    have CL : Hid (∀ wx a n c vs, n = (x :: r).length → Bats w.heap.size wx (.slice a n c) (x :: r) vs → ∃ g, a = some ⟨g, 0, none⟩ ∧ wx.cell? ⟨g, (n - 1) * 2, none⟩ = some (.int .i64 (last : Int))) := fun wx a n c vs hn hB => by
      obtain ⟨g, rfl⟩ : ∃ g, a = some ⟨g, 0, none⟩ := by
        rcases hB.row.2 with ⟨e, h0⟩ | ⟨g, cap, cur, e, _⟩
        · simp at h0
        · cases e; exact ⟨g, rfl⟩
      refine ⟨g, rfl, ?_⟩
      have hn0 : 0 < n := by rw [hn]; simp
      obtain ⟨z1, _⟩ := hB.cells (n - 1) (by omega) (by rw [hB.len]; omega)
      rw [z1]
      have eg : (x :: r)[n - 1]'(by omega) = (x :: r).getLast (by simp) := by
        rw [List.getLast_eq_getElem]
        congr 1
        omega
      rw [eg, ← hlq]
    have hN1 : 1 ≤ (x :: r).length := by simp
    obtain ⟨N, hN⟩ : ∃ N, N = (x :: r).length - 1 := ⟨_, rfl⟩
    have HN : Hid ((x :: r).length = N + 1) := by show _ = _; omega
    have nb : N ≤ 1000000000 := by have := HALL.out; omega
    clear hlq HLS hN hN1 hall hal
    go_enter Tryz.func15, Tryz.ntmps15
    go_wp2_with (first
      | (go_at_call 35; refine R0.out.mono ?_; rintro e w1 ⟨a1, n1, c1, rfl, b1⟩; clear R0)
      | (go_at_call 44; refine (RF.out _ b1).mono ?_; rintro e w2 ⟨a2, n2, c2, rfl, HN2, B2, b2⟩; obtain ⟨vs2, B2⟩ := B2.out; clear RF; obtain rfl : n2 = N + 1 := HN2.out.trans HN.out)
      | (go_at_call 45; refine (GO.out _ _ _ _ _ HN.out.symm B2).mono ?_; rintro e w3 ⟨rfl, b3⟩; have B3 := B2.later b3; have D3 := b2.trans (b3.mono b2.size); clear GO)
      | (go_at_call 46; refine (BG.out _ D3).mono ?_; rintro e w5 ⟨rfl, r5, m5⟩; have B5 := MV.out _ _ _ _ D3 B3 m5; have s5 := m5.size; have s3 := D3.size; obtain ⟨g, rfl, cz⟩ := CL.out _ _ _ _ _ HN.out.symm B5; have cy := fun o => keepC ((Below.refl _ w5).alloc (Nat.le_refl _) o) cz; rw [Nat.add_sub_cancel] at cz; simp only [Nat.add_sub_cancel] at cy; clear BG MV CL)
      | (go_at_call 47; refine (BH.out _ _ _ _ _ HN.out.symm (by simp; omega) (B5.alloc _)).mono ?_; rintro e w7 ⟨v7, rfl, HU, b7⟩; clear BH))
    go_ret3
    exact ⟨_, _, rfl, FIN.out _ _ _ _ _ _ _ _ _ D3 B3 r5 m5 rfl HU.out b7⟩
end Go.Proofs.YtppfkhpofbbnbaaGreatDoor
