/-
  The walk of ManifestBack, way by way, over the contracts that it calls. (Written by wip/gen/back10.py.)
-/
import Derived.Test.YtlhnjloimhcpfaaGreatDoorYT
import Derived.Test.YtlhnjloimhcpfaaGreatDoorYK
import Derived.Test.YtlhnjloimhcpfaaGreatDoorYDec
import Derived.Test.YtlhnjloimhcpfaaGreatDoorKSame
namespace Go.Proofs.YtlhnjloimhcpfaaGreatDoor.manifestBack
open Go.RowKit

set_option maxRecDepth 100000 in
set_option maxHeartbeats 4000000 in
theorem way111 (w W : World) (ta a2 a3 ba : Option Addr) (tc c2 c3 bc N M K L : Nat) (v : Mf.Vn) (x : Mf.Ed) (y : Mf.Ed) (b : Mf.Bs) (M2 K2 : Nat) (HW : Hid (W = (w.alloc (vO (.slice ta N tc) v.log v.seq v.next)).alloc (eO (.slice a2 M c2) (.slice a3 K c3) x.log x.seq x.next))) (hM : (M : Int) ≤ 60) (hL : (L : Int) ≤ 8000)
    (LV : Hid (∀ wx, Calls Tryz.prog 11 #[] wx fun r w' => r = .returned (.bool true) ∧ Below wx.heap.size wx w'))
    (S1 : Hid (∀ wx, Below W.heap.size W wx → Calls Tryz.prog 21 #[.slice ta N tc] wx fun r w' => r = .returned (.bool true) ∧ Below wx.heap.size wx w'))
    (S2 : Hid (∀ wx, Below W.heap.size W wx → Calls Tryz.prog 21 #[.slice a3 K c3] wx fun r w' => r = .returned (.bool true) ∧ Below wx.heap.size wx w'))
    (CK : Hid (∀ wx, Below W.heap.size W wx → Calls Tryz.prog 20 #[vv (.slice ta N tc) v.log v.seq v.next] wx fun r w' => r = .returned (.int .i64 0) ∧ Below wx.heap.size wx w'))
    (FR : Hid (∀ wx, Below W.heap.size W wx → Calls Tryz.prog 31 #[vv (.slice ta N tc) v.log v.seq v.next] wx fun r w' => ∃ fa fc, r = .returned (ev (.slice none 0 0) (.slice fa N fc) v.log v.seq v.next) ∧ Hid (MtsAt w' (.slice fa N fc) v.tabs) ∧ Below wx.heap.size wx w'))
    (BH : Hid (∀ wx fa fc, Below W.heap.size W wx → Hid (MtsAt wx (.slice fa N fc) v.tabs) → Calls Tryz.prog 25 #[vv (.slice none 0 0) 1 0 1, ev (.slice none 0 0) (.slice fa N fc) v.log v.seq v.next] wx fun r w' => ∃ ga gc, r = .returned (.tuple #[vv (.slice ga N gc) v.log v.seq v.next, .int .i64 0]) ∧ Hid (MtsAt w' (.slice ga N gc) v.tabs) ∧ Below wx.heap.size wx w'))
    (SV : Hid (∀ wx ga gc, Below W.heap.size W wx → Hid (MtsAt wx (.slice ga N gc) v.tabs) → Calls Tryz.prog 33 #[vv (.slice ta N tc) v.log v.seq v.next, vv (.slice ga N gc) v.log v.seq v.next] wx fun r w' => r = .returned (.bool true) ∧ Below wx.heap.size wx w'))
    (EN : Hid (∀ wx, Below W.heap.size W wx → Calls Tryz.prog 27 #[ev (.slice a2 M c2) (.slice a3 K c3) x.log x.seq x.next] wx fun r w' => ∃ g n c, r = .returned (.tuple #[.slice (some ⟨g, 0, none⟩) n c, .int .i64 0]) ∧ Hid (n ≤ c ∧ BytesIn w' (.slice (some ⟨g, 0, none⟩) n c) (Mf.recB x) ∧ n = (Mf.recB x).length) ∧ Below wx.heap.size wx w'))
    (DC : Hid (∀ wx g n c, Below W.heap.size W wx → Hid (n ≤ c ∧ BytesIn wx (.slice (some ⟨g, 0, none⟩) n c) (Mf.recB x) ∧ n = (Mf.recB x).length) → Calls Tryz.prog 29 #[.slice (some ⟨g, 0, none⟩) n c] wx fun r w' => ∃ ya yc za zc, r = .returned (.tuple #[ev (.slice ya M yc) (.slice za K zc) x.log x.seq x.next, .int .i64 0]) ∧ Hid (IzAt w' (.slice ya M yc) x.drops) ∧ Hid (MtsAt w' (.slice za K zc) x.adds) ∧ Below wx.heap.size wx w'))
    (SE : Hid (∀ wx ya yc za zc, Below W.heap.size W wx → Hid (IzAt wx (.slice ya M yc) x.drops) → Hid (MtsAt wx (.slice za K zc) x.adds) → Calls Tryz.prog 35 #[ev (.slice a2 M c2) (.slice a3 K c3) x.log x.seq x.next, ev (.slice ya M yc) (.slice za K zc) x.log x.seq x.next] wx fun r w' => r = .returned (.bool true) ∧ Below wx.heap.size wx w'))
    (DB : Hid (∀ wx, Below W.heap.size W wx → Calls Tryz.prog 29 #[.slice ba L bc] wx fun r w' => ∃ ya yc za zc, r = .returned (.tuple #[ev (.slice ya M2 yc) (.slice za K2 zc) y.log y.seq y.next, .int .i64 0]) ∧ Hid (IzAt w' (.slice ya M2 yc) y.drops) ∧ Hid (MtsAt w' (.slice za K2 zc) y.adds) ∧ Below wx.heap.size wx w'))
    (EY : Hid (∀ wx ya yc za zc, Below W.heap.size W wx → Hid (IzAt wx (.slice ya M2 yc) y.drops) → Hid (MtsAt wx (.slice za K2 zc) y.adds) → Calls Tryz.prog 27 #[ev (.slice ya M2 yc) (.slice za K2 zc) y.log y.seq y.next] wx fun r w' => ∃ g n c, r = .returned (.tuple #[.slice (some ⟨g, 0, none⟩) n c, .int .i64 0]) ∧ Hid (BytesIn w' (.slice (some ⟨g, 0, none⟩) n c) b) ∧ Below wx.heap.size wx w'))
    (SB : Hid (∀ wx g n c, Below W.heap.size W wx → Hid (BytesIn wx (.slice (some ⟨g, 0, none⟩) n c) b) → Calls Tryz.prog 34 #[.slice (some ⟨g, 0, none⟩) n c, .slice ba L bc] wx fun r w' => r = .returned (.bool true) ∧ Below wx.heap.size wx w'))
    : Calls Tryz.prog 7 #[vv (.slice ta N tc) v.log v.seq v.next, ev (.slice a2 M c2) (.slice a3 K c3) x.log x.seq x.next, .slice ba L bc] w fun r w' => r = .returned (.bool true) ∧ Below w.heap.size w w' := by
  have HB0 : Hid (Below w.heap.size w W) := by show Below _ _ _; rw [HW.out]; exact ((Below.refl _ _).alloc (Nat.le_refl _) _).alloc (by simp) _
  have HC : Hid (∀ wx, Below W.heap.size W wx → wx.cell? ⟨w.heap.size, 0, none⟩ = some (.slice ta N tc) ∧ wx.cell? ⟨w.heap.size, 1, none⟩ = some (.int .i64 v.log) ∧ wx.cell? ⟨w.heap.size, 2, none⟩ = some (.int .i64 v.seq) ∧ wx.cell? ⟨w.heap.size, 3, none⟩ = some (.int .i64 v.next) ∧ wx.cell? ⟨w.heap.size + 1, 0, none⟩ = some (.slice a2 M c2) ∧ wx.cell? ⟨w.heap.size + 1, 1, none⟩ = some (.slice a3 K c3) ∧ wx.cell? ⟨w.heap.size + 1, 2, none⟩ = some (.int .i64 x.log) ∧ wx.cell? ⟨w.heap.size + 1, 3, none⟩ = some (.int .i64 x.seq) ∧ wx.cell? ⟨w.heap.size + 1, 4, none⟩ = some (.int .i64 x.next)) := fun wx hx => by
    have q0 : W.heap[w.heap.size]? = some (vO (.slice ta N tc) v.log v.seq v.next) := by rw [HW.out]; exact (Below.heap_alloc _ _ _ (by simp)).trans (World.alloc_heap_new w _)
    have q1 : W.heap[w.heap.size + 1]? = some (eO (.slice a2 M c2) (.slice a3 K c3) x.log x.seq x.next) := by
      rw [HW.out]
      have := World.alloc_heap_new (w.alloc (vO (.slice ta N tc) v.log v.seq v.next)) (eO (.slice a2 M c2) (.slice a3 K c3) x.log x.seq x.next)
      rw [World.size_alloc] at this
      exact this
    obtain ⟨p0, p1, p2, p3, _⟩ := slot4 ((hx.block _ (Array.getElem?_eq_some_iff.1 q0).1).trans q0)
    obtain ⟨r0, r1, r2, r3, r4, _⟩ := slot5 ((hx.block _ (Array.getElem?_eq_some_iff.1 q1).1).trans q1)
    exact ⟨p0, p1, p2, p3, r0, r1, r2, r3, r4⟩
  have iM : ¬ (M : Int) > 60 := by omega
  have iL : ¬ (L : Int) > 8000 := by omega
  clear hM hL
  go_enter Tryz.func7, Tryz.ntmps7
  go_wp2_with (first
    | (go_at_call 11; have tok := LV; refine (LV.out _).mono ?_; rintro e u1 ⟨rfl, b1⟩; clear tok; rw [← HW.out] at b1; have D1 := hide b1; obtain ⟨p0, p1, p2, p3, r0, r1, r2, r3, r4⟩ := HC.out _ D1.out; clear LV b1)
    | (go_at_call 21; have tok := S1; refine (S1.out _ D1.out).mono ?_; rintro e u2 ⟨rfl, b2⟩; clear tok; have D2 := hide (D1.out.trans (b2.mono D1.out.size)); clear p0 p1 p2 p3 r0 r1 r2 r3 r4; obtain ⟨p0, p1, p2, p3, r0, r1, r2, r3, r4⟩ := HC.out _ D2.out; clear S1 b2 D1)
    | (go_at_call 21; have tok := S2; refine (S2.out _ D2.out).mono ?_; rintro e u3 ⟨rfl, b3⟩; clear tok; have D3 := hide (D2.out.trans (b3.mono D2.out.size)); clear p0 p1 p2 p3 r0 r1 r2 r3 r4; obtain ⟨p0, p1, p2, p3, r0, r1, r2, r3, r4⟩ := HC.out _ D3.out; clear S2 b3 D2)
    | (go_at_call 20; have tok := CK; refine (CK.out _ D3.out).mono ?_; rintro e u4 ⟨rfl, b4⟩; clear tok; have D4 := hide (D3.out.trans (b4.mono D3.out.size)); clear p0 p1 p2 p3 r0 r1 r2 r3 r4; obtain ⟨p0, p1, p2, p3, r0, r1, r2, r3, r4⟩ := HC.out _ D4.out; clear CK b4 D3)
    | (go_at_call 31; have tok := FR; refine (FR.out _ D4.out).mono ?_; rintro e u5 ⟨fa, fc, rfl, HF5, b5⟩; clear tok; have D5 := hide (D4.out.trans (b5.mono D4.out.size)); clear p0 p1 p2 p3 r0 r1 r2 r3 r4; obtain ⟨p0, p1, p2, p3, r0, r1, r2, r3, r4⟩ := HC.out _ D5.out; clear FR b5 D4)
    | (go_at_call 25; have tok := BH; refine (BH.out _ _ _ D5.out HF5).mono ?_; rintro e u6 ⟨ga, gc, rfl, HG6, b6⟩; clear tok; have b6x := b6.alloc b6.size (vO (.slice ga N gc) v.log v.seq v.next); have D6 := hide (D5.out.trans (b6x.mono D5.out.size)); obtain ⟨n0, n1, n2, n3, _⟩ := slot4 (World.alloc_heap_new u6 (vO (.slice ga N gc) v.log v.seq v.next)); have HG7 : Hid (MtsAt (u6.alloc (vO (.slice ga N gc) v.log v.seq v.next)) (.slice ga N gc) v.tabs) := HG6.out.later ((Below.refl _ _).alloc (Nat.le_refl _) _); clear p0 p1 p2 p3 r0 r1 r2 r3 r4; obtain ⟨p0, p1, p2, p3, r0, r1, r2, r3, r4⟩ := HC.out _ D6.out; clear BH b6 b6x D5 HF5 HG6)
    | (go_at_call 33; have tok := SV; refine (SV.out _ _ _ D6.out HG7).mono ?_; rintro e u7 ⟨rfl, b7⟩; clear tok; have D7 := hide (D6.out.trans (b7.mono D6.out.size)); clear p0 p1 p2 p3 r0 r1 r2 r3 r4; obtain ⟨p0, p1, p2, p3, r0, r1, r2, r3, r4⟩ := HC.out _ D7.out; clear SV b7 D6 HG7 n0 n1 n2 n3)
    | (go_at_call 27; have tok := EN; refine (EN.out _ D7.out).mono ?_; rintro e u8 ⟨eg, en, ec, rfl, HE8, b8⟩; clear tok; have D8 := hide (D7.out.trans (b8.mono D7.out.size)); clear p0 p1 p2 p3 r0 r1 r2 r3 r4; obtain ⟨p0, p1, p2, p3, r0, r1, r2, r3, r4⟩ := HC.out _ D8.out; clear EN b8 D7)
    | (go_at_call 29; have tok := DC; refine (DC.out _ _ _ _ D8.out HE8).mono ?_; rintro e u9 ⟨ya, yc, za, zc, rfl, HY, HZ, b9⟩; clear tok; have b9x := b9.alloc b9.size (eO (.slice ya M yc) (.slice za K zc) x.log x.seq x.next); have D9 := hide (D8.out.trans (b9x.mono D8.out.size)); obtain ⟨m0, m1, m2, m3, m4, _⟩ := slot5 (World.alloc_heap_new u9 (eO (.slice ya M yc) (.slice za K zc) x.log x.seq x.next)); have HY9 : Hid (IzAt (u9.alloc (eO (.slice ya M yc) (.slice za K zc) x.log x.seq x.next)) (.slice ya M yc) x.drops) := HY.out.later ((Below.refl _ _).alloc (Nat.le_refl _) _); have HZ9 : Hid (MtsAt (u9.alloc (eO (.slice ya M yc) (.slice za K zc) x.log x.seq x.next)) (.slice za K zc) x.adds) := HZ.out.later ((Below.refl _ _).alloc (Nat.le_refl _) _); clear p0 p1 p2 p3 r0 r1 r2 r3 r4; obtain ⟨p0, p1, p2, p3, r0, r1, r2, r3, r4⟩ := HC.out _ D9.out; clear DC b9 b9x D8 HE8 HY HZ)
    | (go_at_call 35; have tok := SE; refine (SE.out _ _ _ _ _ D9.out HY9 HZ9).mono ?_; rintro e v1 ⟨rfl, b10⟩; clear tok; have D10 := hide (D9.out.trans (b10.mono D9.out.size)); clear p0 p1 p2 p3 r0 r1 r2 r3 r4; obtain ⟨p0, p1, p2, p3, r0, r1, r2, r3, r4⟩ := HC.out _ D10.out; clear SE b10 D9 HY9 HZ9 m0 m1 m2 m3 m4)
    | (go_at_call 29; have tok := DB; refine (DB.out _ D10.out).mono ?_; rintro e v2 ⟨ya2, yc2, za2, zc2, rfl, HY2, HZ2, b11⟩; clear tok; have b11x := b11.alloc b11.size (eO (.slice ya2 M2 yc2) (.slice za2 K2 zc2) y.log y.seq y.next); have D11 := hide (D10.out.trans (b11x.mono D10.out.size)); obtain ⟨o0, o1, o2, o3, o4, _⟩ := slot5 (World.alloc_heap_new v2 (eO (.slice ya2 M2 yc2) (.slice za2 K2 zc2) y.log y.seq y.next)); have HY3 : Hid (IzAt (v2.alloc (eO (.slice ya2 M2 yc2) (.slice za2 K2 zc2) y.log y.seq y.next)) (.slice ya2 M2 yc2) y.drops) := HY2.out.later ((Below.refl _ _).alloc (Nat.le_refl _) _); have HZ3 : Hid (MtsAt (v2.alloc (eO (.slice ya2 M2 yc2) (.slice za2 K2 zc2) y.log y.seq y.next)) (.slice za2 K2 zc2) y.adds) := HZ2.out.later ((Below.refl _ _).alloc (Nat.le_refl _) _); clear p0 p1 p2 p3 r0 r1 r2 r3 r4; clear DB b11 b11x D10 HY2 HZ2)
    | (go_at_call 27; have tok := EY; refine (EY.out _ _ _ _ _ D11.out HY3 HZ3).mono ?_; rintro e v3 ⟨eg2, en2, ec2, rfl, HE2, b12⟩; clear tok; have D12 := hide (D11.out.trans (b12.mono D11.out.size)); clear EY b12 D11 HY3 HZ3)
    | (go_at_call 34; have tok := SB; refine (SB.out _ _ _ _ D12.out HE2).mono ?_; rintro e v4 ⟨rfl, b13⟩; clear tok; have D13 := hide (D12.out.trans (b13.mono D12.out.size)); clear SB b13 D12 HE2))
  go_ret
  exact ⟨rfl, HB0.out.trans (D13.out.mono HB0.out.size)⟩

set_option maxRecDepth 100000 in
set_option maxHeartbeats 4000000 in
theorem way110 (w W : World) (ta a2 a3 ba : Option Addr) (tc c2 c3 bc N M K L : Nat) (v : Mf.Vn) (x : Mf.Ed) (HW : Hid (W = (w.alloc (vO (.slice ta N tc) v.log v.seq v.next)).alloc (eO (.slice a2 M c2) (.slice a3 K c3) x.log x.seq x.next))) (hM : (M : Int) ≤ 60) (hL : (L : Int) ≤ 8000)
    (LV : Hid (∀ wx, Calls Tryz.prog 11 #[] wx fun r w' => r = .returned (.bool true) ∧ Below wx.heap.size wx w'))
    (S1 : Hid (∀ wx, Below W.heap.size W wx → Calls Tryz.prog 21 #[.slice ta N tc] wx fun r w' => r = .returned (.bool true) ∧ Below wx.heap.size wx w'))
    (S2 : Hid (∀ wx, Below W.heap.size W wx → Calls Tryz.prog 21 #[.slice a3 K c3] wx fun r w' => r = .returned (.bool true) ∧ Below wx.heap.size wx w'))
    (CK : Hid (∀ wx, Below W.heap.size W wx → Calls Tryz.prog 20 #[vv (.slice ta N tc) v.log v.seq v.next] wx fun r w' => r = .returned (.int .i64 0) ∧ Below wx.heap.size wx w'))
    (FR : Hid (∀ wx, Below W.heap.size W wx → Calls Tryz.prog 31 #[vv (.slice ta N tc) v.log v.seq v.next] wx fun r w' => ∃ fa fc, r = .returned (ev (.slice none 0 0) (.slice fa N fc) v.log v.seq v.next) ∧ Hid (MtsAt w' (.slice fa N fc) v.tabs) ∧ Below wx.heap.size wx w'))
    (BH : Hid (∀ wx fa fc, Below W.heap.size W wx → Hid (MtsAt wx (.slice fa N fc) v.tabs) → Calls Tryz.prog 25 #[vv (.slice none 0 0) 1 0 1, ev (.slice none 0 0) (.slice fa N fc) v.log v.seq v.next] wx fun r w' => ∃ ga gc, r = .returned (.tuple #[vv (.slice ga N gc) v.log v.seq v.next, .int .i64 0]) ∧ Hid (MtsAt w' (.slice ga N gc) v.tabs) ∧ Below wx.heap.size wx w'))
    (SV : Hid (∀ wx ga gc, Below W.heap.size W wx → Hid (MtsAt wx (.slice ga N gc) v.tabs) → Calls Tryz.prog 33 #[vv (.slice ta N tc) v.log v.seq v.next, vv (.slice ga N gc) v.log v.seq v.next] wx fun r w' => r = .returned (.bool true) ∧ Below wx.heap.size wx w'))
    (EN : Hid (∀ wx, Below W.heap.size W wx → Calls Tryz.prog 27 #[ev (.slice a2 M c2) (.slice a3 K c3) x.log x.seq x.next] wx fun r w' => ∃ g n c, r = .returned (.tuple #[.slice (some ⟨g, 0, none⟩) n c, .int .i64 0]) ∧ Hid (n ≤ c ∧ BytesIn w' (.slice (some ⟨g, 0, none⟩) n c) (Mf.recB x) ∧ n = (Mf.recB x).length) ∧ Below wx.heap.size wx w'))
    (DC : Hid (∀ wx g n c, Below W.heap.size W wx → Hid (n ≤ c ∧ BytesIn wx (.slice (some ⟨g, 0, none⟩) n c) (Mf.recB x) ∧ n = (Mf.recB x).length) → Calls Tryz.prog 29 #[.slice (some ⟨g, 0, none⟩) n c] wx fun r w' => ∃ ya yc za zc, r = .returned (.tuple #[ev (.slice ya M yc) (.slice za K zc) x.log x.seq x.next, .int .i64 0]) ∧ Hid (IzAt w' (.slice ya M yc) x.drops) ∧ Hid (MtsAt w' (.slice za K zc) x.adds) ∧ Below wx.heap.size wx w'))
    (SE : Hid (∀ wx ya yc za zc, Below W.heap.size W wx → Hid (IzAt wx (.slice ya M yc) x.drops) → Hid (MtsAt wx (.slice za K zc) x.adds) → Calls Tryz.prog 35 #[ev (.slice a2 M c2) (.slice a3 K c3) x.log x.seq x.next, ev (.slice ya M yc) (.slice za K zc) x.log x.seq x.next] wx fun r w' => r = .returned (.bool true) ∧ Below wx.heap.size wx w'))
    (DB : Hid (∀ wx, Below W.heap.size W wx → Calls Tryz.prog 29 #[.slice ba L bc] wx fun r w' => r = .returned (.tuple #[ev (.slice none 0 0) (.slice none 0 0) 0 0 0, .int .i64 5]) ∧ Below wx.heap.size wx w'))
    (SZ : Hid (∀ wx, Calls Tryz.prog 35 #[ev (.slice none 0 0) (.slice none 0 0) 0 0 0, ev (.slice none 0 0) (.slice none 0 0) 0 0 0] wx fun r w' => r = .returned (.bool true) ∧ Below wx.heap.size wx w'))
    : Calls Tryz.prog 7 #[vv (.slice ta N tc) v.log v.seq v.next, ev (.slice a2 M c2) (.slice a3 K c3) x.log x.seq x.next, .slice ba L bc] w fun r w' => r = .returned (.bool true) ∧ Below w.heap.size w w' := by
  have HB0 : Hid (Below w.heap.size w W) := by show Below _ _ _; rw [HW.out]; exact ((Below.refl _ _).alloc (Nat.le_refl _) _).alloc (by simp) _
  have HC : Hid (∀ wx, Below W.heap.size W wx → wx.cell? ⟨w.heap.size, 0, none⟩ = some (.slice ta N tc) ∧ wx.cell? ⟨w.heap.size, 1, none⟩ = some (.int .i64 v.log) ∧ wx.cell? ⟨w.heap.size, 2, none⟩ = some (.int .i64 v.seq) ∧ wx.cell? ⟨w.heap.size, 3, none⟩ = some (.int .i64 v.next) ∧ wx.cell? ⟨w.heap.size + 1, 0, none⟩ = some (.slice a2 M c2) ∧ wx.cell? ⟨w.heap.size + 1, 1, none⟩ = some (.slice a3 K c3) ∧ wx.cell? ⟨w.heap.size + 1, 2, none⟩ = some (.int .i64 x.log) ∧ wx.cell? ⟨w.heap.size + 1, 3, none⟩ = some (.int .i64 x.seq) ∧ wx.cell? ⟨w.heap.size + 1, 4, none⟩ = some (.int .i64 x.next)) := fun wx hx => by
    have q0 : W.heap[w.heap.size]? = some (vO (.slice ta N tc) v.log v.seq v.next) := by rw [HW.out]; exact (Below.heap_alloc _ _ _ (by simp)).trans (World.alloc_heap_new w _)
    have q1 : W.heap[w.heap.size + 1]? = some (eO (.slice a2 M c2) (.slice a3 K c3) x.log x.seq x.next) := by
      rw [HW.out]
      have := World.alloc_heap_new (w.alloc (vO (.slice ta N tc) v.log v.seq v.next)) (eO (.slice a2 M c2) (.slice a3 K c3) x.log x.seq x.next)
      rw [World.size_alloc] at this
      exact this
    obtain ⟨p0, p1, p2, p3, _⟩ := slot4 ((hx.block _ (Array.getElem?_eq_some_iff.1 q0).1).trans q0)
    obtain ⟨r0, r1, r2, r3, r4, _⟩ := slot5 ((hx.block _ (Array.getElem?_eq_some_iff.1 q1).1).trans q1)
    exact ⟨p0, p1, p2, p3, r0, r1, r2, r3, r4⟩
  have iM : ¬ (M : Int) > 60 := by omega
  have iL : ¬ (L : Int) > 8000 := by omega
  clear hM hL
  go_enter Tryz.func7, Tryz.ntmps7
  go_wp2_with (first
    | (go_at_call 11; have tok := LV; refine (LV.out _).mono ?_; rintro e u1 ⟨rfl, b1⟩; clear tok; rw [← HW.out] at b1; have D1 := hide b1; obtain ⟨p0, p1, p2, p3, r0, r1, r2, r3, r4⟩ := HC.out _ D1.out; clear LV b1)
    | (go_at_call 21; have tok := S1; refine (S1.out _ D1.out).mono ?_; rintro e u2 ⟨rfl, b2⟩; clear tok; have D2 := hide (D1.out.trans (b2.mono D1.out.size)); clear p0 p1 p2 p3 r0 r1 r2 r3 r4; obtain ⟨p0, p1, p2, p3, r0, r1, r2, r3, r4⟩ := HC.out _ D2.out; clear S1 b2 D1)
    | (go_at_call 21; have tok := S2; refine (S2.out _ D2.out).mono ?_; rintro e u3 ⟨rfl, b3⟩; clear tok; have D3 := hide (D2.out.trans (b3.mono D2.out.size)); clear p0 p1 p2 p3 r0 r1 r2 r3 r4; obtain ⟨p0, p1, p2, p3, r0, r1, r2, r3, r4⟩ := HC.out _ D3.out; clear S2 b3 D2)
    | (go_at_call 20; have tok := CK; refine (CK.out _ D3.out).mono ?_; rintro e u4 ⟨rfl, b4⟩; clear tok; have D4 := hide (D3.out.trans (b4.mono D3.out.size)); clear p0 p1 p2 p3 r0 r1 r2 r3 r4; obtain ⟨p0, p1, p2, p3, r0, r1, r2, r3, r4⟩ := HC.out _ D4.out; clear CK b4 D3)
    | (go_at_call 31; have tok := FR; refine (FR.out _ D4.out).mono ?_; rintro e u5 ⟨fa, fc, rfl, HF5, b5⟩; clear tok; have D5 := hide (D4.out.trans (b5.mono D4.out.size)); clear p0 p1 p2 p3 r0 r1 r2 r3 r4; obtain ⟨p0, p1, p2, p3, r0, r1, r2, r3, r4⟩ := HC.out _ D5.out; clear FR b5 D4)
    | (go_at_call 25; have tok := BH; refine (BH.out _ _ _ D5.out HF5).mono ?_; rintro e u6 ⟨ga, gc, rfl, HG6, b6⟩; clear tok; have b6x := b6.alloc b6.size (vO (.slice ga N gc) v.log v.seq v.next); have D6 := hide (D5.out.trans (b6x.mono D5.out.size)); obtain ⟨n0, n1, n2, n3, _⟩ := slot4 (World.alloc_heap_new u6 (vO (.slice ga N gc) v.log v.seq v.next)); have HG7 : Hid (MtsAt (u6.alloc (vO (.slice ga N gc) v.log v.seq v.next)) (.slice ga N gc) v.tabs) := HG6.out.later ((Below.refl _ _).alloc (Nat.le_refl _) _); clear p0 p1 p2 p3 r0 r1 r2 r3 r4; obtain ⟨p0, p1, p2, p3, r0, r1, r2, r3, r4⟩ := HC.out _ D6.out; clear BH b6 b6x D5 HF5 HG6)
    | (go_at_call 33; have tok := SV; refine (SV.out _ _ _ D6.out HG7).mono ?_; rintro e u7 ⟨rfl, b7⟩; clear tok; have D7 := hide (D6.out.trans (b7.mono D6.out.size)); clear p0 p1 p2 p3 r0 r1 r2 r3 r4; obtain ⟨p0, p1, p2, p3, r0, r1, r2, r3, r4⟩ := HC.out _ D7.out; clear SV b7 D6 HG7 n0 n1 n2 n3)
    | (go_at_call 27; have tok := EN; refine (EN.out _ D7.out).mono ?_; rintro e u8 ⟨eg, en, ec, rfl, HE8, b8⟩; clear tok; have D8 := hide (D7.out.trans (b8.mono D7.out.size)); clear p0 p1 p2 p3 r0 r1 r2 r3 r4; obtain ⟨p0, p1, p2, p3, r0, r1, r2, r3, r4⟩ := HC.out _ D8.out; clear EN b8 D7)
    | (go_at_call 29; have tok := DC; refine (DC.out _ _ _ _ D8.out HE8).mono ?_; rintro e u9 ⟨ya, yc, za, zc, rfl, HY, HZ, b9⟩; clear tok; have b9x := b9.alloc b9.size (eO (.slice ya M yc) (.slice za K zc) x.log x.seq x.next); have D9 := hide (D8.out.trans (b9x.mono D8.out.size)); obtain ⟨m0, m1, m2, m3, m4, _⟩ := slot5 (World.alloc_heap_new u9 (eO (.slice ya M yc) (.slice za K zc) x.log x.seq x.next)); have HY9 : Hid (IzAt (u9.alloc (eO (.slice ya M yc) (.slice za K zc) x.log x.seq x.next)) (.slice ya M yc) x.drops) := HY.out.later ((Below.refl _ _).alloc (Nat.le_refl _) _); have HZ9 : Hid (MtsAt (u9.alloc (eO (.slice ya M yc) (.slice za K zc) x.log x.seq x.next)) (.slice za K zc) x.adds) := HZ.out.later ((Below.refl _ _).alloc (Nat.le_refl _) _); clear p0 p1 p2 p3 r0 r1 r2 r3 r4; obtain ⟨p0, p1, p2, p3, r0, r1, r2, r3, r4⟩ := HC.out _ D9.out; clear DC b9 b9x D8 HE8 HY HZ)
    | (go_at_call 35; have tok := SE; refine (SE.out _ _ _ _ _ D9.out HY9 HZ9).mono ?_; rintro e v1 ⟨rfl, b10⟩; clear tok; have D10 := hide (D9.out.trans (b10.mono D9.out.size)); clear p0 p1 p2 p3 r0 r1 r2 r3 r4; obtain ⟨p0, p1, p2, p3, r0, r1, r2, r3, r4⟩ := HC.out _ D10.out; clear SE b10 D9 HY9 HZ9 m0 m1 m2 m3 m4)
    | (go_at_call 29; have tok := DB; refine (DB.out _ D10.out).mono ?_; rintro e v2 ⟨rfl, b11⟩; clear tok; have b11x := b11.alloc b11.size (eO (.slice none 0 0) (.slice none 0 0) 0 0 0); have D12 := hide (D10.out.trans (b11x.mono D10.out.size)); obtain ⟨o0, o1, o2, o3, o4, _⟩ := slot5 (World.alloc_heap_new v2 (eO (.slice none 0 0) (.slice none 0 0) 0 0 0)); clear p0 p1 p2 p3 r0 r1 r2 r3 r4; clear DB b11 b11x D10)
    | (go_at_call 35; have tok := SZ; refine (SZ.out _).mono ?_; rintro e v4 ⟨rfl, b13⟩; clear tok; have D13 := hide (D12.out.trans (b13.mono D12.out.size)); clear SZ b13 D12))
  go_ret
  exact ⟨rfl, HB0.out.trans (D13.out.mono HB0.out.size)⟩

set_option maxRecDepth 100000 in
set_option maxHeartbeats 4000000 in
theorem way101 (w W : World) (ta a2 a3 ba : Option Addr) (tc c2 c3 bc N M K L : Nat) (v : Mf.Vn) (x : Mf.Ed) (y : Mf.Ed) (b : Mf.Bs) (M2 K2 : Nat) (E : Int) (HW : Hid (W = (w.alloc (vO (.slice ta N tc) v.log v.seq v.next)).alloc (eO (.slice a2 M c2) (.slice a3 K c3) x.log x.seq x.next))) (hM : (M : Int) ≤ 60) (hL : (L : Int) ≤ 8000)
    (LV : Hid (∀ wx, Calls Tryz.prog 11 #[] wx fun r w' => r = .returned (.bool true) ∧ Below wx.heap.size wx w'))
    (S1 : Hid (∀ wx, Below W.heap.size W wx → Calls Tryz.prog 21 #[.slice ta N tc] wx fun r w' => r = .returned (.bool true) ∧ Below wx.heap.size wx w'))
    (S2 : Hid (∀ wx, Below W.heap.size W wx → Calls Tryz.prog 21 #[.slice a3 K c3] wx fun r w' => r = .returned (.bool true) ∧ Below wx.heap.size wx w'))
    (CK : Hid (∀ wx, Below W.heap.size W wx → Calls Tryz.prog 20 #[vv (.slice ta N tc) v.log v.seq v.next] wx fun r w' => r = .returned (.int .i64 0) ∧ Below wx.heap.size wx w'))
    (FR : Hid (∀ wx, Below W.heap.size W wx → Calls Tryz.prog 31 #[vv (.slice ta N tc) v.log v.seq v.next] wx fun r w' => ∃ fa fc, r = .returned (ev (.slice none 0 0) (.slice fa N fc) v.log v.seq v.next) ∧ Hid (MtsAt w' (.slice fa N fc) v.tabs) ∧ Below wx.heap.size wx w'))
    (BH : Hid (∀ wx fa fc, Below W.heap.size W wx → Hid (MtsAt wx (.slice fa N fc) v.tabs) → Calls Tryz.prog 25 #[vv (.slice none 0 0) 1 0 1, ev (.slice none 0 0) (.slice fa N fc) v.log v.seq v.next] wx fun r w' => ∃ ga gc, r = .returned (.tuple #[vv (.slice ga N gc) v.log v.seq v.next, .int .i64 0]) ∧ Hid (MtsAt w' (.slice ga N gc) v.tabs) ∧ Below wx.heap.size wx w'))
    (SV : Hid (∀ wx ga gc, Below W.heap.size W wx → Hid (MtsAt wx (.slice ga N gc) v.tabs) → Calls Tryz.prog 33 #[vv (.slice ta N tc) v.log v.seq v.next, vv (.slice ga N gc) v.log v.seq v.next] wx fun r w' => r = .returned (.bool true) ∧ Below wx.heap.size wx w'))
    (EN : Hid (∀ wx, Below W.heap.size W wx → Calls Tryz.prog 27 #[ev (.slice a2 M c2) (.slice a3 K c3) x.log x.seq x.next] wx fun r w' => r = .returned (.tuple #[.slice none 0 0, .int .i64 E]) ∧ Below wx.heap.size wx w')) (hE : (E == 0) = false)
    (DB : Hid (∀ wx, Below W.heap.size W wx → Calls Tryz.prog 29 #[.slice ba L bc] wx fun r w' => ∃ ya yc za zc, r = .returned (.tuple #[ev (.slice ya M2 yc) (.slice za K2 zc) y.log y.seq y.next, .int .i64 0]) ∧ Hid (IzAt w' (.slice ya M2 yc) y.drops) ∧ Hid (MtsAt w' (.slice za K2 zc) y.adds) ∧ Below wx.heap.size wx w'))
    (EY : Hid (∀ wx ya yc za zc, Below W.heap.size W wx → Hid (IzAt wx (.slice ya M2 yc) y.drops) → Hid (MtsAt wx (.slice za K2 zc) y.adds) → Calls Tryz.prog 27 #[ev (.slice ya M2 yc) (.slice za K2 zc) y.log y.seq y.next] wx fun r w' => ∃ g n c, r = .returned (.tuple #[.slice (some ⟨g, 0, none⟩) n c, .int .i64 0]) ∧ Hid (BytesIn w' (.slice (some ⟨g, 0, none⟩) n c) b) ∧ Below wx.heap.size wx w'))
    (SB : Hid (∀ wx g n c, Below W.heap.size W wx → Hid (BytesIn wx (.slice (some ⟨g, 0, none⟩) n c) b) → Calls Tryz.prog 34 #[.slice (some ⟨g, 0, none⟩) n c, .slice ba L bc] wx fun r w' => r = .returned (.bool true) ∧ Below wx.heap.size wx w'))
    : Calls Tryz.prog 7 #[vv (.slice ta N tc) v.log v.seq v.next, ev (.slice a2 M c2) (.slice a3 K c3) x.log x.seq x.next, .slice ba L bc] w fun r w' => r = .returned (.bool true) ∧ Below w.heap.size w w' := by
  have HB0 : Hid (Below w.heap.size w W) := by show Below _ _ _; rw [HW.out]; exact ((Below.refl _ _).alloc (Nat.le_refl _) _).alloc (by simp) _
  have HC : Hid (∀ wx, Below W.heap.size W wx → wx.cell? ⟨w.heap.size, 0, none⟩ = some (.slice ta N tc) ∧ wx.cell? ⟨w.heap.size, 1, none⟩ = some (.int .i64 v.log) ∧ wx.cell? ⟨w.heap.size, 2, none⟩ = some (.int .i64 v.seq) ∧ wx.cell? ⟨w.heap.size, 3, none⟩ = some (.int .i64 v.next) ∧ wx.cell? ⟨w.heap.size + 1, 0, none⟩ = some (.slice a2 M c2) ∧ wx.cell? ⟨w.heap.size + 1, 1, none⟩ = some (.slice a3 K c3) ∧ wx.cell? ⟨w.heap.size + 1, 2, none⟩ = some (.int .i64 x.log) ∧ wx.cell? ⟨w.heap.size + 1, 3, none⟩ = some (.int .i64 x.seq) ∧ wx.cell? ⟨w.heap.size + 1, 4, none⟩ = some (.int .i64 x.next)) := fun wx hx => by
    have q0 : W.heap[w.heap.size]? = some (vO (.slice ta N tc) v.log v.seq v.next) := by rw [HW.out]; exact (Below.heap_alloc _ _ _ (by simp)).trans (World.alloc_heap_new w _)
    have q1 : W.heap[w.heap.size + 1]? = some (eO (.slice a2 M c2) (.slice a3 K c3) x.log x.seq x.next) := by
      rw [HW.out]
      have := World.alloc_heap_new (w.alloc (vO (.slice ta N tc) v.log v.seq v.next)) (eO (.slice a2 M c2) (.slice a3 K c3) x.log x.seq x.next)
      rw [World.size_alloc] at this
      exact this
    obtain ⟨p0, p1, p2, p3, _⟩ := slot4 ((hx.block _ (Array.getElem?_eq_some_iff.1 q0).1).trans q0)
    obtain ⟨r0, r1, r2, r3, r4, _⟩ := slot5 ((hx.block _ (Array.getElem?_eq_some_iff.1 q1).1).trans q1)
    exact ⟨p0, p1, p2, p3, r0, r1, r2, r3, r4⟩
  have iM : ¬ (M : Int) > 60 := by omega
  have iL : ¬ (L : Int) > 8000 := by omega
  clear hM hL
  go_enter Tryz.func7, Tryz.ntmps7
  go_wp2_with (first
    | (go_at_call 11; have tok := LV; refine (LV.out _).mono ?_; rintro e u1 ⟨rfl, b1⟩; clear tok; rw [← HW.out] at b1; have D1 := hide b1; obtain ⟨p0, p1, p2, p3, r0, r1, r2, r3, r4⟩ := HC.out _ D1.out; clear LV b1)
    | (go_at_call 21; have tok := S1; refine (S1.out _ D1.out).mono ?_; rintro e u2 ⟨rfl, b2⟩; clear tok; have D2 := hide (D1.out.trans (b2.mono D1.out.size)); clear p0 p1 p2 p3 r0 r1 r2 r3 r4; obtain ⟨p0, p1, p2, p3, r0, r1, r2, r3, r4⟩ := HC.out _ D2.out; clear S1 b2 D1)
    | (go_at_call 21; have tok := S2; refine (S2.out _ D2.out).mono ?_; rintro e u3 ⟨rfl, b3⟩; clear tok; have D3 := hide (D2.out.trans (b3.mono D2.out.size)); clear p0 p1 p2 p3 r0 r1 r2 r3 r4; obtain ⟨p0, p1, p2, p3, r0, r1, r2, r3, r4⟩ := HC.out _ D3.out; clear S2 b3 D2)
    | (go_at_call 20; have tok := CK; refine (CK.out _ D3.out).mono ?_; rintro e u4 ⟨rfl, b4⟩; clear tok; have D4 := hide (D3.out.trans (b4.mono D3.out.size)); clear p0 p1 p2 p3 r0 r1 r2 r3 r4; obtain ⟨p0, p1, p2, p3, r0, r1, r2, r3, r4⟩ := HC.out _ D4.out; clear CK b4 D3)
    | (go_at_call 31; have tok := FR; refine (FR.out _ D4.out).mono ?_; rintro e u5 ⟨fa, fc, rfl, HF5, b5⟩; clear tok; have D5 := hide (D4.out.trans (b5.mono D4.out.size)); clear p0 p1 p2 p3 r0 r1 r2 r3 r4; obtain ⟨p0, p1, p2, p3, r0, r1, r2, r3, r4⟩ := HC.out _ D5.out; clear FR b5 D4)
    | (go_at_call 25; have tok := BH; refine (BH.out _ _ _ D5.out HF5).mono ?_; rintro e u6 ⟨ga, gc, rfl, HG6, b6⟩; clear tok; have b6x := b6.alloc b6.size (vO (.slice ga N gc) v.log v.seq v.next); have D6 := hide (D5.out.trans (b6x.mono D5.out.size)); obtain ⟨n0, n1, n2, n3, _⟩ := slot4 (World.alloc_heap_new u6 (vO (.slice ga N gc) v.log v.seq v.next)); have HG7 : Hid (MtsAt (u6.alloc (vO (.slice ga N gc) v.log v.seq v.next)) (.slice ga N gc) v.tabs) := HG6.out.later ((Below.refl _ _).alloc (Nat.le_refl _) _); clear p0 p1 p2 p3 r0 r1 r2 r3 r4; obtain ⟨p0, p1, p2, p3, r0, r1, r2, r3, r4⟩ := HC.out _ D6.out; clear BH b6 b6x D5 HF5 HG6)
    | (go_at_call 33; have tok := SV; refine (SV.out _ _ _ D6.out HG7).mono ?_; rintro e u7 ⟨rfl, b7⟩; clear tok; have D7 := hide (D6.out.trans (b7.mono D6.out.size)); clear p0 p1 p2 p3 r0 r1 r2 r3 r4; obtain ⟨p0, p1, p2, p3, r0, r1, r2, r3, r4⟩ := HC.out _ D7.out; clear SV b7 D6 HG7 n0 n1 n2 n3)
    | (go_at_call 27; have tok := EN; refine (EN.out _ D7.out).mono ?_; rintro e u8 ⟨rfl, b8⟩; clear tok; have D10 := hide (D7.out.trans (b8.mono D7.out.size)); clear p0 p1 p2 p3 r0 r1 r2 r3 r4; obtain ⟨p0, p1, p2, p3, r0, r1, r2, r3, r4⟩ := HC.out _ D10.out; clear EN b8 D7)
    | (go_at_call 29; have tok := DB; refine (DB.out _ D10.out).mono ?_; rintro e v2 ⟨ya2, yc2, za2, zc2, rfl, HY2, HZ2, b11⟩; clear tok; have b11x := b11.alloc b11.size (eO (.slice ya2 M2 yc2) (.slice za2 K2 zc2) y.log y.seq y.next); have D11 := hide (D10.out.trans (b11x.mono D10.out.size)); obtain ⟨o0, o1, o2, o3, o4, _⟩ := slot5 (World.alloc_heap_new v2 (eO (.slice ya2 M2 yc2) (.slice za2 K2 zc2) y.log y.seq y.next)); have HY3 : Hid (IzAt (v2.alloc (eO (.slice ya2 M2 yc2) (.slice za2 K2 zc2) y.log y.seq y.next)) (.slice ya2 M2 yc2) y.drops) := HY2.out.later ((Below.refl _ _).alloc (Nat.le_refl _) _); have HZ3 : Hid (MtsAt (v2.alloc (eO (.slice ya2 M2 yc2) (.slice za2 K2 zc2) y.log y.seq y.next)) (.slice za2 K2 zc2) y.adds) := HZ2.out.later ((Below.refl _ _).alloc (Nat.le_refl _) _); clear p0 p1 p2 p3 r0 r1 r2 r3 r4; clear DB b11 b11x D10 HY2 HZ2)
    | (go_at_call 27; have tok := EY; refine (EY.out _ _ _ _ _ D11.out HY3 HZ3).mono ?_; rintro e v3 ⟨eg2, en2, ec2, rfl, HE2, b12⟩; clear tok; have D12 := hide (D11.out.trans (b12.mono D11.out.size)); clear EY b12 D11 HY3 HZ3)
    | (go_at_call 34; have tok := SB; refine (SB.out _ _ _ _ D12.out HE2).mono ?_; rintro e v4 ⟨rfl, b13⟩; clear tok; have D13 := hide (D12.out.trans (b13.mono D12.out.size)); clear SB b13 D12 HE2))
  go_ret
  exact ⟨rfl, HB0.out.trans (D13.out.mono HB0.out.size)⟩

set_option maxRecDepth 100000 in
set_option maxHeartbeats 4000000 in
theorem way100 (w W : World) (ta a2 a3 ba : Option Addr) (tc c2 c3 bc N M K L : Nat) (v : Mf.Vn) (x : Mf.Ed) (E : Int) (HW : Hid (W = (w.alloc (vO (.slice ta N tc) v.log v.seq v.next)).alloc (eO (.slice a2 M c2) (.slice a3 K c3) x.log x.seq x.next))) (hM : (M : Int) ≤ 60) (hL : (L : Int) ≤ 8000)
    (LV : Hid (∀ wx, Calls Tryz.prog 11 #[] wx fun r w' => r = .returned (.bool true) ∧ Below wx.heap.size wx w'))
    (S1 : Hid (∀ wx, Below W.heap.size W wx → Calls Tryz.prog 21 #[.slice ta N tc] wx fun r w' => r = .returned (.bool true) ∧ Below wx.heap.size wx w'))
    (S2 : Hid (∀ wx, Below W.heap.size W wx → Calls Tryz.prog 21 #[.slice a3 K c3] wx fun r w' => r = .returned (.bool true) ∧ Below wx.heap.size wx w'))
    (CK : Hid (∀ wx, Below W.heap.size W wx → Calls Tryz.prog 20 #[vv (.slice ta N tc) v.log v.seq v.next] wx fun r w' => r = .returned (.int .i64 0) ∧ Below wx.heap.size wx w'))
    (FR : Hid (∀ wx, Below W.heap.size W wx → Calls Tryz.prog 31 #[vv (.slice ta N tc) v.log v.seq v.next] wx fun r w' => ∃ fa fc, r = .returned (ev (.slice none 0 0) (.slice fa N fc) v.log v.seq v.next) ∧ Hid (MtsAt w' (.slice fa N fc) v.tabs) ∧ Below wx.heap.size wx w'))
    (BH : Hid (∀ wx fa fc, Below W.heap.size W wx → Hid (MtsAt wx (.slice fa N fc) v.tabs) → Calls Tryz.prog 25 #[vv (.slice none 0 0) 1 0 1, ev (.slice none 0 0) (.slice fa N fc) v.log v.seq v.next] wx fun r w' => ∃ ga gc, r = .returned (.tuple #[vv (.slice ga N gc) v.log v.seq v.next, .int .i64 0]) ∧ Hid (MtsAt w' (.slice ga N gc) v.tabs) ∧ Below wx.heap.size wx w'))
    (SV : Hid (∀ wx ga gc, Below W.heap.size W wx → Hid (MtsAt wx (.slice ga N gc) v.tabs) → Calls Tryz.prog 33 #[vv (.slice ta N tc) v.log v.seq v.next, vv (.slice ga N gc) v.log v.seq v.next] wx fun r w' => r = .returned (.bool true) ∧ Below wx.heap.size wx w'))
    (EN : Hid (∀ wx, Below W.heap.size W wx → Calls Tryz.prog 27 #[ev (.slice a2 M c2) (.slice a3 K c3) x.log x.seq x.next] wx fun r w' => r = .returned (.tuple #[.slice none 0 0, .int .i64 E]) ∧ Below wx.heap.size wx w')) (hE : (E == 0) = false)
    (DB : Hid (∀ wx, Below W.heap.size W wx → Calls Tryz.prog 29 #[.slice ba L bc] wx fun r w' => r = .returned (.tuple #[ev (.slice none 0 0) (.slice none 0 0) 0 0 0, .int .i64 5]) ∧ Below wx.heap.size wx w'))
    (SZ : Hid (∀ wx, Calls Tryz.prog 35 #[ev (.slice none 0 0) (.slice none 0 0) 0 0 0, ev (.slice none 0 0) (.slice none 0 0) 0 0 0] wx fun r w' => r = .returned (.bool true) ∧ Below wx.heap.size wx w'))
    : Calls Tryz.prog 7 #[vv (.slice ta N tc) v.log v.seq v.next, ev (.slice a2 M c2) (.slice a3 K c3) x.log x.seq x.next, .slice ba L bc] w fun r w' => r = .returned (.bool true) ∧ Below w.heap.size w w' := by
  have HB0 : Hid (Below w.heap.size w W) := by show Below _ _ _; rw [HW.out]; exact ((Below.refl _ _).alloc (Nat.le_refl _) _).alloc (by simp) _
  have HC : Hid (∀ wx, Below W.heap.size W wx → wx.cell? ⟨w.heap.size, 0, none⟩ = some (.slice ta N tc) ∧ wx.cell? ⟨w.heap.size, 1, none⟩ = some (.int .i64 v.log) ∧ wx.cell? ⟨w.heap.size, 2, none⟩ = some (.int .i64 v.seq) ∧ wx.cell? ⟨w.heap.size, 3, none⟩ = some (.int .i64 v.next) ∧ wx.cell? ⟨w.heap.size + 1, 0, none⟩ = some (.slice a2 M c2) ∧ wx.cell? ⟨w.heap.size + 1, 1, none⟩ = some (.slice a3 K c3) ∧ wx.cell? ⟨w.heap.size + 1, 2, none⟩ = some (.int .i64 x.log) ∧ wx.cell? ⟨w.heap.size + 1, 3, none⟩ = some (.int .i64 x.seq) ∧ wx.cell? ⟨w.heap.size + 1, 4, none⟩ = some (.int .i64 x.next)) := fun wx hx => by
    have q0 : W.heap[w.heap.size]? = some (vO (.slice ta N tc) v.log v.seq v.next) := by rw [HW.out]; exact (Below.heap_alloc _ _ _ (by simp)).trans (World.alloc_heap_new w _)
    have q1 : W.heap[w.heap.size + 1]? = some (eO (.slice a2 M c2) (.slice a3 K c3) x.log x.seq x.next) := by
      rw [HW.out]
      have := World.alloc_heap_new (w.alloc (vO (.slice ta N tc) v.log v.seq v.next)) (eO (.slice a2 M c2) (.slice a3 K c3) x.log x.seq x.next)
      rw [World.size_alloc] at this
      exact this
    obtain ⟨p0, p1, p2, p3, _⟩ := slot4 ((hx.block _ (Array.getElem?_eq_some_iff.1 q0).1).trans q0)
    obtain ⟨r0, r1, r2, r3, r4, _⟩ := slot5 ((hx.block _ (Array.getElem?_eq_some_iff.1 q1).1).trans q1)
    exact ⟨p0, p1, p2, p3, r0, r1, r2, r3, r4⟩
  have iM : ¬ (M : Int) > 60 := by omega
  have iL : ¬ (L : Int) > 8000 := by omega
  clear hM hL
  go_enter Tryz.func7, Tryz.ntmps7
  go_wp2_with (first
    | (go_at_call 11; have tok := LV; refine (LV.out _).mono ?_; rintro e u1 ⟨rfl, b1⟩; clear tok; rw [← HW.out] at b1; have D1 := hide b1; obtain ⟨p0, p1, p2, p3, r0, r1, r2, r3, r4⟩ := HC.out _ D1.out; clear LV b1)
    | (go_at_call 21; have tok := S1; refine (S1.out _ D1.out).mono ?_; rintro e u2 ⟨rfl, b2⟩; clear tok; have D2 := hide (D1.out.trans (b2.mono D1.out.size)); clear p0 p1 p2 p3 r0 r1 r2 r3 r4; obtain ⟨p0, p1, p2, p3, r0, r1, r2, r3, r4⟩ := HC.out _ D2.out; clear S1 b2 D1)
    | (go_at_call 21; have tok := S2; refine (S2.out _ D2.out).mono ?_; rintro e u3 ⟨rfl, b3⟩; clear tok; have D3 := hide (D2.out.trans (b3.mono D2.out.size)); clear p0 p1 p2 p3 r0 r1 r2 r3 r4; obtain ⟨p0, p1, p2, p3, r0, r1, r2, r3, r4⟩ := HC.out _ D3.out; clear S2 b3 D2)
    | (go_at_call 20; have tok := CK; refine (CK.out _ D3.out).mono ?_; rintro e u4 ⟨rfl, b4⟩; clear tok; have D4 := hide (D3.out.trans (b4.mono D3.out.size)); clear p0 p1 p2 p3 r0 r1 r2 r3 r4; obtain ⟨p0, p1, p2, p3, r0, r1, r2, r3, r4⟩ := HC.out _ D4.out; clear CK b4 D3)
    | (go_at_call 31; have tok := FR; refine (FR.out _ D4.out).mono ?_; rintro e u5 ⟨fa, fc, rfl, HF5, b5⟩; clear tok; have D5 := hide (D4.out.trans (b5.mono D4.out.size)); clear p0 p1 p2 p3 r0 r1 r2 r3 r4; obtain ⟨p0, p1, p2, p3, r0, r1, r2, r3, r4⟩ := HC.out _ D5.out; clear FR b5 D4)
    | (go_at_call 25; have tok := BH; refine (BH.out _ _ _ D5.out HF5).mono ?_; rintro e u6 ⟨ga, gc, rfl, HG6, b6⟩; clear tok; have b6x := b6.alloc b6.size (vO (.slice ga N gc) v.log v.seq v.next); have D6 := hide (D5.out.trans (b6x.mono D5.out.size)); obtain ⟨n0, n1, n2, n3, _⟩ := slot4 (World.alloc_heap_new u6 (vO (.slice ga N gc) v.log v.seq v.next)); have HG7 : Hid (MtsAt (u6.alloc (vO (.slice ga N gc) v.log v.seq v.next)) (.slice ga N gc) v.tabs) := HG6.out.later ((Below.refl _ _).alloc (Nat.le_refl _) _); clear p0 p1 p2 p3 r0 r1 r2 r3 r4; obtain ⟨p0, p1, p2, p3, r0, r1, r2, r3, r4⟩ := HC.out _ D6.out; clear BH b6 b6x D5 HF5 HG6)
    | (go_at_call 33; have tok := SV; refine (SV.out _ _ _ D6.out HG7).mono ?_; rintro e u7 ⟨rfl, b7⟩; clear tok; have D7 := hide (D6.out.trans (b7.mono D6.out.size)); clear p0 p1 p2 p3 r0 r1 r2 r3 r4; obtain ⟨p0, p1, p2, p3, r0, r1, r2, r3, r4⟩ := HC.out _ D7.out; clear SV b7 D6 HG7 n0 n1 n2 n3)
    | (go_at_call 27; have tok := EN; refine (EN.out _ D7.out).mono ?_; rintro e u8 ⟨rfl, b8⟩; clear tok; have D10 := hide (D7.out.trans (b8.mono D7.out.size)); clear p0 p1 p2 p3 r0 r1 r2 r3 r4; obtain ⟨p0, p1, p2, p3, r0, r1, r2, r3, r4⟩ := HC.out _ D10.out; clear EN b8 D7)
    | (go_at_call 29; have tok := DB; refine (DB.out _ D10.out).mono ?_; rintro e v2 ⟨rfl, b11⟩; clear tok; have b11x := b11.alloc b11.size (eO (.slice none 0 0) (.slice none 0 0) 0 0 0); have D12 := hide (D10.out.trans (b11x.mono D10.out.size)); obtain ⟨o0, o1, o2, o3, o4, _⟩ := slot5 (World.alloc_heap_new v2 (eO (.slice none 0 0) (.slice none 0 0) 0 0 0)); clear p0 p1 p2 p3 r0 r1 r2 r3 r4; clear DB b11 b11x D10)
    | (go_at_call 35; have tok := SZ; refine (SZ.out _).mono ?_; rintro e v4 ⟨rfl, b13⟩; clear tok; have D13 := hide (D12.out.trans (b13.mono D12.out.size)); clear SZ b13 D12))
  go_ret
  exact ⟨rfl, HB0.out.trans (D13.out.mono HB0.out.size)⟩

set_option maxRecDepth 100000 in
set_option maxHeartbeats 4000000 in
theorem way011 (w W : World) (ta a2 a3 ba : Option Addr) (tc c2 c3 bc N M K L : Nat) (v : Mf.Vn) (x : Mf.Ed) (y : Mf.Ed) (b : Mf.Bs) (M2 K2 : Nat) (HW : Hid (W = (w.alloc (vO (.slice ta N tc) v.log v.seq v.next)).alloc (eO (.slice a2 M c2) (.slice a3 K c3) x.log x.seq x.next))) (hM : (M : Int) ≤ 60) (hL : (L : Int) ≤ 8000)
    (LV : Hid (∀ wx, Calls Tryz.prog 11 #[] wx fun r w' => r = .returned (.bool true) ∧ Below wx.heap.size wx w'))
    (S1 : Hid (∀ wx, Below W.heap.size W wx → Calls Tryz.prog 21 #[.slice ta N tc] wx fun r w' => r = .returned (.bool true) ∧ Below wx.heap.size wx w'))
    (S2 : Hid (∀ wx, Below W.heap.size W wx → Calls Tryz.prog 21 #[.slice a3 K c3] wx fun r w' => r = .returned (.bool true) ∧ Below wx.heap.size wx w'))
    (CK : Hid (∀ wx, Below W.heap.size W wx → Calls Tryz.prog 20 #[vv (.slice ta N tc) v.log v.seq v.next] wx fun r w' => r = .returned (.int .i64 2) ∧ Below wx.heap.size wx w'))
    (EN : Hid (∀ wx, Below W.heap.size W wx → Calls Tryz.prog 27 #[ev (.slice a2 M c2) (.slice a3 K c3) x.log x.seq x.next] wx fun r w' => ∃ g n c, r = .returned (.tuple #[.slice (some ⟨g, 0, none⟩) n c, .int .i64 0]) ∧ Hid (n ≤ c ∧ BytesIn w' (.slice (some ⟨g, 0, none⟩) n c) (Mf.recB x) ∧ n = (Mf.recB x).length) ∧ Below wx.heap.size wx w'))
    (DC : Hid (∀ wx g n c, Below W.heap.size W wx → Hid (n ≤ c ∧ BytesIn wx (.slice (some ⟨g, 0, none⟩) n c) (Mf.recB x) ∧ n = (Mf.recB x).length) → Calls Tryz.prog 29 #[.slice (some ⟨g, 0, none⟩) n c] wx fun r w' => ∃ ya yc za zc, r = .returned (.tuple #[ev (.slice ya M yc) (.slice za K zc) x.log x.seq x.next, .int .i64 0]) ∧ Hid (IzAt w' (.slice ya M yc) x.drops) ∧ Hid (MtsAt w' (.slice za K zc) x.adds) ∧ Below wx.heap.size wx w'))
    (SE : Hid (∀ wx ya yc za zc, Below W.heap.size W wx → Hid (IzAt wx (.slice ya M yc) x.drops) → Hid (MtsAt wx (.slice za K zc) x.adds) → Calls Tryz.prog 35 #[ev (.slice a2 M c2) (.slice a3 K c3) x.log x.seq x.next, ev (.slice ya M yc) (.slice za K zc) x.log x.seq x.next] wx fun r w' => r = .returned (.bool true) ∧ Below wx.heap.size wx w'))
    (DB : Hid (∀ wx, Below W.heap.size W wx → Calls Tryz.prog 29 #[.slice ba L bc] wx fun r w' => ∃ ya yc za zc, r = .returned (.tuple #[ev (.slice ya M2 yc) (.slice za K2 zc) y.log y.seq y.next, .int .i64 0]) ∧ Hid (IzAt w' (.slice ya M2 yc) y.drops) ∧ Hid (MtsAt w' (.slice za K2 zc) y.adds) ∧ Below wx.heap.size wx w'))
    (EY : Hid (∀ wx ya yc za zc, Below W.heap.size W wx → Hid (IzAt wx (.slice ya M2 yc) y.drops) → Hid (MtsAt wx (.slice za K2 zc) y.adds) → Calls Tryz.prog 27 #[ev (.slice ya M2 yc) (.slice za K2 zc) y.log y.seq y.next] wx fun r w' => ∃ g n c, r = .returned (.tuple #[.slice (some ⟨g, 0, none⟩) n c, .int .i64 0]) ∧ Hid (BytesIn w' (.slice (some ⟨g, 0, none⟩) n c) b) ∧ Below wx.heap.size wx w'))
    (SB : Hid (∀ wx g n c, Below W.heap.size W wx → Hid (BytesIn wx (.slice (some ⟨g, 0, none⟩) n c) b) → Calls Tryz.prog 34 #[.slice (some ⟨g, 0, none⟩) n c, .slice ba L bc] wx fun r w' => r = .returned (.bool true) ∧ Below wx.heap.size wx w'))
    : Calls Tryz.prog 7 #[vv (.slice ta N tc) v.log v.seq v.next, ev (.slice a2 M c2) (.slice a3 K c3) x.log x.seq x.next, .slice ba L bc] w fun r w' => r = .returned (.bool true) ∧ Below w.heap.size w w' := by
  have HB0 : Hid (Below w.heap.size w W) := by show Below _ _ _; rw [HW.out]; exact ((Below.refl _ _).alloc (Nat.le_refl _) _).alloc (by simp) _
  have HC : Hid (∀ wx, Below W.heap.size W wx → wx.cell? ⟨w.heap.size, 0, none⟩ = some (.slice ta N tc) ∧ wx.cell? ⟨w.heap.size, 1, none⟩ = some (.int .i64 v.log) ∧ wx.cell? ⟨w.heap.size, 2, none⟩ = some (.int .i64 v.seq) ∧ wx.cell? ⟨w.heap.size, 3, none⟩ = some (.int .i64 v.next) ∧ wx.cell? ⟨w.heap.size + 1, 0, none⟩ = some (.slice a2 M c2) ∧ wx.cell? ⟨w.heap.size + 1, 1, none⟩ = some (.slice a3 K c3) ∧ wx.cell? ⟨w.heap.size + 1, 2, none⟩ = some (.int .i64 x.log) ∧ wx.cell? ⟨w.heap.size + 1, 3, none⟩ = some (.int .i64 x.seq) ∧ wx.cell? ⟨w.heap.size + 1, 4, none⟩ = some (.int .i64 x.next)) := fun wx hx => by
    have q0 : W.heap[w.heap.size]? = some (vO (.slice ta N tc) v.log v.seq v.next) := by rw [HW.out]; exact (Below.heap_alloc _ _ _ (by simp)).trans (World.alloc_heap_new w _)
    have q1 : W.heap[w.heap.size + 1]? = some (eO (.slice a2 M c2) (.slice a3 K c3) x.log x.seq x.next) := by
      rw [HW.out]
      have := World.alloc_heap_new (w.alloc (vO (.slice ta N tc) v.log v.seq v.next)) (eO (.slice a2 M c2) (.slice a3 K c3) x.log x.seq x.next)
      rw [World.size_alloc] at this
      exact this
    obtain ⟨p0, p1, p2, p3, _⟩ := slot4 ((hx.block _ (Array.getElem?_eq_some_iff.1 q0).1).trans q0)
    obtain ⟨r0, r1, r2, r3, r4, _⟩ := slot5 ((hx.block _ (Array.getElem?_eq_some_iff.1 q1).1).trans q1)
    exact ⟨p0, p1, p2, p3, r0, r1, r2, r3, r4⟩
  have iM : ¬ (M : Int) > 60 := by omega
  have iL : ¬ (L : Int) > 8000 := by omega
  clear hM hL
  go_enter Tryz.func7, Tryz.ntmps7
  go_wp2_with (first
    | (go_at_call 11; have tok := LV; refine (LV.out _).mono ?_; rintro e u1 ⟨rfl, b1⟩; clear tok; rw [← HW.out] at b1; have D1 := hide b1; obtain ⟨p0, p1, p2, p3, r0, r1, r2, r3, r4⟩ := HC.out _ D1.out; clear LV b1)
    | (go_at_call 21; have tok := S1; refine (S1.out _ D1.out).mono ?_; rintro e u2 ⟨rfl, b2⟩; clear tok; have D2 := hide (D1.out.trans (b2.mono D1.out.size)); clear p0 p1 p2 p3 r0 r1 r2 r3 r4; obtain ⟨p0, p1, p2, p3, r0, r1, r2, r3, r4⟩ := HC.out _ D2.out; clear S1 b2 D1)
    | (go_at_call 21; have tok := S2; refine (S2.out _ D2.out).mono ?_; rintro e u3 ⟨rfl, b3⟩; clear tok; have D3 := hide (D2.out.trans (b3.mono D2.out.size)); clear p0 p1 p2 p3 r0 r1 r2 r3 r4; obtain ⟨p0, p1, p2, p3, r0, r1, r2, r3, r4⟩ := HC.out _ D3.out; clear S2 b3 D2)
    | (go_at_call 20; have tok := CK; refine (CK.out _ D3.out).mono ?_; rintro e u4 ⟨rfl, b4⟩; clear tok; have D4 := hide (D3.out.trans (b4.mono D3.out.size)); clear p0 p1 p2 p3 r0 r1 r2 r3 r4; obtain ⟨p0, p1, p2, p3, r0, r1, r2, r3, r4⟩ := HC.out _ D4.out; clear CK b4 D3)
    | (go_at_call 27; have tok := EN; refine (EN.out _ D4.out).mono ?_; rintro e u8 ⟨eg, en, ec, rfl, HE8, b8⟩; clear tok; have D8 := hide (D4.out.trans (b8.mono D4.out.size)); clear p0 p1 p2 p3 r0 r1 r2 r3 r4; obtain ⟨p0, p1, p2, p3, r0, r1, r2, r3, r4⟩ := HC.out _ D8.out; clear EN b8 D4)
    | (go_at_call 29; have tok := DC; refine (DC.out _ _ _ _ D8.out HE8).mono ?_; rintro e u9 ⟨ya, yc, za, zc, rfl, HY, HZ, b9⟩; clear tok; have b9x := b9.alloc b9.size (eO (.slice ya M yc) (.slice za K zc) x.log x.seq x.next); have D9 := hide (D8.out.trans (b9x.mono D8.out.size)); obtain ⟨m0, m1, m2, m3, m4, _⟩ := slot5 (World.alloc_heap_new u9 (eO (.slice ya M yc) (.slice za K zc) x.log x.seq x.next)); have HY9 : Hid (IzAt (u9.alloc (eO (.slice ya M yc) (.slice za K zc) x.log x.seq x.next)) (.slice ya M yc) x.drops) := HY.out.later ((Below.refl _ _).alloc (Nat.le_refl _) _); have HZ9 : Hid (MtsAt (u9.alloc (eO (.slice ya M yc) (.slice za K zc) x.log x.seq x.next)) (.slice za K zc) x.adds) := HZ.out.later ((Below.refl _ _).alloc (Nat.le_refl _) _); clear p0 p1 p2 p3 r0 r1 r2 r3 r4; obtain ⟨p0, p1, p2, p3, r0, r1, r2, r3, r4⟩ := HC.out _ D9.out; clear DC b9 b9x D8 HE8 HY HZ)
    | (go_at_call 35; have tok := SE; refine (SE.out _ _ _ _ _ D9.out HY9 HZ9).mono ?_; rintro e v1 ⟨rfl, b10⟩; clear tok; have D10 := hide (D9.out.trans (b10.mono D9.out.size)); clear p0 p1 p2 p3 r0 r1 r2 r3 r4; obtain ⟨p0, p1, p2, p3, r0, r1, r2, r3, r4⟩ := HC.out _ D10.out; clear SE b10 D9 HY9 HZ9 m0 m1 m2 m3 m4)
    | (go_at_call 29; have tok := DB; refine (DB.out _ D10.out).mono ?_; rintro e v2 ⟨ya2, yc2, za2, zc2, rfl, HY2, HZ2, b11⟩; clear tok; have b11x := b11.alloc b11.size (eO (.slice ya2 M2 yc2) (.slice za2 K2 zc2) y.log y.seq y.next); have D11 := hide (D10.out.trans (b11x.mono D10.out.size)); obtain ⟨o0, o1, o2, o3, o4, _⟩ := slot5 (World.alloc_heap_new v2 (eO (.slice ya2 M2 yc2) (.slice za2 K2 zc2) y.log y.seq y.next)); have HY3 : Hid (IzAt (v2.alloc (eO (.slice ya2 M2 yc2) (.slice za2 K2 zc2) y.log y.seq y.next)) (.slice ya2 M2 yc2) y.drops) := HY2.out.later ((Below.refl _ _).alloc (Nat.le_refl _) _); have HZ3 : Hid (MtsAt (v2.alloc (eO (.slice ya2 M2 yc2) (.slice za2 K2 zc2) y.log y.seq y.next)) (.slice za2 K2 zc2) y.adds) := HZ2.out.later ((Below.refl _ _).alloc (Nat.le_refl _) _); clear p0 p1 p2 p3 r0 r1 r2 r3 r4; clear DB b11 b11x D10 HY2 HZ2)
    | (go_at_call 27; have tok := EY; refine (EY.out _ _ _ _ _ D11.out HY3 HZ3).mono ?_; rintro e v3 ⟨eg2, en2, ec2, rfl, HE2, b12⟩; clear tok; have D12 := hide (D11.out.trans (b12.mono D11.out.size)); clear EY b12 D11 HY3 HZ3)
    | (go_at_call 34; have tok := SB; refine (SB.out _ _ _ _ D12.out HE2).mono ?_; rintro e v4 ⟨rfl, b13⟩; clear tok; have D13 := hide (D12.out.trans (b13.mono D12.out.size)); clear SB b13 D12 HE2))
  go_ret
  exact ⟨rfl, HB0.out.trans (D13.out.mono HB0.out.size)⟩

set_option maxRecDepth 100000 in
set_option maxHeartbeats 4000000 in
theorem way010 (w W : World) (ta a2 a3 ba : Option Addr) (tc c2 c3 bc N M K L : Nat) (v : Mf.Vn) (x : Mf.Ed) (HW : Hid (W = (w.alloc (vO (.slice ta N tc) v.log v.seq v.next)).alloc (eO (.slice a2 M c2) (.slice a3 K c3) x.log x.seq x.next))) (hM : (M : Int) ≤ 60) (hL : (L : Int) ≤ 8000)
    (LV : Hid (∀ wx, Calls Tryz.prog 11 #[] wx fun r w' => r = .returned (.bool true) ∧ Below wx.heap.size wx w'))
    (S1 : Hid (∀ wx, Below W.heap.size W wx → Calls Tryz.prog 21 #[.slice ta N tc] wx fun r w' => r = .returned (.bool true) ∧ Below wx.heap.size wx w'))
    (S2 : Hid (∀ wx, Below W.heap.size W wx → Calls Tryz.prog 21 #[.slice a3 K c3] wx fun r w' => r = .returned (.bool true) ∧ Below wx.heap.size wx w'))
    (CK : Hid (∀ wx, Below W.heap.size W wx → Calls Tryz.prog 20 #[vv (.slice ta N tc) v.log v.seq v.next] wx fun r w' => r = .returned (.int .i64 2) ∧ Below wx.heap.size wx w'))
    (EN : Hid (∀ wx, Below W.heap.size W wx → Calls Tryz.prog 27 #[ev (.slice a2 M c2) (.slice a3 K c3) x.log x.seq x.next] wx fun r w' => ∃ g n c, r = .returned (.tuple #[.slice (some ⟨g, 0, none⟩) n c, .int .i64 0]) ∧ Hid (n ≤ c ∧ BytesIn w' (.slice (some ⟨g, 0, none⟩) n c) (Mf.recB x) ∧ n = (Mf.recB x).length) ∧ Below wx.heap.size wx w'))
    (DC : Hid (∀ wx g n c, Below W.heap.size W wx → Hid (n ≤ c ∧ BytesIn wx (.slice (some ⟨g, 0, none⟩) n c) (Mf.recB x) ∧ n = (Mf.recB x).length) → Calls Tryz.prog 29 #[.slice (some ⟨g, 0, none⟩) n c] wx fun r w' => ∃ ya yc za zc, r = .returned (.tuple #[ev (.slice ya M yc) (.slice za K zc) x.log x.seq x.next, .int .i64 0]) ∧ Hid (IzAt w' (.slice ya M yc) x.drops) ∧ Hid (MtsAt w' (.slice za K zc) x.adds) ∧ Below wx.heap.size wx w'))
    (SE : Hid (∀ wx ya yc za zc, Below W.heap.size W wx → Hid (IzAt wx (.slice ya M yc) x.drops) → Hid (MtsAt wx (.slice za K zc) x.adds) → Calls Tryz.prog 35 #[ev (.slice a2 M c2) (.slice a3 K c3) x.log x.seq x.next, ev (.slice ya M yc) (.slice za K zc) x.log x.seq x.next] wx fun r w' => r = .returned (.bool true) ∧ Below wx.heap.size wx w'))
    (DB : Hid (∀ wx, Below W.heap.size W wx → Calls Tryz.prog 29 #[.slice ba L bc] wx fun r w' => r = .returned (.tuple #[ev (.slice none 0 0) (.slice none 0 0) 0 0 0, .int .i64 5]) ∧ Below wx.heap.size wx w'))
    (SZ : Hid (∀ wx, Calls Tryz.prog 35 #[ev (.slice none 0 0) (.slice none 0 0) 0 0 0, ev (.slice none 0 0) (.slice none 0 0) 0 0 0] wx fun r w' => r = .returned (.bool true) ∧ Below wx.heap.size wx w'))
    : Calls Tryz.prog 7 #[vv (.slice ta N tc) v.log v.seq v.next, ev (.slice a2 M c2) (.slice a3 K c3) x.log x.seq x.next, .slice ba L bc] w fun r w' => r = .returned (.bool true) ∧ Below w.heap.size w w' := by
  have HB0 : Hid (Below w.heap.size w W) := by show Below _ _ _; rw [HW.out]; exact ((Below.refl _ _).alloc (Nat.le_refl _) _).alloc (by simp) _
  have HC : Hid (∀ wx, Below W.heap.size W wx → wx.cell? ⟨w.heap.size, 0, none⟩ = some (.slice ta N tc) ∧ wx.cell? ⟨w.heap.size, 1, none⟩ = some (.int .i64 v.log) ∧ wx.cell? ⟨w.heap.size, 2, none⟩ = some (.int .i64 v.seq) ∧ wx.cell? ⟨w.heap.size, 3, none⟩ = some (.int .i64 v.next) ∧ wx.cell? ⟨w.heap.size + 1, 0, none⟩ = some (.slice a2 M c2) ∧ wx.cell? ⟨w.heap.size + 1, 1, none⟩ = some (.slice a3 K c3) ∧ wx.cell? ⟨w.heap.size + 1, 2, none⟩ = some (.int .i64 x.log) ∧ wx.cell? ⟨w.heap.size + 1, 3, none⟩ = some (.int .i64 x.seq) ∧ wx.cell? ⟨w.heap.size + 1, 4, none⟩ = some (.int .i64 x.next)) := fun wx hx => by
    have q0 : W.heap[w.heap.size]? = some (vO (.slice ta N tc) v.log v.seq v.next) := by rw [HW.out]; exact (Below.heap_alloc _ _ _ (by simp)).trans (World.alloc_heap_new w _)
    have q1 : W.heap[w.heap.size + 1]? = some (eO (.slice a2 M c2) (.slice a3 K c3) x.log x.seq x.next) := by
      rw [HW.out]
      have := World.alloc_heap_new (w.alloc (vO (.slice ta N tc) v.log v.seq v.next)) (eO (.slice a2 M c2) (.slice a3 K c3) x.log x.seq x.next)
      rw [World.size_alloc] at this
      exact this
    obtain ⟨p0, p1, p2, p3, _⟩ := slot4 ((hx.block _ (Array.getElem?_eq_some_iff.1 q0).1).trans q0)
    obtain ⟨r0, r1, r2, r3, r4, _⟩ := slot5 ((hx.block _ (Array.getElem?_eq_some_iff.1 q1).1).trans q1)
    exact ⟨p0, p1, p2, p3, r0, r1, r2, r3, r4⟩
  have iM : ¬ (M : Int) > 60 := by omega
  have iL : ¬ (L : Int) > 8000 := by omega
  clear hM hL
  go_enter Tryz.func7, Tryz.ntmps7
  go_wp2_with (first
    | (go_at_call 11; have tok := LV; refine (LV.out _).mono ?_; rintro e u1 ⟨rfl, b1⟩; clear tok; rw [← HW.out] at b1; have D1 := hide b1; obtain ⟨p0, p1, p2, p3, r0, r1, r2, r3, r4⟩ := HC.out _ D1.out; clear LV b1)
    | (go_at_call 21; have tok := S1; refine (S1.out _ D1.out).mono ?_; rintro e u2 ⟨rfl, b2⟩; clear tok; have D2 := hide (D1.out.trans (b2.mono D1.out.size)); clear p0 p1 p2 p3 r0 r1 r2 r3 r4; obtain ⟨p0, p1, p2, p3, r0, r1, r2, r3, r4⟩ := HC.out _ D2.out; clear S1 b2 D1)
    | (go_at_call 21; have tok := S2; refine (S2.out _ D2.out).mono ?_; rintro e u3 ⟨rfl, b3⟩; clear tok; have D3 := hide (D2.out.trans (b3.mono D2.out.size)); clear p0 p1 p2 p3 r0 r1 r2 r3 r4; obtain ⟨p0, p1, p2, p3, r0, r1, r2, r3, r4⟩ := HC.out _ D3.out; clear S2 b3 D2)
    | (go_at_call 20; have tok := CK; refine (CK.out _ D3.out).mono ?_; rintro e u4 ⟨rfl, b4⟩; clear tok; have D4 := hide (D3.out.trans (b4.mono D3.out.size)); clear p0 p1 p2 p3 r0 r1 r2 r3 r4; obtain ⟨p0, p1, p2, p3, r0, r1, r2, r3, r4⟩ := HC.out _ D4.out; clear CK b4 D3)
    | (go_at_call 27; have tok := EN; refine (EN.out _ D4.out).mono ?_; rintro e u8 ⟨eg, en, ec, rfl, HE8, b8⟩; clear tok; have D8 := hide (D4.out.trans (b8.mono D4.out.size)); clear p0 p1 p2 p3 r0 r1 r2 r3 r4; obtain ⟨p0, p1, p2, p3, r0, r1, r2, r3, r4⟩ := HC.out _ D8.out; clear EN b8 D4)
    | (go_at_call 29; have tok := DC; refine (DC.out _ _ _ _ D8.out HE8).mono ?_; rintro e u9 ⟨ya, yc, za, zc, rfl, HY, HZ, b9⟩; clear tok; have b9x := b9.alloc b9.size (eO (.slice ya M yc) (.slice za K zc) x.log x.seq x.next); have D9 := hide (D8.out.trans (b9x.mono D8.out.size)); obtain ⟨m0, m1, m2, m3, m4, _⟩ := slot5 (World.alloc_heap_new u9 (eO (.slice ya M yc) (.slice za K zc) x.log x.seq x.next)); have HY9 : Hid (IzAt (u9.alloc (eO (.slice ya M yc) (.slice za K zc) x.log x.seq x.next)) (.slice ya M yc) x.drops) := HY.out.later ((Below.refl _ _).alloc (Nat.le_refl _) _); have HZ9 : Hid (MtsAt (u9.alloc (eO (.slice ya M yc) (.slice za K zc) x.log x.seq x.next)) (.slice za K zc) x.adds) := HZ.out.later ((Below.refl _ _).alloc (Nat.le_refl _) _); clear p0 p1 p2 p3 r0 r1 r2 r3 r4; obtain ⟨p0, p1, p2, p3, r0, r1, r2, r3, r4⟩ := HC.out _ D9.out; clear DC b9 b9x D8 HE8 HY HZ)
    | (go_at_call 35; have tok := SE; refine (SE.out _ _ _ _ _ D9.out HY9 HZ9).mono ?_; rintro e v1 ⟨rfl, b10⟩; clear tok; have D10 := hide (D9.out.trans (b10.mono D9.out.size)); clear p0 p1 p2 p3 r0 r1 r2 r3 r4; obtain ⟨p0, p1, p2, p3, r0, r1, r2, r3, r4⟩ := HC.out _ D10.out; clear SE b10 D9 HY9 HZ9 m0 m1 m2 m3 m4)
    | (go_at_call 29; have tok := DB; refine (DB.out _ D10.out).mono ?_; rintro e v2 ⟨rfl, b11⟩; clear tok; have b11x := b11.alloc b11.size (eO (.slice none 0 0) (.slice none 0 0) 0 0 0); have D12 := hide (D10.out.trans (b11x.mono D10.out.size)); obtain ⟨o0, o1, o2, o3, o4, _⟩ := slot5 (World.alloc_heap_new v2 (eO (.slice none 0 0) (.slice none 0 0) 0 0 0)); clear p0 p1 p2 p3 r0 r1 r2 r3 r4; clear DB b11 b11x D10)
    | (go_at_call 35; have tok := SZ; refine (SZ.out _).mono ?_; rintro e v4 ⟨rfl, b13⟩; clear tok; have D13 := hide (D12.out.trans (b13.mono D12.out.size)); clear SZ b13 D12))
  go_ret
  exact ⟨rfl, HB0.out.trans (D13.out.mono HB0.out.size)⟩

set_option maxRecDepth 100000 in
set_option maxHeartbeats 4000000 in
theorem way001 (w W : World) (ta a2 a3 ba : Option Addr) (tc c2 c3 bc N M K L : Nat) (v : Mf.Vn) (x : Mf.Ed) (y : Mf.Ed) (b : Mf.Bs) (M2 K2 : Nat) (E : Int) (HW : Hid (W = (w.alloc (vO (.slice ta N tc) v.log v.seq v.next)).alloc (eO (.slice a2 M c2) (.slice a3 K c3) x.log x.seq x.next))) (hM : (M : Int) ≤ 60) (hL : (L : Int) ≤ 8000)
    (LV : Hid (∀ wx, Calls Tryz.prog 11 #[] wx fun r w' => r = .returned (.bool true) ∧ Below wx.heap.size wx w'))
    (S1 : Hid (∀ wx, Below W.heap.size W wx → Calls Tryz.prog 21 #[.slice ta N tc] wx fun r w' => r = .returned (.bool true) ∧ Below wx.heap.size wx w'))
    (S2 : Hid (∀ wx, Below W.heap.size W wx → Calls Tryz.prog 21 #[.slice a3 K c3] wx fun r w' => r = .returned (.bool true) ∧ Below wx.heap.size wx w'))
    (CK : Hid (∀ wx, Below W.heap.size W wx → Calls Tryz.prog 20 #[vv (.slice ta N tc) v.log v.seq v.next] wx fun r w' => r = .returned (.int .i64 2) ∧ Below wx.heap.size wx w'))
    (EN : Hid (∀ wx, Below W.heap.size W wx → Calls Tryz.prog 27 #[ev (.slice a2 M c2) (.slice a3 K c3) x.log x.seq x.next] wx fun r w' => r = .returned (.tuple #[.slice none 0 0, .int .i64 E]) ∧ Below wx.heap.size wx w')) (hE : (E == 0) = false)
    (DB : Hid (∀ wx, Below W.heap.size W wx → Calls Tryz.prog 29 #[.slice ba L bc] wx fun r w' => ∃ ya yc za zc, r = .returned (.tuple #[ev (.slice ya M2 yc) (.slice za K2 zc) y.log y.seq y.next, .int .i64 0]) ∧ Hid (IzAt w' (.slice ya M2 yc) y.drops) ∧ Hid (MtsAt w' (.slice za K2 zc) y.adds) ∧ Below wx.heap.size wx w'))
    (EY : Hid (∀ wx ya yc za zc, Below W.heap.size W wx → Hid (IzAt wx (.slice ya M2 yc) y.drops) → Hid (MtsAt wx (.slice za K2 zc) y.adds) → Calls Tryz.prog 27 #[ev (.slice ya M2 yc) (.slice za K2 zc) y.log y.seq y.next] wx fun r w' => ∃ g n c, r = .returned (.tuple #[.slice (some ⟨g, 0, none⟩) n c, .int .i64 0]) ∧ Hid (BytesIn w' (.slice (some ⟨g, 0, none⟩) n c) b) ∧ Below wx.heap.size wx w'))
    (SB : Hid (∀ wx g n c, Below W.heap.size W wx → Hid (BytesIn wx (.slice (some ⟨g, 0, none⟩) n c) b) → Calls Tryz.prog 34 #[.slice (some ⟨g, 0, none⟩) n c, .slice ba L bc] wx fun r w' => r = .returned (.bool true) ∧ Below wx.heap.size wx w'))
    : Calls Tryz.prog 7 #[vv (.slice ta N tc) v.log v.seq v.next, ev (.slice a2 M c2) (.slice a3 K c3) x.log x.seq x.next, .slice ba L bc] w fun r w' => r = .returned (.bool true) ∧ Below w.heap.size w w' := by
  have HB0 : Hid (Below w.heap.size w W) := by show Below _ _ _; rw [HW.out]; exact ((Below.refl _ _).alloc (Nat.le_refl _) _).alloc (by simp) _
  have HC : Hid (∀ wx, Below W.heap.size W wx → wx.cell? ⟨w.heap.size, 0, none⟩ = some (.slice ta N tc) ∧ wx.cell? ⟨w.heap.size, 1, none⟩ = some (.int .i64 v.log) ∧ wx.cell? ⟨w.heap.size, 2, none⟩ = some (.int .i64 v.seq) ∧ wx.cell? ⟨w.heap.size, 3, none⟩ = some (.int .i64 v.next) ∧ wx.cell? ⟨w.heap.size + 1, 0, none⟩ = some (.slice a2 M c2) ∧ wx.cell? ⟨w.heap.size + 1, 1, none⟩ = some (.slice a3 K c3) ∧ wx.cell? ⟨w.heap.size + 1, 2, none⟩ = some (.int .i64 x.log) ∧ wx.cell? ⟨w.heap.size + 1, 3, none⟩ = some (.int .i64 x.seq) ∧ wx.cell? ⟨w.heap.size + 1, 4, none⟩ = some (.int .i64 x.next)) := fun wx hx => by
    have q0 : W.heap[w.heap.size]? = some (vO (.slice ta N tc) v.log v.seq v.next) := by rw [HW.out]; exact (Below.heap_alloc _ _ _ (by simp)).trans (World.alloc_heap_new w _)
    have q1 : W.heap[w.heap.size + 1]? = some (eO (.slice a2 M c2) (.slice a3 K c3) x.log x.seq x.next) := by
      rw [HW.out]
      have := World.alloc_heap_new (w.alloc (vO (.slice ta N tc) v.log v.seq v.next)) (eO (.slice a2 M c2) (.slice a3 K c3) x.log x.seq x.next)
      rw [World.size_alloc] at this
      exact this
    obtain ⟨p0, p1, p2, p3, _⟩ := slot4 ((hx.block _ (Array.getElem?_eq_some_iff.1 q0).1).trans q0)
    obtain ⟨r0, r1, r2, r3, r4, _⟩ := slot5 ((hx.block _ (Array.getElem?_eq_some_iff.1 q1).1).trans q1)
    exact ⟨p0, p1, p2, p3, r0, r1, r2, r3, r4⟩
  have iM : ¬ (M : Int) > 60 := by omega
  have iL : ¬ (L : Int) > 8000 := by omega
  clear hM hL
  go_enter Tryz.func7, Tryz.ntmps7
  go_wp2_with (first
    | (go_at_call 11; have tok := LV; refine (LV.out _).mono ?_; rintro e u1 ⟨rfl, b1⟩; clear tok; rw [← HW.out] at b1; have D1 := hide b1; obtain ⟨p0, p1, p2, p3, r0, r1, r2, r3, r4⟩ := HC.out _ D1.out; clear LV b1)
    | (go_at_call 21; have tok := S1; refine (S1.out _ D1.out).mono ?_; rintro e u2 ⟨rfl, b2⟩; clear tok; have D2 := hide (D1.out.trans (b2.mono D1.out.size)); clear p0 p1 p2 p3 r0 r1 r2 r3 r4; obtain ⟨p0, p1, p2, p3, r0, r1, r2, r3, r4⟩ := HC.out _ D2.out; clear S1 b2 D1)
    | (go_at_call 21; have tok := S2; refine (S2.out _ D2.out).mono ?_; rintro e u3 ⟨rfl, b3⟩; clear tok; have D3 := hide (D2.out.trans (b3.mono D2.out.size)); clear p0 p1 p2 p3 r0 r1 r2 r3 r4; obtain ⟨p0, p1, p2, p3, r0, r1, r2, r3, r4⟩ := HC.out _ D3.out; clear S2 b3 D2)
    | (go_at_call 20; have tok := CK; refine (CK.out _ D3.out).mono ?_; rintro e u4 ⟨rfl, b4⟩; clear tok; have D4 := hide (D3.out.trans (b4.mono D3.out.size)); clear p0 p1 p2 p3 r0 r1 r2 r3 r4; obtain ⟨p0, p1, p2, p3, r0, r1, r2, r3, r4⟩ := HC.out _ D4.out; clear CK b4 D3)
    | (go_at_call 27; have tok := EN; refine (EN.out _ D4.out).mono ?_; rintro e u8 ⟨rfl, b8⟩; clear tok; have D10 := hide (D4.out.trans (b8.mono D4.out.size)); clear p0 p1 p2 p3 r0 r1 r2 r3 r4; obtain ⟨p0, p1, p2, p3, r0, r1, r2, r3, r4⟩ := HC.out _ D10.out; clear EN b8 D4)
    | (go_at_call 29; have tok := DB; refine (DB.out _ D10.out).mono ?_; rintro e v2 ⟨ya2, yc2, za2, zc2, rfl, HY2, HZ2, b11⟩; clear tok; have b11x := b11.alloc b11.size (eO (.slice ya2 M2 yc2) (.slice za2 K2 zc2) y.log y.seq y.next); have D11 := hide (D10.out.trans (b11x.mono D10.out.size)); obtain ⟨o0, o1, o2, o3, o4, _⟩ := slot5 (World.alloc_heap_new v2 (eO (.slice ya2 M2 yc2) (.slice za2 K2 zc2) y.log y.seq y.next)); have HY3 : Hid (IzAt (v2.alloc (eO (.slice ya2 M2 yc2) (.slice za2 K2 zc2) y.log y.seq y.next)) (.slice ya2 M2 yc2) y.drops) := HY2.out.later ((Below.refl _ _).alloc (Nat.le_refl _) _); have HZ3 : Hid (MtsAt (v2.alloc (eO (.slice ya2 M2 yc2) (.slice za2 K2 zc2) y.log y.seq y.next)) (.slice za2 K2 zc2) y.adds) := HZ2.out.later ((Below.refl _ _).alloc (Nat.le_refl _) _); clear p0 p1 p2 p3 r0 r1 r2 r3 r4; clear DB b11 b11x D10 HY2 HZ2)
    | (go_at_call 27; have tok := EY; refine (EY.out _ _ _ _ _ D11.out HY3 HZ3).mono ?_; rintro e v3 ⟨eg2, en2, ec2, rfl, HE2, b12⟩; clear tok; have D12 := hide (D11.out.trans (b12.mono D11.out.size)); clear EY b12 D11 HY3 HZ3)
    | (go_at_call 34; have tok := SB; refine (SB.out _ _ _ _ D12.out HE2).mono ?_; rintro e v4 ⟨rfl, b13⟩; clear tok; have D13 := hide (D12.out.trans (b13.mono D12.out.size)); clear SB b13 D12 HE2))
  go_ret
  exact ⟨rfl, HB0.out.trans (D13.out.mono HB0.out.size)⟩

set_option maxRecDepth 100000 in
set_option maxHeartbeats 4000000 in
theorem way000 (w W : World) (ta a2 a3 ba : Option Addr) (tc c2 c3 bc N M K L : Nat) (v : Mf.Vn) (x : Mf.Ed) (E : Int) (HW : Hid (W = (w.alloc (vO (.slice ta N tc) v.log v.seq v.next)).alloc (eO (.slice a2 M c2) (.slice a3 K c3) x.log x.seq x.next))) (hM : (M : Int) ≤ 60) (hL : (L : Int) ≤ 8000)
    (LV : Hid (∀ wx, Calls Tryz.prog 11 #[] wx fun r w' => r = .returned (.bool true) ∧ Below wx.heap.size wx w'))
    (S1 : Hid (∀ wx, Below W.heap.size W wx → Calls Tryz.prog 21 #[.slice ta N tc] wx fun r w' => r = .returned (.bool true) ∧ Below wx.heap.size wx w'))
    (S2 : Hid (∀ wx, Below W.heap.size W wx → Calls Tryz.prog 21 #[.slice a3 K c3] wx fun r w' => r = .returned (.bool true) ∧ Below wx.heap.size wx w'))
    (CK : Hid (∀ wx, Below W.heap.size W wx → Calls Tryz.prog 20 #[vv (.slice ta N tc) v.log v.seq v.next] wx fun r w' => r = .returned (.int .i64 2) ∧ Below wx.heap.size wx w'))
    (EN : Hid (∀ wx, Below W.heap.size W wx → Calls Tryz.prog 27 #[ev (.slice a2 M c2) (.slice a3 K c3) x.log x.seq x.next] wx fun r w' => r = .returned (.tuple #[.slice none 0 0, .int .i64 E]) ∧ Below wx.heap.size wx w')) (hE : (E == 0) = false)
    (DB : Hid (∀ wx, Below W.heap.size W wx → Calls Tryz.prog 29 #[.slice ba L bc] wx fun r w' => r = .returned (.tuple #[ev (.slice none 0 0) (.slice none 0 0) 0 0 0, .int .i64 5]) ∧ Below wx.heap.size wx w'))
    (SZ : Hid (∀ wx, Calls Tryz.prog 35 #[ev (.slice none 0 0) (.slice none 0 0) 0 0 0, ev (.slice none 0 0) (.slice none 0 0) 0 0 0] wx fun r w' => r = .returned (.bool true) ∧ Below wx.heap.size wx w'))
    : Calls Tryz.prog 7 #[vv (.slice ta N tc) v.log v.seq v.next, ev (.slice a2 M c2) (.slice a3 K c3) x.log x.seq x.next, .slice ba L bc] w fun r w' => r = .returned (.bool true) ∧ Below w.heap.size w w' := by
  have HB0 : Hid (Below w.heap.size w W) := by show Below _ _ _; rw [HW.out]; exact ((Below.refl _ _).alloc (Nat.le_refl _) _).alloc (by simp) _
  have HC : Hid (∀ wx, Below W.heap.size W wx → wx.cell? ⟨w.heap.size, 0, none⟩ = some (.slice ta N tc) ∧ wx.cell? ⟨w.heap.size, 1, none⟩ = some (.int .i64 v.log) ∧ wx.cell? ⟨w.heap.size, 2, none⟩ = some (.int .i64 v.seq) ∧ wx.cell? ⟨w.heap.size, 3, none⟩ = some (.int .i64 v.next) ∧ wx.cell? ⟨w.heap.size + 1, 0, none⟩ = some (.slice a2 M c2) ∧ wx.cell? ⟨w.heap.size + 1, 1, none⟩ = some (.slice a3 K c3) ∧ wx.cell? ⟨w.heap.size + 1, 2, none⟩ = some (.int .i64 x.log) ∧ wx.cell? ⟨w.heap.size + 1, 3, none⟩ = some (.int .i64 x.seq) ∧ wx.cell? ⟨w.heap.size + 1, 4, none⟩ = some (.int .i64 x.next)) := fun wx hx => by
    have q0 : W.heap[w.heap.size]? = some (vO (.slice ta N tc) v.log v.seq v.next) := by rw [HW.out]; exact (Below.heap_alloc _ _ _ (by simp)).trans (World.alloc_heap_new w _)
    have q1 : W.heap[w.heap.size + 1]? = some (eO (.slice a2 M c2) (.slice a3 K c3) x.log x.seq x.next) := by
      rw [HW.out]
      have := World.alloc_heap_new (w.alloc (vO (.slice ta N tc) v.log v.seq v.next)) (eO (.slice a2 M c2) (.slice a3 K c3) x.log x.seq x.next)
      rw [World.size_alloc] at this
      exact this
    obtain ⟨p0, p1, p2, p3, _⟩ := slot4 ((hx.block _ (Array.getElem?_eq_some_iff.1 q0).1).trans q0)
    obtain ⟨r0, r1, r2, r3, r4, _⟩ := slot5 ((hx.block _ (Array.getElem?_eq_some_iff.1 q1).1).trans q1)
    exact ⟨p0, p1, p2, p3, r0, r1, r2, r3, r4⟩
  have iM : ¬ (M : Int) > 60 := by omega
  have iL : ¬ (L : Int) > 8000 := by omega
  clear hM hL
  go_enter Tryz.func7, Tryz.ntmps7
  go_wp2_with (first
    | (go_at_call 11; have tok := LV; refine (LV.out _).mono ?_; rintro e u1 ⟨rfl, b1⟩; clear tok; rw [← HW.out] at b1; have D1 := hide b1; obtain ⟨p0, p1, p2, p3, r0, r1, r2, r3, r4⟩ := HC.out _ D1.out; clear LV b1)
    | (go_at_call 21; have tok := S1; refine (S1.out _ D1.out).mono ?_; rintro e u2 ⟨rfl, b2⟩; clear tok; have D2 := hide (D1.out.trans (b2.mono D1.out.size)); clear p0 p1 p2 p3 r0 r1 r2 r3 r4; obtain ⟨p0, p1, p2, p3, r0, r1, r2, r3, r4⟩ := HC.out _ D2.out; clear S1 b2 D1)
    | (go_at_call 21; have tok := S2; refine (S2.out _ D2.out).mono ?_; rintro e u3 ⟨rfl, b3⟩; clear tok; have D3 := hide (D2.out.trans (b3.mono D2.out.size)); clear p0 p1 p2 p3 r0 r1 r2 r3 r4; obtain ⟨p0, p1, p2, p3, r0, r1, r2, r3, r4⟩ := HC.out _ D3.out; clear S2 b3 D2)
    | (go_at_call 20; have tok := CK; refine (CK.out _ D3.out).mono ?_; rintro e u4 ⟨rfl, b4⟩; clear tok; have D4 := hide (D3.out.trans (b4.mono D3.out.size)); clear p0 p1 p2 p3 r0 r1 r2 r3 r4; obtain ⟨p0, p1, p2, p3, r0, r1, r2, r3, r4⟩ := HC.out _ D4.out; clear CK b4 D3)
    | (go_at_call 27; have tok := EN; refine (EN.out _ D4.out).mono ?_; rintro e u8 ⟨rfl, b8⟩; clear tok; have D10 := hide (D4.out.trans (b8.mono D4.out.size)); clear p0 p1 p2 p3 r0 r1 r2 r3 r4; obtain ⟨p0, p1, p2, p3, r0, r1, r2, r3, r4⟩ := HC.out _ D10.out; clear EN b8 D4)
    | (go_at_call 29; have tok := DB; refine (DB.out _ D10.out).mono ?_; rintro e v2 ⟨rfl, b11⟩; clear tok; have b11x := b11.alloc b11.size (eO (.slice none 0 0) (.slice none 0 0) 0 0 0); have D12 := hide (D10.out.trans (b11x.mono D10.out.size)); obtain ⟨o0, o1, o2, o3, o4, _⟩ := slot5 (World.alloc_heap_new v2 (eO (.slice none 0 0) (.slice none 0 0) 0 0 0)); clear p0 p1 p2 p3 r0 r1 r2 r3 r4; clear DB b11 b11x D10)
    | (go_at_call 35; have tok := SZ; refine (SZ.out _).mono ?_; rintro e v4 ⟨rfl, b13⟩; clear tok; have D13 := hide (D12.out.trans (b13.mono D12.out.size)); clear SZ b13 D12))
  go_ret
  exact ⟨rfl, HB0.out.trans (D13.out.mono HB0.out.size)⟩

set_option maxRecDepth 100000 in
set_option maxHeartbeats 4000000 in
theorem away0 (w W : World) (ta a2 a3 ba : Option Addr) (tc c2 c3 bc N M K L : Nat) (v : Mf.Vn) (x : Mf.Ed) (HW : Hid (W = (w.alloc (vO (.slice ta N tc) v.log v.seq v.next)).alloc (eO (.slice a2 M c2) (.slice a3 K c3) x.log x.seq x.next)))
    (LV : Hid (∀ wx, Calls Tryz.prog 11 #[] wx fun r w' => r = .returned (.bool true) ∧ Below wx.heap.size wx w'))
    (S1 : Hid (∀ wx, Below W.heap.size W wx → Calls Tryz.prog 21 #[.slice ta N tc] wx fun r w' => r = .returned (.bool false) ∧ Below wx.heap.size wx w'))
    : Calls Tryz.prog 7 #[vv (.slice ta N tc) v.log v.seq v.next, ev (.slice a2 M c2) (.slice a3 K c3) x.log x.seq x.next, .slice ba L bc] w fun r w' => r = .returned (.bool true) ∧ Below w.heap.size w w' := by
  have HB0 : Hid (Below w.heap.size w W) := by show Below _ _ _; rw [HW.out]; exact ((Below.refl _ _).alloc (Nat.le_refl _) _).alloc (by simp) _
  have HC : Hid (∀ wx, Below W.heap.size W wx → wx.cell? ⟨w.heap.size, 0, none⟩ = some (.slice ta N tc) ∧ wx.cell? ⟨w.heap.size, 1, none⟩ = some (.int .i64 v.log) ∧ wx.cell? ⟨w.heap.size, 2, none⟩ = some (.int .i64 v.seq) ∧ wx.cell? ⟨w.heap.size, 3, none⟩ = some (.int .i64 v.next) ∧ wx.cell? ⟨w.heap.size + 1, 0, none⟩ = some (.slice a2 M c2) ∧ wx.cell? ⟨w.heap.size + 1, 1, none⟩ = some (.slice a3 K c3) ∧ wx.cell? ⟨w.heap.size + 1, 2, none⟩ = some (.int .i64 x.log) ∧ wx.cell? ⟨w.heap.size + 1, 3, none⟩ = some (.int .i64 x.seq) ∧ wx.cell? ⟨w.heap.size + 1, 4, none⟩ = some (.int .i64 x.next)) := fun wx hx => by
    have q0 : W.heap[w.heap.size]? = some (vO (.slice ta N tc) v.log v.seq v.next) := by rw [HW.out]; exact (Below.heap_alloc _ _ _ (by simp)).trans (World.alloc_heap_new w _)
    have q1 : W.heap[w.heap.size + 1]? = some (eO (.slice a2 M c2) (.slice a3 K c3) x.log x.seq x.next) := by
      rw [HW.out]
      have := World.alloc_heap_new (w.alloc (vO (.slice ta N tc) v.log v.seq v.next)) (eO (.slice a2 M c2) (.slice a3 K c3) x.log x.seq x.next)
      rw [World.size_alloc] at this
      exact this
    obtain ⟨p0, p1, p2, p3, _⟩ := slot4 ((hx.block _ (Array.getElem?_eq_some_iff.1 q0).1).trans q0)
    obtain ⟨r0, r1, r2, r3, r4, _⟩ := slot5 ((hx.block _ (Array.getElem?_eq_some_iff.1 q1).1).trans q1)
    exact ⟨p0, p1, p2, p3, r0, r1, r2, r3, r4⟩
  go_enter Tryz.func7, Tryz.ntmps7
  go_wp2_with (first
    | (go_at_call 11; have tok := LV; refine (LV.out _).mono ?_; rintro e u1 ⟨rfl, b1⟩; clear tok; rw [← HW.out] at b1; have D1 := hide b1; obtain ⟨p0, p1, p2, p3, r0, r1, r2, r3, r4⟩ := HC.out _ D1.out; clear LV b1)
    | (go_at_call 21; have tok := S1; refine (S1.out _ D1.out).mono ?_; rintro e u2 ⟨rfl, b2⟩; clear tok; have D2 := hide (D1.out.trans (b2.mono D1.out.size)); clear p0 p1 p2 p3 r0 r1 r2 r3 r4; obtain ⟨p0, p1, p2, p3, r0, r1, r2, r3, r4⟩ := HC.out _ D2.out; clear S1 b2 D1))
  go_ret
  exact ⟨rfl, HB0.out.trans (D2.out.mono HB0.out.size)⟩

set_option maxRecDepth 100000 in
set_option maxHeartbeats 4000000 in
theorem away1 (w W : World) (ta a2 a3 ba : Option Addr) (tc c2 c3 bc N M K L : Nat) (v : Mf.Vn) (x : Mf.Ed) (HW : Hid (W = (w.alloc (vO (.slice ta N tc) v.log v.seq v.next)).alloc (eO (.slice a2 M c2) (.slice a3 K c3) x.log x.seq x.next)))
    (LV : Hid (∀ wx, Calls Tryz.prog 11 #[] wx fun r w' => r = .returned (.bool true) ∧ Below wx.heap.size wx w'))
    (S1 : Hid (∀ wx, Below W.heap.size W wx → Calls Tryz.prog 21 #[.slice ta N tc] wx fun r w' => r = .returned (.bool true) ∧ Below wx.heap.size wx w'))
    (S2 : Hid (∀ wx, Below W.heap.size W wx → Calls Tryz.prog 21 #[.slice a3 K c3] wx fun r w' => r = .returned (.bool false) ∧ Below wx.heap.size wx w'))
    : Calls Tryz.prog 7 #[vv (.slice ta N tc) v.log v.seq v.next, ev (.slice a2 M c2) (.slice a3 K c3) x.log x.seq x.next, .slice ba L bc] w fun r w' => r = .returned (.bool true) ∧ Below w.heap.size w w' := by
  have HB0 : Hid (Below w.heap.size w W) := by show Below _ _ _; rw [HW.out]; exact ((Below.refl _ _).alloc (Nat.le_refl _) _).alloc (by simp) _
  have HC : Hid (∀ wx, Below W.heap.size W wx → wx.cell? ⟨w.heap.size, 0, none⟩ = some (.slice ta N tc) ∧ wx.cell? ⟨w.heap.size, 1, none⟩ = some (.int .i64 v.log) ∧ wx.cell? ⟨w.heap.size, 2, none⟩ = some (.int .i64 v.seq) ∧ wx.cell? ⟨w.heap.size, 3, none⟩ = some (.int .i64 v.next) ∧ wx.cell? ⟨w.heap.size + 1, 0, none⟩ = some (.slice a2 M c2) ∧ wx.cell? ⟨w.heap.size + 1, 1, none⟩ = some (.slice a3 K c3) ∧ wx.cell? ⟨w.heap.size + 1, 2, none⟩ = some (.int .i64 x.log) ∧ wx.cell? ⟨w.heap.size + 1, 3, none⟩ = some (.int .i64 x.seq) ∧ wx.cell? ⟨w.heap.size + 1, 4, none⟩ = some (.int .i64 x.next)) := fun wx hx => by
    have q0 : W.heap[w.heap.size]? = some (vO (.slice ta N tc) v.log v.seq v.next) := by rw [HW.out]; exact (Below.heap_alloc _ _ _ (by simp)).trans (World.alloc_heap_new w _)
    have q1 : W.heap[w.heap.size + 1]? = some (eO (.slice a2 M c2) (.slice a3 K c3) x.log x.seq x.next) := by
      rw [HW.out]
      have := World.alloc_heap_new (w.alloc (vO (.slice ta N tc) v.log v.seq v.next)) (eO (.slice a2 M c2) (.slice a3 K c3) x.log x.seq x.next)
      rw [World.size_alloc] at this
      exact this
    obtain ⟨p0, p1, p2, p3, _⟩ := slot4 ((hx.block _ (Array.getElem?_eq_some_iff.1 q0).1).trans q0)
    obtain ⟨r0, r1, r2, r3, r4, _⟩ := slot5 ((hx.block _ (Array.getElem?_eq_some_iff.1 q1).1).trans q1)
    exact ⟨p0, p1, p2, p3, r0, r1, r2, r3, r4⟩
  go_enter Tryz.func7, Tryz.ntmps7
  go_wp2_with (first
    | (go_at_call 11; have tok := LV; refine (LV.out _).mono ?_; rintro e u1 ⟨rfl, b1⟩; clear tok; rw [← HW.out] at b1; have D1 := hide b1; obtain ⟨p0, p1, p2, p3, r0, r1, r2, r3, r4⟩ := HC.out _ D1.out; clear LV b1)
    | (go_at_call 21; have tok := S1; refine (S1.out _ D1.out).mono ?_; rintro e u2 ⟨rfl, b2⟩; clear tok; have D2 := hide (D1.out.trans (b2.mono D1.out.size)); clear p0 p1 p2 p3 r0 r1 r2 r3 r4; obtain ⟨p0, p1, p2, p3, r0, r1, r2, r3, r4⟩ := HC.out _ D2.out; clear S1 b2 D1)
    | (go_at_call 21; have tok := S2; refine (S2.out _ D2.out).mono ?_; rintro e u3 ⟨rfl, b3⟩; clear tok; have D3 := hide (D2.out.trans (b3.mono D2.out.size)); clear p0 p1 p2 p3 r0 r1 r2 r3 r4; obtain ⟨p0, p1, p2, p3, r0, r1, r2, r3, r4⟩ := HC.out _ D3.out; clear S2 b3 D2))
  go_ret
  exact ⟨rfl, HB0.out.trans (D3.out.mono HB0.out.size)⟩

set_option maxRecDepth 100000 in
set_option maxHeartbeats 4000000 in
theorem away2 (w W : World) (ta a2 a3 ba : Option Addr) (tc c2 c3 bc N M K L : Nat) (v : Mf.Vn) (x : Mf.Ed) (HW : Hid (W = (w.alloc (vO (.slice ta N tc) v.log v.seq v.next)).alloc (eO (.slice a2 M c2) (.slice a3 K c3) x.log x.seq x.next))) (hM : (M : Int) > 60)
    (LV : Hid (∀ wx, Calls Tryz.prog 11 #[] wx fun r w' => r = .returned (.bool true) ∧ Below wx.heap.size wx w'))
    (S1 : Hid (∀ wx, Below W.heap.size W wx → Calls Tryz.prog 21 #[.slice ta N tc] wx fun r w' => r = .returned (.bool true) ∧ Below wx.heap.size wx w'))
    (S2 : Hid (∀ wx, Below W.heap.size W wx → Calls Tryz.prog 21 #[.slice a3 K c3] wx fun r w' => r = .returned (.bool true) ∧ Below wx.heap.size wx w'))
    : Calls Tryz.prog 7 #[vv (.slice ta N tc) v.log v.seq v.next, ev (.slice a2 M c2) (.slice a3 K c3) x.log x.seq x.next, .slice ba L bc] w fun r w' => r = .returned (.bool true) ∧ Below w.heap.size w w' := by
  have HB0 : Hid (Below w.heap.size w W) := by show Below _ _ _; rw [HW.out]; exact ((Below.refl _ _).alloc (Nat.le_refl _) _).alloc (by simp) _
  have HC : Hid (∀ wx, Below W.heap.size W wx → wx.cell? ⟨w.heap.size, 0, none⟩ = some (.slice ta N tc) ∧ wx.cell? ⟨w.heap.size, 1, none⟩ = some (.int .i64 v.log) ∧ wx.cell? ⟨w.heap.size, 2, none⟩ = some (.int .i64 v.seq) ∧ wx.cell? ⟨w.heap.size, 3, none⟩ = some (.int .i64 v.next) ∧ wx.cell? ⟨w.heap.size + 1, 0, none⟩ = some (.slice a2 M c2) ∧ wx.cell? ⟨w.heap.size + 1, 1, none⟩ = some (.slice a3 K c3) ∧ wx.cell? ⟨w.heap.size + 1, 2, none⟩ = some (.int .i64 x.log) ∧ wx.cell? ⟨w.heap.size + 1, 3, none⟩ = some (.int .i64 x.seq) ∧ wx.cell? ⟨w.heap.size + 1, 4, none⟩ = some (.int .i64 x.next)) := fun wx hx => by
    have q0 : W.heap[w.heap.size]? = some (vO (.slice ta N tc) v.log v.seq v.next) := by rw [HW.out]; exact (Below.heap_alloc _ _ _ (by simp)).trans (World.alloc_heap_new w _)
    have q1 : W.heap[w.heap.size + 1]? = some (eO (.slice a2 M c2) (.slice a3 K c3) x.log x.seq x.next) := by
      rw [HW.out]
      have := World.alloc_heap_new (w.alloc (vO (.slice ta N tc) v.log v.seq v.next)) (eO (.slice a2 M c2) (.slice a3 K c3) x.log x.seq x.next)
      rw [World.size_alloc] at this
      exact this
    obtain ⟨p0, p1, p2, p3, _⟩ := slot4 ((hx.block _ (Array.getElem?_eq_some_iff.1 q0).1).trans q0)
    obtain ⟨r0, r1, r2, r3, r4, _⟩ := slot5 ((hx.block _ (Array.getElem?_eq_some_iff.1 q1).1).trans q1)
    exact ⟨p0, p1, p2, p3, r0, r1, r2, r3, r4⟩
  go_enter Tryz.func7, Tryz.ntmps7
  go_wp2_with (first
    | (go_at_call 11; have tok := LV; refine (LV.out _).mono ?_; rintro e u1 ⟨rfl, b1⟩; clear tok; rw [← HW.out] at b1; have D1 := hide b1; obtain ⟨p0, p1, p2, p3, r0, r1, r2, r3, r4⟩ := HC.out _ D1.out; clear LV b1)
    | (go_at_call 21; have tok := S1; refine (S1.out _ D1.out).mono ?_; rintro e u2 ⟨rfl, b2⟩; clear tok; have D2 := hide (D1.out.trans (b2.mono D1.out.size)); clear p0 p1 p2 p3 r0 r1 r2 r3 r4; obtain ⟨p0, p1, p2, p3, r0, r1, r2, r3, r4⟩ := HC.out _ D2.out; clear S1 b2 D1)
    | (go_at_call 21; have tok := S2; refine (S2.out _ D2.out).mono ?_; rintro e u3 ⟨rfl, b3⟩; clear tok; have D3 := hide (D2.out.trans (b3.mono D2.out.size)); clear p0 p1 p2 p3 r0 r1 r2 r3 r4; obtain ⟨p0, p1, p2, p3, r0, r1, r2, r3, r4⟩ := HC.out _ D3.out; clear S2 b3 D2))
  go_ret
  exact ⟨rfl, HB0.out.trans (D3.out.mono HB0.out.size)⟩

set_option maxRecDepth 100000 in
set_option maxHeartbeats 4000000 in
theorem away3 (w W : World) (ta a2 a3 ba : Option Addr) (tc c2 c3 bc N M K L : Nat) (v : Mf.Vn) (x : Mf.Ed) (HW : Hid (W = (w.alloc (vO (.slice ta N tc) v.log v.seq v.next)).alloc (eO (.slice a2 M c2) (.slice a3 K c3) x.log x.seq x.next))) (hM : (M : Int) ≤ 60) (hL : (L : Int) > 8000)
    (LV : Hid (∀ wx, Calls Tryz.prog 11 #[] wx fun r w' => r = .returned (.bool true) ∧ Below wx.heap.size wx w'))
    (S1 : Hid (∀ wx, Below W.heap.size W wx → Calls Tryz.prog 21 #[.slice ta N tc] wx fun r w' => r = .returned (.bool true) ∧ Below wx.heap.size wx w'))
    (S2 : Hid (∀ wx, Below W.heap.size W wx → Calls Tryz.prog 21 #[.slice a3 K c3] wx fun r w' => r = .returned (.bool true) ∧ Below wx.heap.size wx w'))
    : Calls Tryz.prog 7 #[vv (.slice ta N tc) v.log v.seq v.next, ev (.slice a2 M c2) (.slice a3 K c3) x.log x.seq x.next, .slice ba L bc] w fun r w' => r = .returned (.bool true) ∧ Below w.heap.size w w' := by
  have HB0 : Hid (Below w.heap.size w W) := by show Below _ _ _; rw [HW.out]; exact ((Below.refl _ _).alloc (Nat.le_refl _) _).alloc (by simp) _
  have HC : Hid (∀ wx, Below W.heap.size W wx → wx.cell? ⟨w.heap.size, 0, none⟩ = some (.slice ta N tc) ∧ wx.cell? ⟨w.heap.size, 1, none⟩ = some (.int .i64 v.log) ∧ wx.cell? ⟨w.heap.size, 2, none⟩ = some (.int .i64 v.seq) ∧ wx.cell? ⟨w.heap.size, 3, none⟩ = some (.int .i64 v.next) ∧ wx.cell? ⟨w.heap.size + 1, 0, none⟩ = some (.slice a2 M c2) ∧ wx.cell? ⟨w.heap.size + 1, 1, none⟩ = some (.slice a3 K c3) ∧ wx.cell? ⟨w.heap.size + 1, 2, none⟩ = some (.int .i64 x.log) ∧ wx.cell? ⟨w.heap.size + 1, 3, none⟩ = some (.int .i64 x.seq) ∧ wx.cell? ⟨w.heap.size + 1, 4, none⟩ = some (.int .i64 x.next)) := fun wx hx => by
    have q0 : W.heap[w.heap.size]? = some (vO (.slice ta N tc) v.log v.seq v.next) := by rw [HW.out]; exact (Below.heap_alloc _ _ _ (by simp)).trans (World.alloc_heap_new w _)
    have q1 : W.heap[w.heap.size + 1]? = some (eO (.slice a2 M c2) (.slice a3 K c3) x.log x.seq x.next) := by
      rw [HW.out]
      have := World.alloc_heap_new (w.alloc (vO (.slice ta N tc) v.log v.seq v.next)) (eO (.slice a2 M c2) (.slice a3 K c3) x.log x.seq x.next)
      rw [World.size_alloc] at this
      exact this
    obtain ⟨p0, p1, p2, p3, _⟩ := slot4 ((hx.block _ (Array.getElem?_eq_some_iff.1 q0).1).trans q0)
    obtain ⟨r0, r1, r2, r3, r4, _⟩ := slot5 ((hx.block _ (Array.getElem?_eq_some_iff.1 q1).1).trans q1)
    exact ⟨p0, p1, p2, p3, r0, r1, r2, r3, r4⟩
  have iM : ¬ (M : Int) > 60 := by omega
  clear hM
  go_enter Tryz.func7, Tryz.ntmps7
  go_wp2_with (first
    | (go_at_call 11; have tok := LV; refine (LV.out _).mono ?_; rintro e u1 ⟨rfl, b1⟩; clear tok; rw [← HW.out] at b1; have D1 := hide b1; obtain ⟨p0, p1, p2, p3, r0, r1, r2, r3, r4⟩ := HC.out _ D1.out; clear LV b1)
    | (go_at_call 21; have tok := S1; refine (S1.out _ D1.out).mono ?_; rintro e u2 ⟨rfl, b2⟩; clear tok; have D2 := hide (D1.out.trans (b2.mono D1.out.size)); clear p0 p1 p2 p3 r0 r1 r2 r3 r4; obtain ⟨p0, p1, p2, p3, r0, r1, r2, r3, r4⟩ := HC.out _ D2.out; clear S1 b2 D1)
    | (go_at_call 21; have tok := S2; refine (S2.out _ D2.out).mono ?_; rintro e u3 ⟨rfl, b3⟩; clear tok; have D3 := hide (D2.out.trans (b3.mono D2.out.size)); clear p0 p1 p2 p3 r0 r1 r2 r3 r4; obtain ⟨p0, p1, p2, p3, r0, r1, r2, r3, r4⟩ := HC.out _ D3.out; clear S2 b3 D2))
  go_ret
  exact ⟨rfl, HB0.out.trans (D3.out.mono HB0.out.size)⟩

end Go.Proofs.YtlhnjloimhcpfaaGreatDoor.manifestBack
