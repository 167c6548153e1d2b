/-
  The walk of ManifestBack: its twelve ways joined, each with the contracts that it calls.
-/
import Derived.Test.YtlhnjloimhcpfaaGreatDoorYBackW
import Derived.Test.YtlhnjloimhcpfaaGreatDoorYT
import Derived.Test.YtlhnjloimhcpfaaGreatDoorYLives
import Derived.Test.YtlhnjloimhcpfaaGreatDoorYG
import Derived.Test.YtlhnjloimhcpfaaGreatDoorYFit
import Derived.Test.YtlhnjloimhcpfaaGreatDoorYS
namespace Go.Proofs.YtlhnjloimhcpfaaGreatDoor
open Go.RowKit

namespace manifestBack

theorem back_any (w : World) (ta a2 a3 ba : Option Addr) (tc c2 c3 bc : Nat) (v : Mf.Vn) (x : Mf.Ed) (b : Mf.Bs)
    (hv : MtsAt w (.slice ta v.tabs.length tc) v.tabs) (hvl : v.tabs.length ≤ maxLen) (hvm : ∀ y ∈ v.tabs, MtMay y)
    (hd : IzAt w (.slice a2 x.drops.length c2) x.drops)
    (ha : MtsAt w (.slice a3 x.adds.length c3) x.adds) (hal : x.adds.length ≤ maxLen) (ham : ∀ y ∈ x.adds, MtMay y)
    (hb : BytesIn w (.slice ba b.length bc) b) (hbc : b.length ≤ bc) (hno : (ba = none ∧ bc = 0) ∨ ∃ B off, ba = some ⟨B, off, none⟩) :
    Calls Tryz.prog 7 #[vv (.slice ta v.tabs.length tc) v.log v.seq v.next, ev (.slice a2 x.drops.length c2) (.slice a3 x.adds.length c3) x.log x.seq x.next, .slice ba b.length bc] w fun r w' => r = .returned (.bool true) ∧ Below w.heap.size w w' := by
  obtain ⟨W, hW⟩ : ∃ W, W = (w.alloc (vO (.slice ta v.tabs.length tc) v.log v.seq v.next)).alloc (eO (.slice a2 x.drops.length c2) (.slice a3 x.adds.length c3) x.log x.seq x.next) := ⟨_, rfl⟩
  have BW : Below w.heap.size w W := by rw [hW]; exact ((Below.refl _ _).alloc (Nat.le_refl _) _).alloc (by simp) _
  have HW := hide hW
  clear hW
  have BX : ∀ wx, Below W.heap.size W wx → Below w.heap.size w wx := fun wx hx => BW.trans (hx.mono BW.size)
  have LV := hide ylives_any
  have S1 : ∀ S, S = small10B v.tabs → Hid (∀ wx, Below W.heap.size W wx → Calls Tryz.prog 21 #[.slice ta v.tabs.length tc] wx fun r w' => r = .returned (.bool S) ∧ Below wx.heap.size wx w') := fun S hS wx hx =>
    small10_any wx ta tc _ v.tabs (hv.later (BX wx hx)) rfl hvl (fun y hy => ⟨(hvm y hy).2.1, (hvm y hy).2.2⟩) S hS
  have S2 : ∀ S, S = small10B x.adds → Hid (∀ wx, Below W.heap.size W wx → Calls Tryz.prog 21 #[.slice a3 x.adds.length c3] wx fun r w' => r = .returned (.bool S) ∧ Below wx.heap.size wx w') := fun S hS wx hx =>
    small10_any wx a3 c3 _ x.adds (ha.later (BX wx hx)) rfl hal (fun y hy => ⟨(ham y hy).2.1, (ham y hy).2.2⟩) S hS
  cases s1 : small10B v.tabs with
  | false => exact away0 w W ta a2 a3 ba tc c2 c3 bc _ _ _ _ v x HW LV (S1 false s1.symm)
  | true =>
  have T1 := S1 true s1.symm
  clear S1
  cases s2 : small10B x.adds with
  | false => exact away1 w W ta a2 a3 ba tc c2 c3 bc _ _ _ _ v x HW LV T1 (S2 false s2.symm)
  | true =>
  have T2 := S2 true s2.symm
  clear S2
  by_cases hM : x.drops.length > 60
  · exact away2 w W ta a2 a3 ba tc c2 c3 bc _ _ _ _ v x HW (by omega) LV T1 T2
  by_cases hL : b.length > 8000
  · exact away3 w W ta a2 a3 ba tc c2 c3 bc _ _ _ _ v x HW (by omega) (by omega) LV T1 T2
  obtain ⟨v60, v600⟩ := small10_facts s1
  obtain ⟨x60, x600⟩ := small10_facts s2
  have vfit : ∀ y ∈ v.tabs, MtFit y := fun y hy => ⟨(hvm y hy).1, by have := v600 y hy; omega, by have := v600 y hy; omega⟩
  have xfit : ∀ y ∈ x.adds, MtFit y := fun y hy => ⟨(ham y hy).1, by have := x600 y hy; omega, by have := x600 y hy; omega⟩
  -- the version
  have CK : Hid (∀ wx, Below W.heap.size W wx → Calls Tryz.prog 20 #[vv (.slice ta v.tabs.length tc) v.log v.seq v.next] wx fun r w' => r = .returned (.int .i64 (if Mf.may v then 0 else 2)) ∧ Below wx.heap.size wx w') := fun wx hx =>
    ycheck_any wx ta tc v.tabs v.log v.seq v.next (hv.later (BX wx hx)) (by omega) (fun y hy => by have := v600 y hy; omega)
  have FR : Hid (∀ wx, Below W.heap.size W wx → Calls Tryz.prog 31 #[vv (.slice ta v.tabs.length tc) v.log v.seq v.next] wx fun r w' => ∃ fa fc, r = .returned (ev (.slice none 0 0) (.slice fa v.tabs.length fc) v.log v.seq v.next) ∧ Hid (MtsAt w' (.slice fa v.tabs.length fc) v.tabs) ∧ Below wx.heap.size wx w') := fun wx hx => by
    refine (from_any wx ta tc v (hv.later (BX wx hx)) (by omega) (fun y hy => by have := v600 y hy; omega)).mono ?_
    rintro r w' ⟨fa, fc, rfl, o, bb⟩
    exact ⟨fa, fc, rfl, MtsAt.own o.out, bb⟩
  have BH : Mf.may v = true → Hid (∀ wx fa fc, Below W.heap.size W wx → Hid (MtsAt wx (.slice fa v.tabs.length fc) v.tabs) → Calls Tryz.prog 25 #[vv (.slice none 0 0) 1 0 1, ev (.slice none 0 0) (.slice fa v.tabs.length fc) v.log v.seq v.next] wx fun r w' => ∃ ga gc, r = .returned (.tuple #[vv (.slice ga v.tabs.length gc) v.log v.seq v.next, .int .i64 0]) ∧ Hid (MtsAt w' (.slice ga v.tabs.length gc) v.tabs) ∧ Below wx.heap.size wx w') := fun hm wx fa fc _ hf => by
    obtain ⟨e1, e2⟩ := Mf.behind_from hm
    have e3 : Mf.newTabs Mf.first (Mf.fromV v) = v.tabs := by
      have := congrArg Mf.Vn.tabs e1
      exact this
    have := behind_ok wx none none fa 0 0 fc Mf.first (Mf.fromV v) (MtsAt.nil _ _ _) (IzAt.nil _ _ _) hf.out (by decide) (by simp [Mf.fromV]) (by show v.tabs.length ≤ _; omega) (by simp [Mf.first]) (by simp [Mf.fromV]) vfit (by decide) e2 (by rw [e3]; omega) (by rw [e3]; exact vfit)
    rw [e3] at this
    refine this.mono ?_
    rintro r w' ⟨ga, gc, rfl, o, bb⟩
    exact ⟨ga, gc, rfl, MtsAt.own o.out, bb⟩
  have SV : Hid (∀ wx ga gc, Below W.heap.size W wx → Hid (MtsAt wx (.slice ga v.tabs.length gc) v.tabs) → Calls Tryz.prog 33 #[vv (.slice ta v.tabs.length tc) v.log v.seq v.next, vv (.slice ga v.tabs.length gc) v.log v.seq v.next] wx fun r w' => r = .returned (.bool true) ∧ Below wx.heap.size wx w') := fun wx ga gc hx hg =>
    samev_any wx ta ga tc gc v (hv.later (BX wx hx)) hg.out (by omega)
  -- the edit
  have EN1 : Mf.encE x = 0 → Hid (∀ wx, Below W.heap.size W wx → Calls Tryz.prog 27 #[ev (.slice a2 x.drops.length c2) (.slice a3 x.adds.length c3) x.log x.seq x.next] wx fun r w' => ∃ g n c, r = .returned (.tuple #[.slice (some ⟨g, 0, none⟩) n c, .int .i64 0]) ∧ Hid (n ≤ c ∧ BytesIn w' (.slice (some ⟨g, 0, none⟩) n c) (Mf.recB x) ∧ n = (Mf.recB x).length) ∧ Below wx.heap.size wx w') := fun he wx hx => by
    refine (encode_ok wx a2 a3 c2 c3 x (hd.later (BX wx hx)) (ha.later (BX wx hx)) xfit he).mono ?_
    rintro r w' ⟨g, n, c, rfl, hn, o, bb⟩
    exact ⟨g, n, c, rfl, bytes_of_enc hn.out o.out (Mf.recB_len he), bb⟩
  have EN0 : Mf.encE x ≠ 0 → Hid (∀ wx, Below W.heap.size W wx → Calls Tryz.prog 27 #[ev (.slice a2 x.drops.length c2) (.slice a3 x.adds.length c3) x.log x.seq x.next] wx fun r w' => r = .returned (.tuple #[.slice none 0 0, .int .i64 (Mf.encE x)]) ∧ Below wx.heap.size wx w') := fun he wx hx =>
    encode_bad wx a2 a3 c2 c3 x (hd.later (BX wx hx)) (ha.later (BX wx hx)) xfit he
  have DC : Mf.encE x = 0 → Hid (∀ wx g n c, Below W.heap.size W wx → Hid (n ≤ c ∧ BytesIn wx (.slice (some ⟨g, 0, none⟩) n c) (Mf.recB x) ∧ n = (Mf.recB x).length) → Calls Tryz.prog 29 #[.slice (some ⟨g, 0, none⟩) n c] wx fun r w' => ∃ ya yc za zc, r = .returned (.tuple #[ev (.slice ya x.drops.length yc) (.slice za x.adds.length zc) x.log x.seq x.next, .int .i64 0]) ∧ Hid (IzAt w' (.slice ya x.drops.length yc) x.drops) ∧ Hid (MtsAt w' (.slice za x.adds.length zc) x.adds) ∧ Below wx.heap.size wx w') := fun he wx g n c _ hg => by
    obtain ⟨h1, h2, rfl⟩ := hg.out
    obtain ⟨e1, e2⟩ := Mf.dec_back x he
    have := ydecode_any wx (some ⟨g, 0, none⟩) c (Mf.recB x) h2 h1 (by have := Mf.recB_len he; omega) (.inr ⟨g, 0, rfl⟩)
    rw [e1] at this
    refine this.mono ?_
    rintro r w' ⟨hh, bb⟩
    rcases hh.out with ⟨_, da, dc, aa, ac, rfl, o1, o2⟩ | ⟨hf, _⟩
    · exact ⟨da, dc, aa, ac, rfl, IzAt.own o1, MtsAt.own o2, bb⟩
    · rw [e2] at hf; cases hf
  have SE : Hid (∀ wx ya yc za zc, Below W.heap.size W wx → Hid (IzAt wx (.slice ya x.drops.length yc) x.drops) → Hid (MtsAt wx (.slice za x.adds.length zc) x.adds) → Calls Tryz.prog 35 #[ev (.slice a2 x.drops.length c2) (.slice a3 x.adds.length c3) x.log x.seq x.next, ev (.slice ya x.drops.length yc) (.slice za x.adds.length zc) x.log x.seq x.next] wx fun r w' => r = .returned (.bool true) ∧ Below wx.heap.size wx w') := fun wx ya yc za zc hx h1 h2 =>
    samee_any wx a2 a3 ya za c2 c3 yc zc x (hd.later (BX wx hx)) h1.out (ha.later (BX wx hx)) h2.out (by omega) (by omega)
  -- the bytes
  have DD : ∀ wx, Below W.heap.size W wx → _ := fun wx hx => ydecode_any wx ba bc b (hb.later (BX wx hx)) hbc (by omega) hno
  have DB1 : Mf.decOk b = true → Hid (∀ wx, Below W.heap.size W wx → Calls Tryz.prog 29 #[.slice ba b.length bc] wx fun r w' => ∃ ya yc za zc, r = .returned (.tuple #[ev (.slice ya (Mf.decX b).drops.length yc) (.slice za (Mf.decX b).adds.length zc) (Mf.decX b).log (Mf.decX b).seq (Mf.decX b).next, .int .i64 0]) ∧ Hid (IzAt w' (.slice ya (Mf.decX b).drops.length yc) (Mf.decX b).drops) ∧ Hid (MtsAt w' (.slice za (Mf.decX b).adds.length zc) (Mf.decX b).adds) ∧ Below wx.heap.size wx w') := fun hok wx hx => by
    refine (DD wx hx).mono ?_
    rintro r w' ⟨hh, bb⟩
    rcases hh.out with ⟨_, da, dc, aa, ac, rfl, o1, o2⟩ | ⟨hf, _⟩
    · exact ⟨da, dc, aa, ac, rfl, IzAt.own o1, MtsAt.own o2, bb⟩
    · rw [hok] at hf; cases hf
  have DB0 : Mf.decOk b = false → Hid (∀ wx, Below W.heap.size W wx → Calls Tryz.prog 29 #[.slice ba b.length bc] wx fun r w' => r = .returned (.tuple #[ev (.slice none 0 0) (.slice none 0 0) 0 0 0, .int .i64 5]) ∧ Below wx.heap.size wx w') := fun hok wx hx => by
    refine (DD wx hx).mono ?_
    rintro r w' ⟨hh, bb⟩
    rcases hh.out with ⟨hf, _⟩ | ⟨_, rfl⟩
    · rw [hok] at hf; cases hf
    · exact ⟨rfl, bb⟩
  have EY : Mf.decOk b = true → Hid (∀ wx ya yc za zc, Below W.heap.size W wx → Hid (IzAt wx (.slice ya (Mf.decX b).drops.length yc) (Mf.decX b).drops) → Hid (MtsAt wx (.slice za (Mf.decX b).adds.length zc) (Mf.decX b).adds) → Calls Tryz.prog 27 #[ev (.slice ya (Mf.decX b).drops.length yc) (.slice za (Mf.decX b).adds.length zc) (Mf.decX b).log (Mf.decX b).seq (Mf.decX b).next] wx fun r w' => ∃ g n c, r = .returned (.tuple #[.slice (some ⟨g, 0, none⟩) n c, .int .i64 0]) ∧ Hid (BytesIn w' (.slice (some ⟨g, 0, none⟩) n c) b) ∧ Below wx.heap.size wx w') := fun hok wx ya yc za zc _ h1 h2 => by
    obtain ⟨e1, e2⟩ := Mf.enc_back b hok
    refine (encode_ok wx ya za yc zc (Mf.decX b) h1.out h2.out (Mf.decX_fit hok).2.2 e2).mono ?_
    rintro r w' ⟨g, n, c, rfl, hn, o, bb⟩
    have := (bytes_of_enc hn.out o.out (Mf.recB_len e2)).2.1
    rw [e1] at this
    exact ⟨g, n, c, rfl, this, bb⟩
  have SB : Hid (∀ wx g n c, Below W.heap.size W wx → Hid (BytesIn wx (.slice (some ⟨g, 0, none⟩) n c) b) → Calls Tryz.prog 34 #[.slice (some ⟨g, 0, none⟩) n c, .slice ba b.length bc] wx fun r w' => r = .returned (.bool true) ∧ Below wx.heap.size wx w') := fun wx g n c hx h1 => by
    have := same_any wx _ _ b b h1.out (hb.later (BX wx hx))
    rw [decide_eq_true (rfl : b = b)] at this
    exact this
  have SZ : Hid (∀ wx, Calls Tryz.prog 35 #[ev (.slice none 0 0) (.slice none 0 0) 0 0 0, ev (.slice none 0 0) (.slice none 0 0) 0 0 0] wx fun r w' => r = .returned (.bool true) ∧ Below wx.heap.size wx w') := fun wx =>
    samee_any wx none none none none 0 0 0 0 ⟨[], [], 0, 0, 0⟩ (IzAt.nil _ _ _) (IzAt.nil _ _ _) (MtsAt.nil _ _ _) (MtsAt.nil _ _ _) (by decide) (by decide)
  have mM : (x.drops.length : Int) ≤ 60 := by omega
  have mL : (b.length : Int) ≤ 8000 := by omega
  cases hm : Mf.may v with
  | true =>
    have CK1 := CK
    rw [hm, if_pos rfl] at CK1
    by_cases he : Mf.encE x = 0
    · cases hk : Mf.decOk b with
      | true => exact way111 w W ta a2 a3 ba tc c2 c3 bc _ _ _ _ v x (Mf.decX b) b _ _ HW mM mL LV T1 T2 CK1 FR (BH hm) SV (EN1 he) (DC he) SE (DB1 hk) (EY hk) SB
      | false => exact way110 w W ta a2 a3 ba tc c2 c3 bc _ _ _ _ v x HW mM mL LV T1 T2 CK1 FR (BH hm) SV (EN1 he) (DC he) SE (DB0 hk) SZ
    · cases hk : Mf.decOk b with
      | true => exact way101 w W ta a2 a3 ba tc c2 c3 bc _ _ _ _ v x (Mf.decX b) b _ _ _ HW mM mL LV T1 T2 CK1 FR (BH hm) SV (EN0 he) (by simpa using he) (DB1 hk) (EY hk) SB
      | false => exact way100 w W ta a2 a3 ba tc c2 c3 bc _ _ _ _ v x _ HW mM mL LV T1 T2 CK1 FR (BH hm) SV (EN0 he) (by simpa using he) (DB0 hk) SZ
  | false =>
    have CK0 := CK
    rw [hm, if_neg (by decide)] at CK0
    by_cases he : Mf.encE x = 0
    · cases hk : Mf.decOk b with
      | true => exact way011 w W ta a2 a3 ba tc c2 c3 bc _ _ _ _ v x (Mf.decX b) b _ _ HW mM mL LV T1 T2 CK0 (EN1 he) (DC he) SE (DB1 hk) (EY hk) SB
      | false => exact way010 w W ta a2 a3 ba tc c2 c3 bc _ _ _ _ v x HW mM mL LV T1 T2 CK0 (EN1 he) (DC he) SE (DB0 hk) SZ
    · cases hk : Mf.decOk b with
      | true => exact way001 w W ta a2 a3 ba tc c2 c3 bc _ _ _ _ v x (Mf.decX b) b _ _ _ HW mM mL LV T1 T2 CK0 (EN0 he) (by simpa using he) (DB1 hk) (EY hk) SB
      | false => exact way000 w W ta a2 a3 ba tc c2 c3 bc _ _ _ _ v x _ HW mM mL LV T1 T2 CK0 (EN0 he) (by simpa using he) (DB0 hk) SZ
end manifestBack
end Go.Proofs.YtlhnjloimhcpfaaGreatDoor
