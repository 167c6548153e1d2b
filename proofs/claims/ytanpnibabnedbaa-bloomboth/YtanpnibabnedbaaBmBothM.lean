/-
  Two filters together have what either has: the walk where all is asked.
-/
import Derived.Test.YtanpnibabnedbaaBmBothW
namespace Go.Proofs.Ytanpnibabnedbaa.bloomBoth
open Go.RowKit
open Go.Proofs.Ytanpnibabnedbaa

set_option maxHeartbeats 6400000 in
theorem walk_ok (w : World) (a0 b0 : Option Addr) (ca cb La Lb n : Nat) (la lb : List ByteArray) (k : Nat) (key : ByteArray) (hLa : La = la.length) (hLb : Lb = lb.length) (ha : TextsIn w (.slice a0 La ca) la) (hb : TextsIn w (.slice b0 Lb cb) lb) (h1 : smallB la = true) (h2 : smallB lb = true) (h3 : key.size ≤ 600) (k1 : 1 ≤ k) (k2 : k ≤ 16) (hn : (n = Lb ∧ Lb < La) ∨ (n = La ∧ La ≤ Lb)) :
    Calls Try.prog 6 #[.slice a0 La ca, .slice b0 Lb cb, .int .i64 (k : Int), .string key] w fun e w' => e = .returned (.bool true) ∧ Below w.heap.size w w' := by
  have LV : Hid (Calls Try.prog 9 #[] w fun e w' => e = .returned (.bool true) ∧ Below w.heap.size w w') := lives_any w
  have SA : Hid (∀ wx, Below w.heap.size w wx → Calls Try.prog 12 #[.slice a0 La ca] wx fun e w' => e = .returned (.bool true) ∧ w' = wx) := fun wx hw => by rw [← h1]; exact small_any wx _ la (ha.later hw)
  have SB : Hid (∀ wx, Below w.heap.size w wx → Calls Try.prog 12 #[.slice b0 Lb cb] wx fun e w' => e = .returned (.bool true) ∧ w' = wx) := fun wx hw => by rw [← h2]; exact small_any wx _ lb (hb.later hw)
  have sa := (smallB_iff la).mp h1
  have sb := (smallB_iff lb).mp h2
  have pa := (TextsIn.cap_of ha).1
  have pb := (TextsIn.cap_of hb).1
  have ta : TextsIn w (.slice a0 n ca) (la.take n) := texts_take (by rw [← hLa]; exact ha) n (by omega)
  have tb : TextsIn w (.slice b0 n cb) (lb.take n) := texts_take (by rw [← hLb]; exact hb) n (by omega)
  have ka : (la.take n).length = n := by rw [List.length_take]; omega
  have kb : (lb.take n).length = n := by rw [List.length_take]; omega
  obtain ⟨xa, hxa⟩ : ∃ x, x = la.take n := ⟨_, rfl⟩
  obtain ⟨xb, hxb⟩ : ∃ x, x = lb.take n := ⟨_, rfl⟩
  have sza : ∀ s ∈ xa, s.size ≤ 600 := fun s hs => sa.2 s (by rw [hxa] at hs; exact List.mem_of_mem_take hs)
  have szb : ∀ s ∈ xb, s.size ≤ 600 := fun s hs => sb.2 s (by rw [hxb] at hs; exact List.mem_of_mem_take hs)
  rw [← hxa] at ta ka
  rw [← hxb] at tb kb
  have nn : n ≤ 200 := by omega
  have pa' : (La : Int) ≤ (ca : Int) := by omega
  have pb' : (Lb : Int) ≤ (cb : Int) := by omega
  have qa' : (n : Int) ≤ (ca : Int) := by omega
  have qb' : (n : Int) ≤ (cb : Int) := by omega
  obtain ⟨F, hF⟩ : ∃ F, F = Bm.filt (keysOf xa) k := ⟨_, rfl⟩
  obtain ⟨G, hG⟩ : ∃ G, G = Bm.filt (keysOf xb) k := ⟨_, rfl⟩
  obtain ⟨A, hA⟩ : ∃ A, A = Bm.both F G := ⟨_, rfl⟩
  obtain ⟨m, hm⟩ : ∃ m, m = Bm.bytes n k + 1 := ⟨_, rfl⟩
  have lF : F.length = m := by rw [hF, Bm.filt_length, hm]; simp [keysOf, ka]
  have lG : G.length = m := by rw [hG, Bm.filt_length, hm]; simp [keysOf, kb]
  have lA : A.length = m := by rw [hA, Bm.both_length F G (by omega)]; exact lF
  have okF : Bm.ok F = true := by rw [hF]; exact Bm.filt_ok _ _ k1 k2
  have okG : Bm.ok G = true := by rw [hG]; exact Bm.filt_ok _ _ k1 k2
  have hbl : (Bm.body (keysOf xa) k).length = (Bm.body (keysOf xb) k).length := by rw [Bm.body_length, Bm.body_length]; simp [keysOf, ka, kb]
  have okA : Bm.ok A = true := by rw [hA, hF, hG]; exact both_ok_is _ _ _ hbl (by have := okF; rw [hF] at this; exact this)
  have hasF : ∀ key, Bm.has F key = true → Bm.has A key = true := fun key hk => by
    rw [hA]; rw [hF] at hk ⊢; rw [hG]; exact (Bm.both_has _ _ _ hbl key).1 hk
  have hasG : ∀ key, Bm.has G key = true → Bm.has A key = true := fun key hk => by
    rw [hA]; rw [hG] at hk ⊢; rw [hF]; exact (Bm.both_has _ _ _ hbl key).2 hk
  have hm2 : m ≤ 100000 := by
    have : n * k ≤ 200 * 16 := Nat.mul_le_mul nn k2
    rw [hm]; unfold Bm.bytes; omega
  have OA : Hid (∀ wx, Below w.heap.size w wx → Calls Try.prog 7 #[.slice a0 n ca, .int .i64 (k : Int)] wx fun e w' => ∃ g, e = .returned (.tuple #[.slice (some ⟨g, 0, none⟩) m m, .int .i64 0]) ∧ Below wx.heap.size wx w' ∧ BytesIn w' (.slice (some ⟨g, 0, none⟩) m m) F) := fun wx hw => by
    refine (of_ok wx _ xa k (ta.later hw) (by omega) (fun s hs => by have := sza s hs; omega) k1 k2).mono ?_
    rintro e w' ⟨n', rfl, hn', x⟩
    rw [← hF] at hn' x
    obtain rfl : n' = m := by omega
    exact ⟨_, rfl, x.below (Nat.le_refl _) (by simp [Value.ownBlock]), bytes_of_own x.own (by omega)⟩
  have OB : Hid (∀ wx, Below w.heap.size w wx → Calls Try.prog 7 #[.slice b0 n cb, .int .i64 (k : Int)] wx fun e w' => ∃ g, e = .returned (.tuple #[.slice (some ⟨g, 0, none⟩) m m, .int .i64 0]) ∧ Below wx.heap.size wx w' ∧ BytesIn w' (.slice (some ⟨g, 0, none⟩) m m) G) := fun wx hw => by
    refine (of_ok wx _ xb k (tb.later hw) (by omega) (fun s hs => by have := szb s hs; omega) k1 k2).mono ?_
    rintro e w' ⟨n', rfl, hn', x⟩
    rw [← hG] at hn' x
    obtain rfl : n' = m := by omega
    exact ⟨_, rfl, x.below (Nat.le_refl _) (by simp [Value.ownBlock]), bytes_of_own x.own (by omega)⟩
  have BO : Hid (∀ wx g1 g2, BytesIn wx (.slice (some ⟨g1, 0, none⟩) m m) F → BytesIn wx (.slice (some ⟨g2, 0, none⟩) m m) G → Calls Try.prog 17 #[.slice (some ⟨g1, 0, none⟩) m m, .slice (some ⟨g2, 0, none⟩) m m] wx fun e w' => ∃ g, e = .returned (.tuple #[.slice (some ⟨g, 0, none⟩) m m, .int .i64 0]) ∧ Below wx.heap.size wx w' ∧ BytesIn w' (.slice (some ⟨g, 0, none⟩) m m) A) := fun wx g1 g2 x1 x2 => by
    obtain ⟨⟨a', c', e', hf'⟩, _⟩ := x1
    simp only [Value.slice.injEq] at e'
    obtain ⟨b', o', e'', at1⟩ := hf' (by intro h; rw [h] at lF; have := (ok_iff F).mp okF; rw [h] at this; simp at this)
    rw [← e'.1] at e''
    obtain ⟨rfl, rfl⟩ : g1 = b' ∧ 0 = o' := by simpa using e''
    obtain ⟨⟨a'', c'', f', hg'⟩, _⟩ := x2
    simp only [Value.slice.injEq] at f'
    obtain ⟨b'', o'', f'', at2⟩ := hg' (by intro h; rw [h] at lG; have := (ok_iff G).mp okG; rw [h] at this; simp at this)
    rw [← f'.1] at f''
    obtain ⟨rfl, rfl⟩ : g2 = b'' ∧ 0 = o'' := by simpa using f''
    have := both_ok wx g1 0 m g2 0 m F G at1 at2 (by omega) okF okG (by omega) (by rw [hF, hG]; rfl)
    rw [lF, lG] at this
    refine this.mono ?_
    rintro e w' ⟨B, rfl, x⟩
    rw [← hA] at x
    exact ⟨B, rfl, x.below (Nat.le_refl _) (by simp [Value.ownBlock]), bytes_of_own x.own (by omega)⟩
  have HS : Hid (∀ wx g (s : ByteArray), (s ∈ xa ∨ s ∈ xb) → BytesIn wx (.slice (some ⟨g, 0, none⟩) m m) A → Calls Try.prog 8 #[.slice (some ⟨g, 0, none⟩) m m, .string s] wx fun e w' => e = .returned (.tuple #[.bool true, .int .i64 0]) ∧ Below wx.heap.size wx w') := fun wx g s hs hx => by
    have hz : s.size ≤ 600 := by
      rcases hs with h | h
      · exact sza s h
      · exact szb s h
    have := has_any wx (some ⟨g, 0, none⟩) m A s (by rw [lA]; exact hx) (by omega) (by omega)
    have hh : Bm.has A s.data.toList = true := by
      rcases hs with h | h
      · exact hasF _ (by rw [hF]; exact Bm.filt_has _ _ k1 k2 _ (List.mem_map_of_mem (f := fun s : ByteArray => s.data.toList) h))
      · exact hasG _ (by rw [hG]; exact Bm.filt_has _ _ k1 k2 _ (List.mem_map_of_mem (f := fun s : ByteArray => s.data.toList) h))
    rwa [okE_ok okA, okA, hh, lA] at this
  obtain ⟨X, hX⟩ : ∃ X, X = Bm.has F key.data.toList := ⟨_, rfl⟩
  obtain ⟨Y, hY⟩ : ∃ Y, Y = Bm.has A key.data.toList := ⟨_, rfl⟩
  have XY : X = true → Y = true := fun h => by rw [hY]; exact hasF _ (by rw [← hX]; exact h)
  have HX : Hid (∀ wx g, BytesIn wx (.slice (some ⟨g, 0, none⟩) m m) F → Calls Try.prog 8 #[.slice (some ⟨g, 0, none⟩) m m, .string key] wx fun e w' => e = .returned (.tuple #[.bool X, .int .i64 0]) ∧ Below wx.heap.size wx w') := fun wx g hx => by
    have := has_any wx (some ⟨g, 0, none⟩) m F key (by rw [lF]; exact hx) (by omega) (by omega)
    rwa [okE_ok okF, okF, ← hX, lF] at this
  have HY : Hid (∀ wx g, BytesIn wx (.slice (some ⟨g, 0, none⟩) m m) A → Calls Try.prog 8 #[.slice (some ⟨g, 0, none⟩) m m, .string key] wx fun e w' => e = .returned (.tuple #[.bool Y, .int .i64 0]) ∧ Below wx.heap.size wx w') := fun wx g hx => by
    have := has_any wx (some ⟨g, 0, none⟩) m A key (by rw [lA]; exact hx) (by omega) (by omega)
    rwa [okE_ok okA, okA, ← hY, lA] at this
  have KA : Hid (∀ j, j < n → ∃ b off s, a0 = some ⟨b, off, none⟩ ∧ w.cell? ⟨b, off + j, none⟩ = some (.string s) ∧ (s ∈ xa ∨ s ∈ xb)) := fun j hj => by
    obtain ⟨a', c', e', _, _, _, hf'⟩ := ta
    simp only [Value.slice.injEq] at e'
    obtain ⟨b, off, e'', hat⟩ := hf' (by intro h; rw [h] at ka; simp at ka; omega)
    exact ⟨b, off, _, by rw [e'.1]; exact e'', hat j (by omega), .inl (List.getElem_mem _)⟩
  have KB : Hid (∀ j, j < n → ∃ b off s, b0 = some ⟨b, off, none⟩ ∧ w.cell? ⟨b, off + j, none⟩ = some (.string s) ∧ (s ∈ xa ∨ s ∈ xb)) := fun j hj => by
    obtain ⟨a', c', e', _, _, _, hf'⟩ := tb
    simp only [Value.slice.injEq] at e'
    obtain ⟨b, off, e'', hat⟩ := hf' (by intro h; rw [h] at kb; simp at kb; omega)
    exact ⟨b, off, _, by rw [e'.1]; exact e'', hat j (by omega), .inr (List.getElem_mem _)⟩
  have i6 : ¬ (key.size : Int) > 600 := by omega
  have iM : ((m : Int) != (m : Int)) = false := by simp
  clear hF hG hA hm lF lG lA okF okG okA hbl hasF hasG hX hY ta tb ka kb sza szb hxa hxb sa sb ha hb h1 h2 hLa hLb
  have HM : Hid ((n = Lb ∧ Lb < La) ∨ (n = La ∧ La ≤ Lb)) := hn
  clear hn
  rcases HM.out with ⟨rfl, hlt⟩ | ⟨rfl, hle⟩
  · have hm' : (n : Int) < (La : Int) := by omega
    clear HM
    go_enter Try.func6, Try.ntmps6
    go_wp2_with (first
      | (go_at_call 9; refine LV.out.mono ?_; rintro e w1 ⟨rfl, b1⟩; clear LV)
      | (have gate := SA; go_at_call 12; refine (gate.out _ b1).mono ?_; rintro e w2 ⟨rfl, rfl⟩; clear SA gate)
      | (have gate := SB; go_at_call 12; refine (gate.out _ b1).mono ?_; rintro e w2 ⟨rfl, rfl⟩; clear SB gate)
      | (have gate := OA; go_at_call 7; refine (gate.out _ b1).mono ?_; rintro e w3 ⟨g3, rfl, b3, x3⟩; have B3 := b1.trans (b3.mono b1.size); clear OA gate b3)
      | (have gate := OB; go_at_call 7; refine (gate.out _ B3).mono ?_; rintro e w4 ⟨g4, rfl, b4, x4⟩; have B4 := B3.trans (b4.mono B3.size); have y4 := x3.later b4; clear OB gate b4 x3)
      | (go_at_call 17; refine (BO.out _ _ _ y4 x4).mono ?_; rintro e w5 ⟨g5, rfl, b5, x5⟩; have B5 := B4.trans (b5.mono B4.size); have y5 := y4.later b5; clear BO b5 x4 y4))
    go_loopw [16] (fun i wr => ∃ j : Nat, j ≤ n ∧ i = .int .i64 j ∧ Below w.heap.size w wr ∧ BytesIn wr (.slice (some ⟨g5, 0, none⟩) m m) A ∧ BytesIn wr (.slice (some ⟨g3, 0, none⟩) m m) F) (fun i _ => n - (intOf i).toNat)
    case atStart => exact ⟨0, Nat.zero_le _, rfl, B5, x5, y5⟩
    case round =>
      clear B5 x5 y5
      obtain ⟨j, hj, rfl, bx, xx, yy⟩ := hrel
      by_cases hjn : j < n
      · obtain ⟨p, off, s, rfl, cA, mA⟩ := KA.out j hjn
        obtain ⟨p2, off2, s2, rfl, cB, mB⟩ := KB.out j hjn
        have d1 := keepC bx cA
        have d2 := keepC bx cB
        have jn : (j : Int) < (n : Int) := by omega
        have ja : (j : Int) < (La : Int) := by omega
        have jb : (j : Int) < (n : Int) := by omega
        have MA : Hid (s ∈ xa ∨ s ∈ xb) := mA
        have MB : Hid (s2 ∈ xa ∨ s2 ∈ xb) := mB
        clear mA mB cA HX HY XY
        go_wp2_with (first
          | (have gate := MA; go_at_call 8; refine (HS.out _ _ _ gate.out xx).mono ?_; rintro e w6 ⟨rfl, b6⟩; have x6 := xx.later b6; have y6 := yy.later b6; have d6 := keepC b6 d2; have B6 := bx.trans (b6.mono bx.size); clear MA gate xx yy d1 d2 b6)
          | (have gate := MB; go_at_call 8; refine (HS.out _ _ _ gate.out x6).mono ?_; rintro e w7 ⟨rfl, b7⟩; have x7 := x6.later b7; have y7 := y6.later b7; have B7 := B6.trans (b7.mono B6.size); clear MB gate x6 y6 b7))
        exact ⟨⟨j + 1, by omega, by go_num, B7, x7, y7⟩, by simp [intOf]; omega⟩
      · have jn : ¬ (j : Int) < (n : Int) := by omega
        clear HS
        cases X
        · go_wp2_with (first
            | (have gate := HX; go_at_call 8; refine (gate.out _ _ yy).mono ?_; rintro e w6 ⟨rfl, b6⟩; have x6 := xx.later b6; have B6 := bx.trans (b6.mono bx.size); clear HX gate xx yy b6)
            | (have gate := HY; go_at_call 8; refine (gate.out _ _ x6).mono ?_; rintro e w7 ⟨rfl, b7⟩; have B7 := B6.trans (b7.mono B6.size); clear HY gate x6 b7))
          go_ret
          exact ⟨rfl, B7⟩
        · obtain rfl := XY rfl
          go_wp2_with (first
            | (have gate := HX; go_at_call 8; refine (gate.out _ _ yy).mono ?_; rintro e w6 ⟨rfl, b6⟩; have x6 := xx.later b6; have B6 := bx.trans (b6.mono bx.size); clear HX gate xx yy b6)
            | (have gate := HY; go_at_call 8; refine (gate.out _ _ x6).mono ?_; rintro e w7 ⟨rfl, b7⟩; have B7 := B6.trans (b7.mono B6.size); clear HY gate x6 b7))
          go_ret
          exact ⟨rfl, B7⟩
  · have hm' : ¬ (Lb : Int) < (n : Int) := by omega
    have hm2 : (n : Int) ≤ (Lb : Int) := by omega
    clear HM
    go_enter Try.func6, Try.ntmps6
    go_wp2_with (first
      | (go_at_call 9; refine LV.out.mono ?_; rintro e w1 ⟨rfl, b1⟩; clear LV)
      | (have gate := SA; go_at_call 12; refine (gate.out _ b1).mono ?_; rintro e w2 ⟨rfl, rfl⟩; clear SA gate)
      | (have gate := SB; go_at_call 12; refine (gate.out _ b1).mono ?_; rintro e w2 ⟨rfl, rfl⟩; clear SB gate)
      | (have gate := OA; go_at_call 7; refine (gate.out _ b1).mono ?_; rintro e w3 ⟨g3, rfl, b3, x3⟩; have B3 := b1.trans (b3.mono b1.size); clear OA gate b3)
      | (have gate := OB; go_at_call 7; refine (gate.out _ B3).mono ?_; rintro e w4 ⟨g4, rfl, b4, x4⟩; have B4 := B3.trans (b4.mono B3.size); have y4 := x3.later b4; clear OB gate b4 x3)
      | (go_at_call 17; refine (BO.out _ _ _ y4 x4).mono ?_; rintro e w5 ⟨g5, rfl, b5, x5⟩; have B5 := B4.trans (b5.mono B4.size); have y5 := y4.later b5; clear BO b5 x4 y4))
    go_loopw [16] (fun i wr => ∃ j : Nat, j ≤ n ∧ i = .int .i64 j ∧ Below w.heap.size w wr ∧ BytesIn wr (.slice (some ⟨g5, 0, none⟩) m m) A ∧ BytesIn wr (.slice (some ⟨g3, 0, none⟩) m m) F) (fun i _ => n - (intOf i).toNat)
    case atStart => exact ⟨0, Nat.zero_le _, rfl, B5, x5, y5⟩
    case round =>
      clear B5 x5 y5
      obtain ⟨j, hj, rfl, bx, xx, yy⟩ := hrel
      by_cases hjn : j < n
      · obtain ⟨p, off, s, rfl, cA, mA⟩ := KA.out j hjn
        obtain ⟨p2, off2, s2, rfl, cB, mB⟩ := KB.out j hjn
        have d1 := keepC bx cA
        have d2 := keepC bx cB
        have jn : (j : Int) < (n : Int) := by omega
        have ja : (j : Int) < (n : Int) := by omega
        have jb : (j : Int) < (Lb : Int) := by omega
        have MA : Hid (s ∈ xa ∨ s ∈ xb) := mA
        have MB : Hid (s2 ∈ xa ∨ s2 ∈ xb) := mB
        clear mA mB cA HX HY XY
        go_wp2_with (first
          | (have gate := MA; go_at_call 8; refine (HS.out _ _ _ gate.out xx).mono ?_; rintro e w6 ⟨rfl, b6⟩; have x6 := xx.later b6; have y6 := yy.later b6; have d6 := keepC b6 d2; have B6 := bx.trans (b6.mono bx.size); clear MA gate xx yy d1 d2 b6)
          | (have gate := MB; go_at_call 8; refine (HS.out _ _ _ gate.out x6).mono ?_; rintro e w7 ⟨rfl, b7⟩; have x7 := x6.later b7; have y7 := y6.later b7; have B7 := B6.trans (b7.mono B6.size); clear MB gate x6 y6 b7))
        exact ⟨⟨j + 1, by omega, by go_num, B7, x7, y7⟩, by simp [intOf]; omega⟩
      · have jn : ¬ (j : Int) < (n : Int) := by omega
        clear HS
        cases X
        · go_wp2_with (first
            | (have gate := HX; go_at_call 8; refine (gate.out _ _ yy).mono ?_; rintro e w6 ⟨rfl, b6⟩; have x6 := xx.later b6; have B6 := bx.trans (b6.mono bx.size); clear HX gate xx yy b6)
            | (have gate := HY; go_at_call 8; refine (gate.out _ _ x6).mono ?_; rintro e w7 ⟨rfl, b7⟩; have B7 := B6.trans (b7.mono B6.size); clear HY gate x6 b7))
          go_ret
          exact ⟨rfl, B7⟩
        · obtain rfl := XY rfl
          go_wp2_with (first
            | (have gate := HX; go_at_call 8; refine (gate.out _ _ yy).mono ?_; rintro e w6 ⟨rfl, b6⟩; have x6 := xx.later b6; have B6 := bx.trans (b6.mono bx.size); clear HX gate xx yy b6)
            | (have gate := HY; go_at_call 8; refine (gate.out _ _ x6).mono ?_; rintro e w7 ⟨rfl, b7⟩; have B7 := B6.trans (b7.mono B6.size); clear HY gate x6 b7))
          go_ret
          exact ⟨rfl, B7⟩

theorem walk (w : World) (a0 b0 : Option Addr) (ca cb : Nat) (la lb : List ByteArray) (d : Int) (key : ByteArray) (ha : TextsIn w (.slice a0 la.length ca) la) (hb : TextsIn w (.slice b0 lb.length cb) lb) :
    Calls Try.prog 6 #[.slice a0 la.length ca, .slice b0 lb.length cb, .int .i64 d, .string key] w fun e w' => e = .returned (.bool true) ∧ Below w.heap.size w w' := by
  by_cases hbig : smallB la = false ∨ smallB lb = false ∨ 600 < key.size
  · exact walk_big w a0 b0 ca cb la lb d key ha hb hbig
  · have h1 : smallB la = true := by cases h : smallB la; exact absurd (.inl h) hbig; rfl
    have h2 : smallB lb = true := by cases h : smallB lb; exact absurd (.inr (.inl h)) hbig; rfl
    have h3 : key.size ≤ 600 := by
      rcases Nat.lt_or_ge 600 key.size with h | h
      · exact absurd (.inr (.inr h)) hbig
      · exact h
    by_cases hd : d < 1 ∨ 16 < d
    · exact walk_bad w a0 b0 ca cb la lb d key ha hb h1 h2 h3 hd
    · obtain ⟨k, rfl⟩ : ∃ k : Nat, d = k := ⟨d.toNat, by omega⟩
      exact walk_ok w a0 b0 ca cb _ _ (min la.length lb.length) la lb k key rfl rfl ha hb h1 h2 h3 (by omega) (by omega) (by omega)
end Go.Proofs.Ytanpnibabnedbaa.bloomBoth
