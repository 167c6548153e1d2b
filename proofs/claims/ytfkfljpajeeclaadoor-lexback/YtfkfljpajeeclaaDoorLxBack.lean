/-
  What was told is read as the same tokens: the law's walk at any text and any tokens.
-/
import Derived.Test.YtfkfljpajeeclaaDoorLxP1
import Derived.Test.YtfkfljpajeeclaaDoorLxP2
import Derived.Test.YtfkfljpajeeclaaDoorLxP3
namespace Go.Proofs.YtfkfljpajeeclaaDoor
open Go.RowKit
attribute [local go_sem ↓] Go.wp_at_zero Go.wp_at_succ

theorem back_off (w : World) (s : ByteArray) (al : Option Addr) (n cap : Nat) (hT : Tabs w) (h : s.size > 4000 ∨ n > 200) : Calls Tryd.prog 5 #[.string s, .slice al n cap] w fun e w' => e = .returned (.bool true) ∧ Below w.heap.size w w' := by
  have LV := hide (lives_any w hT.two)
  clear hT
  by_cases hs : s.size > 4000
  · have hsi : (s.size : Int) > 4000 := by omega
    clear h
    go_enter Tryd.func5, Tryd.ntmps5
    go_wp2_with (go_at_call 12; refine LV.out.mono ?_; rintro e w1 ⟨rfl, hz⟩)
    go_ret
    exact ⟨rfl, hz⟩
  · have hsi : ¬ (s.size : Int) > 4000 := by omega
    have hli : (n : Int) > 200 := by omega
    clear h
    go_enter Tryd.func5, Tryd.ntmps5
    go_wp2_with (go_at_call 12; refine LV.out.mono ?_; rintro e w1 ⟨rfl, hz⟩)
    go_ret
    exact ⟨rfl, hz⟩

theorem lexBack_walk (w : World) (s : ByteArray) (al : Option Addr) (cap : Nat) (l : List Lx.Tk) (hin : TksIn w (.slice al l.length cap) l) (hT : Tabs w) : Calls Tryd.prog 5 #[.string s, .slice al l.length cap] w fun e w' => e = .returned (.bool true) ∧ Below w.heap.size w w' := by
  by_cases h : s.size > 4000 ∨ l.length > 200
  · exact back_off w s al l.length cap hT h
  · have hs : s.size ≤ 4000 := by omega
    have hl : l.length ≤ 200 := by omega
    obtain ⟨t3, ht3⟩ : ∃ t : ByteArray, t = ⟨(Lx.textL l).toArray⟩ := ⟨_, rfl⟩
    have e3 : t3.data.toList = Lx.textL l := by rw [ht3]
    cases h1 : Lx.lexA s.data.toList 0 with
    | error x =>
      obtain ⟨X, P⟩ := x
      have hX : ¬ X = 0 := (Lx.lexA_no h1).1
      cases hb : Lx.badAt l with
      | some i => exact back_11 w s al cap l hin hT hs hl X P hX h1 i hb
      | none =>
        have hm := (Lx.bad_none l).1 hb
        by_cases h3 : t3.size ≤ 65536
        · obtain ⟨q3, hq3, hm3⟩ := Lx.lex_text l 0 hm
          exact back_12 w s al cap l hin hT hs hl X P hX h1 hm t3 ht3 h3 q3 (by rw [e3]; exact hq3) hm3
        · exact back_13 w s al cap l hin hT hs hl X P hX h1 hm t3 ht3 (by omega)
    | ok q =>
      obtain ⟨Q, hQ⟩ : ∃ Q, q.map Lx.unp = Q := ⟨_, rfl⟩
      obtain ⟨t1, ht1⟩ : ∃ t : ByteArray, t = ⟨(Lx.textL Q).toArray⟩ := ⟨_, rfl⟩
      have e1 : t1.data.toList = Lx.textL Q := by rw [ht1]
      have hu := unp_may (s := s.data.toList) (by rw [l_size]; omega) h1
      rw [hQ] at hu
      have hQ2 : (∀ x ∈ Q, Twf x ∧ Lx.mayT x = true) ∧ Q.length ≤ 4000 := ⟨hu.1, by rw [← hQ, List.length_map]; have := hu.2; rw [l_size] at this; omega⟩
      by_cases h2 : t1.size ≤ 65536
      · obtain ⟨q2, hq2, hm2⟩ := Lx.lex_text Q 0 (fun x hx => (hQ2.1 x hx).2)
        rw [← e1] at hq2
        cases hb : Lx.badAt l with
        | some i => exact back_21 w s al cap l hin hT hs hl q Q h1 hQ hQ2 t1 ht1 h2 q2 hq2 hm2 i hb
        | none =>
          have hm := (Lx.bad_none l).1 hb
          by_cases h3 : t3.size ≤ 65536
          · obtain ⟨q3, hq3, hm3⟩ := Lx.lex_text l 0 hm
            exact back_22 w s al cap l hin hT hs hl q Q h1 hQ hQ2 t1 ht1 h2 q2 hq2 hm2 hm t3 ht3 h3 q3 (by rw [e3]; exact hq3) hm3
          · exact back_23 w s al cap l hin hT hs hl q Q h1 hQ hQ2 t1 ht1 h2 q2 hq2 hm2 hm t3 ht3 (by omega)
      · have h2' : 65536 < t1.size := by omega
        cases hb : Lx.badAt l with
        | some i => exact back_31 w s al cap l hin hT hs hl q Q h1 hQ hQ2 t1 ht1 h2' i hb
        | none =>
          have hm := (Lx.bad_none l).1 hb
          by_cases h3 : t3.size ≤ 65536
          · obtain ⟨q3, hq3, hm3⟩ := Lx.lex_text l 0 hm
            exact back_32 w s al cap l hin hT hs hl q Q h1 hQ hQ2 t1 ht1 h2' hm t3 ht3 h3 q3 (by rw [e3]; exact hq3) hm3
          · exact back_33 w s al cap l hin hT hs hl q Q h1 hQ hQ2 t1 ht1 h2' hm t3 ht3 (by omega)
end Go.Proofs.YtfkfljpajeeclaaDoor
