/-
  The text of a tuple: of any list of values, wherever it lies, the call answers its text and 0, or no text and the error that the document names, and leaves all that was there as it was.
-/
import Derived.Test.YtbcbdaaaglkjhaaVal
import Derived.Laws.IdiomStrings
import Derived.Laws.BytesArg
namespace Go.Proofs.Ytbcbdaaaglkjhaa
open Go.RowKit

/-- A value of the language. -/
structure Val where
  k : Int
  n : Int
  t : ByteArray

def Val.may (v : Val) : Bool := mayV v.k v.n v.t
def Val.text (v : Val) : List UInt8 := vtext v.k v.n v.t
/-- Its parts fit their kinds. -/
structure Val.wf (v : Val) : Prop where
  k0 : 0 ≤ v.k
  k1 : v.k ≤ 255
  n0 : -9223372036854775808 ≤ v.n
  n1 : v.n ≤ 9223372036854775807
  t1 : v.t.size ≤ maxLen

/-- The bytes of a tuple. -/
def tupB (vs : List Val) : List UInt8 := vs.flatMap Val.text
def tupE (vs : List Val) : Int := if 16 < vs.length then 3 else if vs.all Val.may then 0 else 2
def tupS (vs : List Val) : ByteArray := if tupE vs = 0 then ⟨(tupB vs).toArray⟩ else ByteArray.empty

theorem text_length (v : Val) (h : v.may = true) : v.text.length ≤ 131 := by
  simp only [Val.may, mayV, Bool.or_eq_true, Bool.and_eq_true, beq_iff_eq, decide_eq_true_eq] at h
  unfold Val.text vtext
  have he := esc_length v.t.data.toList
  have hz : v.t.data.toList.length = v.t.size := by rw [Array.length_toList]; rfl
  split
  · simp
  · split
    · simp [high_length]
    · split
      · simp; omega
      · simp

theorem tupB_length (vs : List Val) (h : vs.all Val.may = true) : (tupB vs).length ≤ 131 * vs.length := by
  induction vs with
  | nil => simp [tupB]
  | cons v vs ih =>
    simp only [List.all_cons, Bool.and_eq_true] at h
    have h1 := text_length v h.1
    have h2 := ih h.2
    have e : tupB (v :: vs) = v.text ++ tupB vs := by simp [tupB]
    rw [e, List.length_append, List.length_cons]
    omega

theorem tupB_snoc (vs : List Val) (j : Nat) (h : j < vs.length) : tupB (vs.take (j + 1)) = tupB (vs.take j) ++ (vs[j]).text := by
  rw [List.take_succ_eq_append_getElem h]; simp only [tupB, List.flatMap_append, List.flatMap_cons, List.flatMap_nil, List.append_nil]

/-- Where the values of a slice lie. -/
def ValsAt (w : World) (b off : Nat) (vs : List Val) : Prop := ∀ j (h : j < vs.length),
  w.cell? ⟨b, off + j * 3, none⟩ = some (.int .u8 (vs[j]).k) ∧ w.cell? ⟨b, off + j * 3 + 1, none⟩ = some (.int .i64 (vs[j]).n) ∧ w.cell? ⟨b, off + j * 3 + 2, none⟩ = some (.string (vs[j]).t)

/-- A text made of bytes that the call owns. -/
theorem Ext.str {base : Nat} {a b : World} {u v : Value} {l : List UInt8} (h : Ext base a u b v l) : (convert 22 9 v).run Try.prog b = .ok (.string ⟨l.toArray⟩) b := by
  rcases h.own.2 with ⟨rfl, h0⟩ | ⟨g, cap, cur, hv, _⟩
  · have : l = [] := List.eq_nil_of_length_eq_zero h0
    subst this
    exact run_convert_bytes_nil b 22 5 Try.underlying22 Try.underlying5 0 0 _ Try.underlying9
  · have ho := h.own
    subst hv
    refine run_convert_bytes_back b 22 9 5 ⟨g, 0, none⟩ cap l Try.underlying22 Try.underlying5 Try.underlying9 ?_
    intro j hj
    have hadd : (⟨g, 0, none⟩ : Addr).add j = ⟨g, j, none⟩ := by unfold Addr.add; split <;> simp_all
    rw [hadd, ho.cellAt j (by omega), bc_get l j hj]

set_option maxHeartbeats 800000 in
theorem tuple_some (w : World) (b off cap : Nat) (vs : List Val) (hwf : ∀ v ∈ vs, v.wf) (hv : ValsAt w b off vs) (hlen : vs.length ≤ 16) :
    Calls Try.prog 10 #[.slice (some ⟨b, off, none⟩) vs.length cap] w fun e w' => e = .returned (.tuple #[.string (tupS vs), .int .i64 (tupE vs)]) ∧ Below w.heap.size w w' := by
  go_enter Try.func10, Try.ntmps10
  go_wp2
  go_loopw [4, 13] (fun l i wr => ∃ (j : Nat) (m : List UInt8), j ≤ vs.length ∧ i = .int .i64 j ∧ Ext w.heap.size w (.slice none 0 0) wr l m ∧ m = tupB (vs.take j) ∧ (vs.take j).all Val.may = true) (fun _ i _ => vs.length - (intOf i).toNat)
  case atStart => exact ⟨0, [], Nat.zero_le _, rfl, Ext.nil _ _, by simp [tupB], by simp⟩
  case round =>
    obtain ⟨j, m, hj, rfl, hext, hm, hall⟩ := hrel
    have hl : m.length ≤ 100000 := by
      have h1 := tupB_length _ hall
      have h2 : (vs.take j).length ≤ j := List.length_take_le _ _
      rw [hm]; omega
    have HM : Hid (m = tupB (vs.take j)) := hm
    have HA : Hid ((vs.take j).all Val.may = true) := hall
    clear hm hall
    have hs := hext.size
    by_cases hlt : j < vs.length
    · obtain ⟨c0, c1, c2⟩ := hv j hlt
      have d0 := hext.keeps c0 (by simp [Value.ownBlock])
      have d1 := hext.keeps c1 (by simp [Value.ownBlock])
      have d2 := hext.keeps c2 (by simp [Value.ownBlock])
      clear c0 c1 c2
      have W := hwf _ (List.getElem_mem hlt)
      have W1 := W.n0
      have W2 := W.n1
      have W3 := W.t1
      have HT : Hid ((vs.take (j + 1)).all Val.may = (vs[j]).may) := by
        show _ = _
        rw [List.take_succ_eq_append_getElem hlt, List.all_append, HA.out]; simp
      have HB : Hid (tupB (vs.take (j + 1)) = tupB (vs.take j) ++ (vs[j]).text) := tupB_snoc vs j hlt
      clear W
      by_cases hmay : mayV (vs[j]).k (vs[j]).n (vs[j]).t = true
      · have hchk : chk (vs[j]).k (vs[j]).n (vs[j]).t = 0 := by unfold chk; rw [hmay]; rfl
        have HMY : Hid (mayV (vs[j]).k (vs[j]).n (vs[j]).t = true) := hmay
        clear hmay
        have ho := (hext.own.alloc (.cells #[.int .u8 (vs[j]).k, .int .i64 (vs[j]).n, .string (vs[j]).t] 32)).alloc (.cells #[.int .u8 (vs[j]).k, .int .i64 (vs[j]).n, .string (vs[j]).t] 32)
        have hbb : w.heap.size ≤ ((wr.alloc (.cells #[.int .u8 (vs[j]).k, .int .i64 (vs[j]).n, .string (vs[j]).t] 32)).alloc (.cells #[.int .u8 (vs[j]).k, .int .i64 (vs[j]).n, .string (vs[j]).t] 32)).heap.size := by simp; omega
        go_wp2_with (first
          | (go_at_call 33; refine (check_any _ _ _ _ W3).mono ?_; rintro e w' ⟨rfl, rfl⟩)
          | (go_at_call 44; refine (appendValue_any _ w.heap.size _ m _ _ _ ho hbb hl W1 W2 HMY.out).mono ?_; rintro e w2 ⟨v2, rfl, hx2⟩))
        have R := ((hext.alloc _).alloc _).trans hx2
        go_roundw
        case rel => exact ⟨j + 1, _, by omega, by go_num, R, by rw [HM.out, HB.out]; rfl, by rw [HT.out]; exact HMY.out⟩
        case measure => simp [intOf]; omega
      · have hchk : chk (vs[j]).k (vs[j]).n (vs[j]).t = 2 := by unfold chk; rw [if_neg hmay]
        have hno : (vs[j]).may = false := by simpa [Val.may] using hmay
        have hte : tupE vs = 2 := by
          unfold tupE
          rw [if_neg (by omega), if_neg]
          intro h
          have := List.all_eq_true.mp h _ (List.getElem_mem hlt)
          rw [hno] at this; cases this
        have HE : Hid (tupE vs = 2) := hte
        clear hmay hno hte
        go_wp2_with (go_at_call 33; refine (check_any _ _ _ _ W3).mono ?_; rintro e w' ⟨rfl, rfl⟩)
        go_ret2
        have E2 := HE.out
        exact ⟨by unfold tupS; rw [E2]; rfl, (((Below.refl _ _).grown hext.grown (Nat.le_refl _) (by simp [Value.ownBlock])).alloc (by omega) _).alloc (by simp; omega) _⟩
    · have e : j = vs.length := by omega
      have HE : Hid (tupE vs = 0) := by
        show _ = _
        have h := HA.out
        rw [List.take_of_length_le (by omega)] at h
        unfold tupE
        rw [if_neg (by omega), if_pos h]
      have HS : Hid ((⟨m.toArray⟩ : ByteArray) = tupS vs) := by
        show _ = _
        unfold tupS
        rw [if_pos HE.out, HM.out, List.take_of_length_le (by omega)]
      have hcv := hext.str
      go_wp2
      go_ret2
      exact ⟨by rw [HE.out, ← HS.out]; rfl, (Below.refl _ _).grown hext.grown (Nat.le_refl _) (by simp [Value.ownBlock])⟩

/-- A slice whose values are vs. -/
structure ValsIn (w : World) (v : Value) (vs : List Val) : Prop where
  form : ∃ a cap, v = .slice a vs.length cap ∧ (vs ≠ [] → ∃ b off, a = some ⟨b, off, none⟩ ∧ ValsAt w b off vs)
  wf : ∀ v ∈ vs, v.wf
  len : vs.length ≤ 1099511627776000

set_option maxHeartbeats 400000 in
theorem tuple_long (w : World) (a : Option Addr) (cap n : Nat) (hn : 16 < n) (hlen : n ≤ 1099511627776000) :
    Calls Try.prog 10 #[.slice a n cap] w fun e w' => e = .returned (.tuple #[.string ByteArray.empty, .int .i64 3]) ∧ w' = w := by
  have h : (16 : Int) < (n : Int) := by omega
  go_enter Try.func10, Try.ntmps10
  go_wp2
  go_ret2
  exact ⟨rfl, rfl⟩

set_option maxHeartbeats 400000 in
theorem tuple_none (w : World) (a : Option Addr) (cap : Nat) :
    Calls Try.prog 10 #[.slice a 0 cap] w fun e w' => e = .returned (.tuple #[.string ByteArray.empty, .int .i64 0]) ∧ w' = w := by
  have hcv := run_convert_bytes_nil w 22 5 Try.underlying22 Try.underlying5 0 0 9 Try.underlying9
  go_enter Try.func10, Try.ntmps10
  go_wp2
  refine wp_loop_rounds 1 ?_
  rw [rounds_succ]
  go_wp2
  go_ret2
  exact ⟨rfl, rfl⟩

theorem tuple_any (w : World) (v : Value) (vs : List Val) (h : ValsIn w v vs) :
    Calls Try.prog 10 #[v] w fun e w' => e = .returned (.tuple #[.string (tupS vs), .int .i64 (tupE vs)]) ∧ Below w.heap.size w w' := by
  obtain ⟨⟨a, cap, rfl, hf⟩, hwf, hlen⟩ := h
  by_cases h16 : 16 < vs.length
  · refine (tuple_long w a cap vs.length h16 hlen).mono ?_
    rintro e w' ⟨rfl, rfl⟩
    have : tupE vs = 3 := by unfold tupE; rw [if_pos h16]
    exact ⟨by unfold tupS; rw [this]; rfl, Below.refl _ _⟩
  · by_cases h0 : vs = []
    · subst h0
      refine (tuple_none w a cap).mono ?_
      rintro e w' ⟨rfl, rfl⟩
      exact ⟨rfl, Below.refl _ _⟩
    · obtain ⟨b, off, rfl, hv⟩ := hf h0
      exact tuple_some w b off cap vs hwf hv (by omega)
end Go.Proofs.Ytbcbdaaaglkjhaa
