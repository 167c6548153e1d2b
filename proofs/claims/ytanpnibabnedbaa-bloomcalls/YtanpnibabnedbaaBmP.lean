/-
  Filters in plain words: the hash, a key's bits, a filter's bytes, what a filter says of a key. Nothing here speaks of the program.
-/
import Derived.WalkKit
namespace Go.Proofs.Ytanpnibabnedbaa.Bm

def start : Nat := 14695981039346656037
/-- One byte more. -/
def hash1 (h : Nat) (c : UInt8) : Nat := ((h ^^^ c.toNat) * 1099511628211) % 18446744073709551616
def hash (l : List UInt8) : Nat := l.foldl hash1 start

theorem hash1_lt (h : Nat) (c : UInt8) : hash1 h c < 18446744073709551616 := Nat.mod_lt _ (by decide)
theorem hash_snoc (l : List UInt8) (c : UInt8) : hash (l ++ [c]) = hash1 (hash l) c := by unfold hash; rw [List.foldl_append, List.foldl_cons, List.foldl_nil]
theorem hash_take (l : List UInt8) (j : Nat) (h : j < l.length) : hash (l.take (j + 1)) = hash1 (hash (l.take j)) l[j] := by
  rw [List.take_succ_eq_append_getElem h, hash_snoc]
theorem fold_lt (l : List UInt8) : ∀ h, h < 18446744073709551616 → l.foldl hash1 h < 18446744073709551616 := by
  induction l with
  | nil => intro h hh; exact hh
  | cons c l ih => intro h _; rw [List.foldl_cons]; exact ih _ (hash1_lt _ _)
theorem hash_lt (l : List UInt8) : hash l < 18446744073709551616 := fold_lt l start (by decide)

def low (h : Nat) : Nat := h % 4294967296
def high (h : Nat) : Nat := h / 4294967296 ||| 1
theorem low_lt (h : Nat) : low h < 4294967296 := Nat.mod_lt _ (by decide)
theorem high_lt (h : Nat) (hh : h < 18446744073709551616) : high h < 4294967296 := by
  unfold high
  exact Nat.or_lt_two_pow (n := 32) (by omega) (by decide)

/-- A key's bit in the round i, of m. -/
def place (h i m : Nat) : Nat := (low h + i * high h) % m
theorem place_lt (h i m : Nat) (hm : 0 < m) : place h i m < m := Nat.mod_lt _ hm
theorem sum_lt (h i : Nat) (hh : h < 18446744073709551616) (hi : i < 256) : low h + i * high h < 1103806595072 := by
  have h1 := low_lt h
  have h2 := high_lt h hh
  have : i * high h ≤ 255 * 4294967295 := Nat.mul_le_mul (by omega) (by omega)
  omega

/-- Is the bit p of these bytes 1? -/
def on (b : List UInt8) (p : Nat) : Bool := ((b.getD (p / 8) 0).toNat).testBit (p % 8)
/-- The bit p made 1. -/
def put (b : List UInt8) (p : Nat) : List UInt8 := b.set (p / 8) (b.getD (p / 8) 0 ||| UInt8.ofNat (2 ^ (p % 8)))

theorem put_length (b : List UInt8) (p : Nat) : (put b p).length = b.length := by simp [put]

theorem bit_lt (r : Nat) (h : r < 8) : 2 ^ r < 256 := by
  have : 2 ^ r ≤ 2 ^ 7 := Nat.pow_le_pow_right (by decide) (by omega)
  omega
theorem or_bit (c : UInt8) (r q : Nat) (hr : r < 8) : ((c ||| UInt8.ofNat (2 ^ r)).toNat).testBit q = (c.toNat.testBit q || decide (r = q)) := by
  rw [UInt8.toNat_or, Nat.testBit_or, UInt8.toNat_ofNat', Nat.mod_eq_of_lt (bit_lt r hr), Nat.testBit_two_pow]

/-- A bit that is made 1 is 1, and the others are as they were. -/
theorem on_put (b : List UInt8) (p q : Nat) (hp : p < 8 * b.length) : on (put b p) q = (on b q || decide (p = q)) := by
  unfold on put
  by_cases hd : p / 8 = q / 8
  · have hlt : p / 8 < b.length := by omega
    have e : (b.set (p / 8) (b.getD (p / 8) 0 ||| UInt8.ofNat (2 ^ (p % 8)))).getD (q / 8) 0 = b.getD (p / 8) 0 ||| UInt8.ofNat (2 ^ (p % 8)) := by
      rw [← hd]; simp [List.getD, hlt]
    rw [e, or_bit _ _ _ (Nat.mod_lt _ (by decide)), ← hd]
    congr 1
    rw [decide_eq_decide]
    omega
  · have e : (b.set (p / 8) (b.getD (p / 8) 0 ||| UInt8.ofNat (2 ^ (p % 8)))).getD (q / 8) 0 = b.getD (q / 8) 0 := by
      simp [List.getD, List.getElem?_set_ne hd]
    rw [e]
    have : decide (p = q) = false := by rw [decide_eq_false_iff_not]; intro h; exact hd (by rw [h])
    rw [this, Bool.or_false]

/-- The first k of a key's bits made 1. -/
def putK (b : List UInt8) (h : Nat) : Nat → List UInt8
  | 0 => b
  | k + 1 => put (putK b h k) (place h k (8 * b.length))
theorem putK_length (b : List UInt8) (h k : Nat) : (putK b h k).length = b.length := by
  induction k with
  | zero => rfl
  | succ k ih => rw [putK, put_length, ih]

/-- Are the first k of a key's bits 1? -/
def hasK (b : List UInt8) (h : Nat) : Nat → Bool
  | 0 => true
  | k + 1 => hasK b h k && on b (place h k (8 * b.length))

theorem hasK_iff (b : List UInt8) (h k : Nat) : hasK b h k = true ↔ ∀ i, i < k → on b (place h i (8 * b.length)) = true := by
  induction k with
  | zero => simp [hasK]
  | succ k ih =>
    rw [hasK, Bool.and_eq_true, ih]
    constructor
    · rintro ⟨h1, h2⟩ i hi
      rcases Nat.lt_succ_iff_lt_or_eq.mp hi with h | rfl
      · exact h1 i h
      · exact h2
    · intro h1
      exact ⟨fun i hi => h1 i (by omega), h1 k (by omega)⟩
theorem hasK_false (b : List UInt8) (h k i : Nat) (hi : i < k) (hf : on b (place h i (8 * b.length)) = false) : hasK b h k = false := by
  rw [Bool.eq_false_iff]
  intro ht
  rw [(hasK_iff b h k).mp ht i hi] at hf
  cases hf

/-- What is 1 stays 1. -/
theorem putK_keeps (b : List UInt8) (h k q : Nat) (hb : 0 < b.length) (hq : on b q = true) : on (putK b h k) q = true := by
  induction k with
  | zero => exact hq
  | succ k ih => rw [putK, on_put _ _ _ (by rw [putK_length]; exact place_lt _ _ _ (by omega)), ih, Bool.true_or]
theorem putK_on (b : List UInt8) (h k i : Nat) (hb : 0 < b.length) (hi : i < k) : on (putK b h k) (place h i (8 * b.length)) = true := by
  induction k with
  | zero => omega
  | succ k ih =>
    rw [putK, on_put _ _ _ (by rw [putK_length]; exact place_lt _ _ _ (by omega))]
    rcases Nat.lt_succ_iff_lt_or_eq.mp hi with h | rfl
    · rw [ih h, Bool.true_or]
    · simp

/-- The bits of all keys made 1. -/
def putAll (b : List UInt8) (k : Nat) (hs : List Nat) : List UInt8 := hs.foldl (fun b h => putK b h k) b
theorem putAll_snoc (b : List UInt8) (k : Nat) (hs : List Nat) (h : Nat) : putAll b k (hs ++ [h]) = putK (putAll b k hs) h k := by simp [putAll]
theorem putAll_length (b : List UInt8) (k : Nat) (hs : List Nat) : (putAll b k hs).length = b.length := by
  induction hs generalizing b with
  | nil => rfl
  | cons h hs ih => show (putAll (putK b h k) k hs).length = _; rw [ih, putK_length]
theorem putAll_keeps (b : List UInt8) (k : Nat) (hs : List Nat) (q : Nat) (hb : 0 < b.length) (hq : on b q = true) : on (putAll b k hs) q = true := by
  induction hs generalizing b with
  | nil => exact hq
  | cons h hs ih => exact ih (putK b h k) (by rw [putK_length]; exact hb) (putK_keeps b h k q hb hq)
/-- No key is missed. -/
theorem putAll_has (b : List UInt8) (k : Nat) (hs : List Nat) (h : Nat) (hb : 0 < b.length) (hh : h ∈ hs) : hasK (putAll b k hs) h k = true := by
  rw [hasK_iff, putAll_length]
  intro i hi
  induction hs generalizing b with
  | nil => cases hh
  | cons g hs ih =>
    rcases List.mem_cons.mp hh with rfl | hm
    · exact putAll_keeps (putK b h k) k hs _ (by rw [putK_length]; exact hb) (putK_on b h k i hb hi)
    · have := ih (putK b g k) (by rw [putK_length]; exact hb) hm
      rwa [putK_length] at this

/-- How many bytes of bits, and how many rounds. -/
def bytes (n d : Nat) : Nat := max 1 ((n * d + 7) / 8)
def rounds (d : Nat) : Nat := (d * 69 + 99) / 100
theorem bytes_pos (n d : Nat) : 0 < bytes n d := by unfold bytes; omega
theorem rounds_le (d : Nat) (h : 1 ≤ d) (h2 : d ≤ 16) : 1 ≤ rounds d ∧ rounds d ≤ 12 := by unfold rounds; omega

/-- The filter's bits, and its bytes. -/
def body (ks : List (List UInt8)) (d : Nat) : List UInt8 := putAll (List.replicate (bytes ks.length d) 0) (rounds d) (ks.map hash)
def filt (ks : List (List UInt8)) (d : Nat) : List UInt8 := UInt8.ofNat (rounds d) :: body ks d
theorem body_length (ks : List (List UInt8)) (d : Nat) : (body ks d).length = bytes ks.length d := by unfold body; rw [putAll_length, List.length_replicate]
theorem filt_length (ks : List (List UInt8)) (d : Nat) : (filt ks d).length = bytes ks.length d + 1 := by unfold filt; rw [List.length_cons, body_length]

/-- Is it a filter? -/
def ok (f : List UInt8) : Bool := decide (2 ≤ f.length) && (decide (1 ≤ (f.headD 0).toNat) && decide ((f.headD 0).toNat ≤ 12))
/-- What it says of a key. -/
def has (f : List UInt8) (key : List UInt8) : Bool := hasK f.tail (hash key) (f.headD 0).toNat

theorem filt_ok (ks : List (List UInt8)) (d : Nat) (h : 1 ≤ d) (h2 : d ≤ 16) : ok (filt ks d) = true := by
  have hr := rounds_le d h h2
  have hb := bytes_pos ks.length d
  have hl := filt_length ks d
  have e : ((filt ks d).headD 0).toNat = rounds d := by
    show (UInt8.ofNat (rounds d)).toNat = _
    rw [UInt8.toNat_ofNat']; omega
  unfold ok
  rw [e, hl]
  simp
  omega
/-- A filter never says no to a key that it has. -/
theorem filt_has (ks : List (List UInt8)) (d : Nat) (h : 1 ≤ d) (h2 : d ≤ 16) (k : List UInt8) (hk : k ∈ ks) : has (filt ks d) k = true := by
  have hr := rounds_le d h h2
  have hb := bytes_pos ks.length d
  have e : ((filt ks d).headD 0).toNat = rounds d := by
    show (UInt8.ofNat (rounds d)).toNat = _
    rw [UInt8.toNat_ofNat']; omega
  unfold has
  rw [e]
  show hasK (body ks d) _ _ = true
  exact putAll_has _ _ _ _ (by rw [List.length_replicate]; exact hb) (List.mem_map_of_mem hk)

/-- Both together. -/
def both (a b : List UInt8) : List UInt8 := List.zipWith (· ||| ·) a b
theorem both_length (a b : List UInt8) (h : a.length = b.length) : (both a b).length = a.length := by simp [both, h]
theorem both_on (a b : List UInt8) (q : Nat) (h : a.length = b.length) : on (both a b) q = (on a q || on b q) := by
  unfold on
  by_cases hq : q / 8 < a.length
  · have : (both a b).getD (q / 8) 0 = a.getD (q / 8) 0 ||| b.getD (q / 8) 0 := by
      have hb : q / 8 < b.length := by omega
      unfold both
      rw [List.getD_eq_getElem?_getD, List.getElem?_zipWith, List.getElem?_eq_getElem hq, List.getElem?_eq_getElem hb, List.getD_eq_getElem?_getD, List.getElem?_eq_getElem hq, List.getD_eq_getElem?_getD, List.getElem?_eq_getElem hb]
      rfl
    rw [this, UInt8.toNat_or, Nat.testBit_or]
  · have h1 : (both a b).getD (q / 8) 0 = 0 := by rw [List.getD_eq_getElem?_getD, List.getElem?_eq_none (by rw [both_length a b h]; omega)]; rfl
    have h2 : a.getD (q / 8) 0 = 0 := by rw [List.getD_eq_getElem?_getD, List.getElem?_eq_none (by omega)]; rfl
    have h3 : b.getD (q / 8) 0 = 0 := by rw [List.getD_eq_getElem?_getD, List.getElem?_eq_none (by omega)]; rfl
    rw [h1, h2, h3]
    simp
/-- Both has whatever one has. -/
theorem both_has (c : UInt8) (a b : List UInt8) (h : a.length = b.length) (k : List UInt8) : (has (c :: a) k = true → has (both (c :: a) (c :: b)) k = true) ∧ (has (c :: b) k = true → has (both (c :: a) (c :: b)) k = true) := by
  have e : both (c :: a) (c :: b) = c :: both a b := by unfold both; rw [List.zipWith_cons_cons, UInt8.or_self]
  rw [e]
  unfold has
  show (hasK a _ c.toNat = true → hasK (both a b) _ c.toNat = true) ∧ (hasK b _ c.toNat = true → hasK (both a b) _ c.toNat = true)
  simp only [hasK_iff, both_length a b h]
  refine ⟨fun g i hi => ?_, fun g i hi => ?_⟩
  · rw [both_on a b _ h, g i hi, Bool.true_or]
  · rw [both_on a b _ h]
    have := g i hi
    rw [← h] at this
    rw [this, Bool.or_true]
end Go.Proofs.Ytanpnibabnedbaa.Bm
