/- Plain facts on the sum of a text (CRC-32), bit by bit: no program is named here. -/
import Derived.WalkKit
namespace Go.Proofs.YtalmkgjinabceaaDoor.Cr

/-- The polynomial, reflected. -/
def poly : Nat := 3988292384
/-- One bit goes out. -/
def step (r : Nat) : Nat := (r >>> 1) ^^^ (if r % 2 = 1 then poly else 0)
/-- So many bits go out. -/
def steps : Nat → Nat → Nat
  | 0, r => r
  | k + 1, r => steps k (step r)

theorem xor_mod_two (a b : Nat) : (a ^^^ b) % 2 = (a % 2 + b % 2) % 2 := by
  have h := Nat.testBit_xor (x := a) (y := b) (i := 0)
  simp only [Nat.testBit_zero] at h
  rcases Nat.mod_two_eq_zero_or_one a with ha | ha <;> rcases Nat.mod_two_eq_zero_or_one b with hb | hb <;> rcases Nat.mod_two_eq_zero_or_one (a ^^^ b) with hc | hc <;> simp [ha, hb, hc] at h ⊢

theorem xlc (a b c : Nat) : a ^^^ (b ^^^ c) = b ^^^ (a ^^^ c) := by rw [← Nat.xor_assoc, Nat.xor_comm a, Nat.xor_assoc]
theorem xrc (a b c : Nat) : a ^^^ b ^^^ c = a ^^^ c ^^^ b := by rw [Nat.xor_assoc, Nat.xor_comm b, ← Nat.xor_assoc]
theorem xx (a b : Nat) : a ^^^ (a ^^^ b) = b := by rw [← Nat.xor_assoc, Nat.xor_self, Nat.zero_xor]

theorem step_xor (a b : Nat) : step (a ^^^ b) = step a ^^^ step b := by
  unfold step
  rw [Nat.shiftRight_xor_distrib, xor_mod_two]
  rcases Nat.mod_two_eq_zero_or_one a with ha | ha <;> rcases Nat.mod_two_eq_zero_or_one b with hb | hb <;> simp [ha, hb, Nat.xor_comm, xlc, xx]

theorem step_lt {r : Nat} (h : r < 4294967296) : step r < 4294967296 := by
  unfold step
  have h1 : r >>> 1 < 2 ^ 32 := by rw [Nat.shiftRight_eq_div_pow]; omega
  have h2 : (if r % 2 = 1 then poly else 0) < 2 ^ 32 := by split <;> decide
  exact Nat.xor_lt_two_pow h1 h2

theorem steps_lt : ∀ (k : Nat) {r : Nat}, r < 4294967296 → steps k r < 4294967296
  | 0, _, h => h
  | k + 1, _, h => steps_lt k (step_lt h)

theorem steps_xor : ∀ (k a b : Nat), steps k (a ^^^ b) = steps k a ^^^ steps k b
  | 0, _, _ => rfl
  | k + 1, a, b => by rw [steps, steps, steps, step_xor, steps_xor k]

theorem steps_add : ∀ (j k r : Nat), steps (j + k) r = steps k (steps j r)
  | 0, k, r => by rw [Nat.zero_add]; rfl
  | j + 1, k, r => by rw [Nat.add_right_comm]; exact steps_add j k (step r)

theorem step_even (n : Nat) : step (2 * n) = n := by
  unfold step
  rw [if_neg (by omega), Nat.xor_zero, Nat.shiftRight_eq_div_pow]
  omega

theorem steps_zero : ∀ k, steps k 0 = 0
  | 0 => rfl
  | k + 1 => by rw [steps, show step 0 = 0 from step_even 0, steps_zero k]

theorem steps_shift : ∀ (k n : Nat), steps k (2 ^ k * n) = n
  | 0, n => by simp [steps]
  | k + 1, n => by rw [steps, Nat.pow_succ, Nat.mul_right_comm, Nat.mul_comm, step_even, steps_shift k]

theorem xor_eq_zero {a b : Nat} (h : a ^^^ b = 0) : a = b := by
  have e : a ^^^ b ^^^ b = 0 ^^^ b := by rw [h]
  rwa [Nat.xor_assoc, Nat.xor_self, Nat.xor_zero, Nat.zero_xor] at e

theorem step_none {r : Nat} (h : r < 4294967296) (h0 : step r = 0) : r = 0 := by
  unfold step at h0
  have e := xor_eq_zero h0
  rw [Nat.shiftRight_eq_div_pow] at e
  rcases Nat.mod_two_eq_zero_or_one r with hr | hr
  · rw [if_neg (by omega)] at e; omega
  · rw [if_pos hr] at e; unfold poly at e; omega

theorem steps_none : ∀ (k : Nat) {r : Nat}, r < 4294967296 → steps k r = 0 → r = 0
  | 0, _, _, h => h
  | k + 1, _, h, h0 => step_none h (steps_none k (step_lt h) h0)

theorem xor_lt {a b : Nat} (ha : a < 4294967296) (hb : b < 4294967296) : a ^^^ b < 4294967296 := Nat.xor_lt_two_pow (n := 32) ha hb

theorem steps_inj (k : Nat) {a b : Nat} (ha : a < 4294967296) (hb : b < 4294967296) (h : steps k a = steps k b) : a = b := by
  refine xor_eq_zero (steps_none k (xor_lt ha hb) ?_)
  rw [steps_xor, h, Nat.xor_self]

/-- Low bits apart: what stands above them is shifted alone. -/
theorem join_xor (k a n : Nat) (h : a < 2 ^ k) : 2 ^ k * n + a = (2 ^ k * n) ^^^ a := by
  apply Nat.eq_of_testBit_eq
  intro i
  rw [Nat.testBit_two_pow_mul_add _ h, Nat.testBit_xor, Nat.testBit_two_pow_mul]
  by_cases hi : i < k
  · simp [hi, show ¬ k ≤ i by omega]
  · have h2 : a.testBit i = false := Nat.testBit_lt_two_pow (Nat.lt_of_lt_of_le h (Nat.pow_le_pow_right (by omega) (by omega)))
    simp [hi, show k ≤ i by omega, h2]

theorem steps_low (k r : Nat) : steps k r = (r / 2 ^ k) ^^^ steps k (r % 2 ^ k) := by
  have h := join_xor k (r % 2 ^ k) (r / 2 ^ k) (Nat.mod_lt _ (Nat.two_pow_pos k))
  rw [Nat.div_add_mod] at h
  conv => lhs; rw [h]
  rw [steps_xor, steps_shift]

/-- What four bits turn. -/
def tab : List Nat := [0, 498536548, 997073096, 651767980, 1994146192, 1802195444, 1303535960, 1342533948, 3988292384, 4027552580, 3604390888, 3412177804, 2607071920, 2262029012, 2685067896, 3183342108]
theorem tab_is : ∀ n, n < 16 → tab.getD n 0 = steps 4 n := by decide
theorem tab_lt : ∀ n, n < 16 → tab.getD n 0 < 4294967296 := by decide
theorem nibble (r : Nat) : (r / 16) ^^^ tab.getD (r % 16) 0 = steps 4 r := by
  rw [tab_is _ (Nat.mod_lt _ (by omega)), steps_low 4 r]

/-- A sum, not ended yet, goes on with a byte. -/
def upd (r b : Nat) : Nat := steps 8 (r ^^^ b)
/-- A sum, not ended yet, goes on with a text. -/
def st (r : Nat) (l : List UInt8) : Nat := l.foldl (fun r b => upd r b.toNat) r
/-- The sum of a text. -/
def crc (l : List UInt8) : Nat := st 4294967295 l ^^^ 4294967295

theorem byte_lt (b : UInt8) : b.toNat < 4294967296 := by have := b.toNat_lt; omega
theorem upd_lt {r b : Nat} (hr : r < 4294967296) (hb : b < 4294967296) : upd r b < 4294967296 := steps_lt 8 (xor_lt hr hb)
theorem upd_inj {r r' b : Nat} (hr : r < 4294967296) (hr' : r' < 4294967296) (hb : b < 4294967296) (h : upd r b = upd r' b) : r = r' := by
  have h1 := steps_inj 8 (xor_lt hr hb) (xor_lt hr' hb) h
  have e : r ^^^ b ^^^ b = r' ^^^ b ^^^ b := by rw [h1]
  rwa [Nat.xor_assoc, Nat.xor_assoc, Nat.xor_self, Nat.xor_zero, Nat.xor_zero] at e

theorem st_nil (r : Nat) : st r [] = r := rfl
theorem st_cons (r : Nat) (b : UInt8) (l : List UInt8) : st r (b :: l) = st (upd r b.toNat) l := rfl
theorem st_append (r : Nat) (l m : List UInt8) : st r (l ++ m) = st (st r l) m := by simp [st, List.foldl_append]
theorem st_snoc (r : Nat) (l : List UInt8) (b : UInt8) : st r (l ++ [b]) = upd (st r l) b.toNat := by rw [st_append]; rfl
theorem st_lt : ∀ (l : List UInt8) {r : Nat}, r < 4294967296 → st r l < 4294967296
  | [], _, h => h
  | b :: l, _, h => by rw [st_cons]; exact st_lt l (upd_lt h (byte_lt b))
theorem st_inj : ∀ (l : List UInt8) {r r' : Nat}, r < 4294967296 → r' < 4294967296 → st r l = st r' l → r = r'
  | [], _, _, _, _, h => h
  | b :: l, _, _, hr, hr', h => upd_inj hr hr' (byte_lt b) (st_inj l (upd_lt hr (byte_lt b)) (upd_lt hr' (byte_lt b)) h)
theorem crc_lt (l : List UInt8) : crc l < 4294967296 := xor_lt (st_lt l (by decide)) (by decide)

/-- Bytes as one word, the lowest first. -/
def word : List UInt8 → Nat
  | [] => 0
  | b :: l => 256 * word l + b.toNat
theorem word_lt : ∀ l : List UInt8, word l < 256 ^ l.length
  | [] => by simp [word]
  | b :: l => by
    have h := word_lt l
    have hb := b.toNat_lt
    rw [word, List.length_cons, Nat.pow_succ]
    omega
theorem word_inj : ∀ (l m : List UInt8), l.length = m.length → word l = word m → l = m
  | [], [], _, _ => rfl
  | [], _ :: _, h, _ => by simp at h
  | _ :: _, [], h, _ => by simp at h
  | b :: l, c :: m, h, e => by
    have hb := b.toNat_lt
    have hc := c.toNat_lt
    rw [word, word] at e
    have h1 : word l = word m := by omega
    have h2 : b = c := UInt8.toNat.inj (by omega)
    rw [h2, word_inj l m (by simpa using h) h1]

/-- A byte at a time is a word at once. -/
theorem st_word : ∀ (l : List UInt8) (r : Nat), st r l = steps (8 * l.length) (r ^^^ word l)
  | [], r => by simp [st, steps, word]
  | b :: l, r => by
    have e : word (b :: l) = (2 ^ 8 * word l) ^^^ b.toNat := join_xor 8 _ _ b.toNat_lt
    have e2 : steps 8 (r ^^^ word (b :: l)) = upd r b.toNat ^^^ word l := by
      rw [e, ← Nat.xor_assoc, xrc, steps_xor, steps_shift]; rfl
    rw [st_cons, st_word l, List.length_cons, Nat.mul_add, Nat.mul_one, Nat.add_comm, steps_add, e2]

theorem word_small {l : List UInt8} (h : l.length ≤ 4) : word l < 4294967296 :=
  Nat.lt_of_lt_of_le (word_lt l) (Nat.le_trans (Nat.pow_le_pow_right (by omega) h) (by decide))

/-- At most four bytes side by side are told by the state behind them. -/
theorem st_few {l m : List UInt8} {r : Nat} (hr : r < 4294967296) (hl : l.length ≤ 4) (hlm : l.length = m.length) (h : st r l = st r m) : l = m := by
  rw [st_word, st_word, hlm] at h
  have h1 := steps_inj _ (xor_lt hr (word_small hl)) (xor_lt hr (word_small (by omega))) h
  refine word_inj l m hlm ?_
  have e : r ^^^ (r ^^^ word l) = r ^^^ (r ^^^ word m) := by rw [h1]
  rwa [← Nat.xor_assoc, ← Nat.xor_assoc, Nat.xor_self, Nat.zero_xor, Nat.zero_xor] at e

/-- Two texts that part in at most four bytes side by side have unlike states. -/
theorem st_burst {p l m q : List UInt8} {r : Nat} (hr : r < 4294967296) (hl : l.length ≤ 4) (hlm : l.length = m.length) (h : st r (p ++ l ++ q) = st r (p ++ m ++ q)) : l = m := by
  rw [st_append, st_append r (p ++ m), st_append r p, st_append r p] at h
  have hp := st_lt p hr
  exact st_few hp hl hlm (st_inj q (st_lt l hp) (st_lt m hp) h)

theorem xor_inj {a b c : Nat} (h : a ^^^ c = b ^^^ c) : a = b := by
  have e : a ^^^ c ^^^ c = b ^^^ c ^^^ c := by rw [h]
  rwa [Nat.xor_assoc, Nat.xor_assoc, Nat.xor_self, Nat.xor_zero, Nat.xor_zero] at e
theorem crc_burst {p l m q : List UInt8} (hl : l.length ≤ 4) (hlm : l.length = m.length) (h : crc (p ++ l ++ q) = crc (p ++ m ++ q)) : l = m :=
  st_burst (by decide) hl hlm (xor_inj h)

/-- A number's four bytes, the lowest first. -/
def le4 (n : Nat) : List UInt8 := [UInt8.ofNat n, UInt8.ofNat (n / 256), UInt8.ofNat (n / 65536), UInt8.ofNat (n / 16777216)]
theorem le4_length (n : Nat) : (le4 n).length = 4 := rfl
theorem word_le4 {n : Nat} (h : n < 4294967296) : word (le4 n) = n := by
  simp only [le4, word, UInt8.toNat_ofNat', Nat.reducePow]
  omega

/-- A text with its sum behind it comes to one and the same state. -/
theorem st_whole (l : List UInt8) : st 4294967295 (l ++ le4 (crc l)) = steps 32 4294967295 := by
  rw [st_append, st_word, le4_length, word_le4 (crc_lt l), crc, ← Nat.xor_assoc, Nat.xor_self, Nat.zero_xor]

/-- Two texts, each with its sum behind it, that part in at most four bytes side by side are one. -/
theorem whole_burst {a b p l m q : List UInt8} (hl : l.length ≤ 4) (hlm : l.length = m.length) (ha : a ++ le4 (crc a) = p ++ l ++ q) (hb : b ++ le4 (crc b) = p ++ m ++ q) : l = m := by
  refine st_burst (r := 4294967295) (by decide) hl hlm (p := p) (q := q) ?_
  rw [← ha, ← hb, st_whole, st_whole]

/-- The document's way: a bit of the byte at a time. -/
def feed (r b : Nat) : Nat := if (r ^^^ b) % 2 = 1 then (r / 2) ^^^ poly else r / 2
def feeds (r b : Nat) : Nat → Nat
  | 0 => r
  | k + 1 => feed (feeds r b k) (b / 2 ^ k)
theorem feed_is (r b : Nat) : feed r b = step (r ^^^ b) ^^^ (b / 2) := by
  unfold feed step
  rw [Nat.shiftRight_xor_distrib, Nat.shiftRight_eq_div_pow, Nat.shiftRight_eq_div_pow]
  simp only [Nat.pow_one]
  rw [xrc, Nat.xor_assoc (r / 2), Nat.xor_self, Nat.xor_zero]
  split
  · rfl
  · rw [Nat.xor_zero]
theorem steps_snoc (k r : Nat) : steps (k + 1) r = step (steps k r) := by rw [steps_add k 1]; rfl
theorem feeds_is (r b : Nat) : ∀ k, feeds r b k = steps k (r ^^^ b) ^^^ (b / 2 ^ k)
  | 0 => by simp [feeds, steps, Nat.xor_assoc]
  | k + 1 => by
    rw [feeds, feed_is, feeds_is r b k, Nat.xor_assoc, Nat.xor_self, Nat.xor_zero, steps_snoc, Nat.div_div_eq_div_mul, Nat.pow_succ]
theorem feeds_byte (r : Nat) (b : UInt8) : feeds r b.toNat 8 = upd r b.toNat := by
  have h : b.toNat / 2 ^ 8 = 0 := by have := b.toNat_lt; omega
  rw [feeds_is, h, Nat.xor_zero, upd]
theorem feeds_lt (r : Nat) (b : UInt8) (hr : r < 4294967296) (k : Nat) : feeds r b.toNat k < 4294967296 := by
  rw [feeds_is]
  exact xor_lt (steps_lt k (xor_lt hr (byte_lt b))) (Nat.lt_of_le_of_lt (Nat.div_le_self _ _) (byte_lt b))

end Go.Proofs.YtalmkgjinabceaaDoor.Cr
